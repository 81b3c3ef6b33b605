/- Own. -/
import Derived.Test.YtdjjlghlcffflaaGreatDoorGe
import Derived.Test.YtdjjlghlcffflaaGreatDoorQd
set_option linter.unusedVariables false
set_option linter.unusedSimpArgs false
set_option maxHeartbeats 8000000
set_option maxRecDepth 100000
namespace Go.Proofs.YtdjjlghlcffflaaGreatDoor
open Go.RowKit
theorem kH(a b:Int)(w:World)(ha0:0<=a)(ha1:a<18446744073709551616)(hb0:0<=b)(hb1:b<18446744073709551616):
  Calls Tryz.prog 177 #[.int .u64 a,.int .u64 b] w fun e w'=>e=.returned (.int .u64 (Int.gcd a b))/\Below w.heap.size w w':=by
 obtain⟨g,hg⟩:∃g:Int,g=Int.gcd a b:=⟨_,rfl⟩;have HG:Hid (g=Int.gcd a b):=hg;rw[<-hg];clear hg;go_enter Tryz.func177,Tryz.ntmps177;go_wp2;go_loopw [0,1] (fun av bv wr=>∃x y:Int,av=.int .u64 x/\bv=.int .u64 y/\0<=x/\x<18446744073709551616/\0<=y/\y<18446744073709551616/\Hid ((Int.gcd x y:Int)=g/\Below w.heap.size w wr)) (fun _ bv _=>(intOf bv).toNat)
 case atStart=>exact⟨a,b,rfl,rfl,ha0,ha1,hb0,hb1,HG.out.symm,Jt _ _⟩
 case round=>
  obtain⟨x,y,rfl,rfl,hx0,hx1,hy0,hy1,H⟩:=hrel;by_cases h0:y=0
  ·subst h0
   go_wp2;go_ret;obtain⟨h1,h2⟩:=H.out;refine⟨?_,h2⟩;rw[Int.gcd_zero_right] at h1
   show Ending.returned (.int .u64 x)=_
   rw[show x=g by omega]
  ·have hy:0<y:=by omega
   have hyz:(y==0)=false:=beq_eq_false_iff_ne.2 h0;have r0:=Int.emod_nonneg x h0;have r1:=JK x hy;go_wp2;go_region;all_goals go_wp2
   obtain⟨h1,h2⟩:=H.out;refine⟨⟨y,x%y,rfl,rfl,hy0,hy1,r0,by omega,?_,h2.drew⟩,by simp[intOf];omega⟩
   rw[<-h1];congr 1;refine mN (q:=x/y) ?_;have:=Int.emod_add_mul_ediv x y;rw[JI y] at this
   omega
def rdv(w:World):Value->Nat
 | .slice (some ⟨b,off,none⟩) n _=>(val ((List.range n).map fun j=>match w.cell? ⟨b,off+j,none⟩ with|some (.int _ x)=>x|_=>0)).toNat
 |_=>0
variable {w:World} {g n:Nat} {A:List Int}
theorem cZ{e:TypeId}{k:IntKind}(h:Row w g e k A){c:Nat}(hn:n<=A.length):rdv w (.slice (some ⟨g,0,none⟩) n c)=(val (A.take n)).toNat:=by
 have e:((List.range n).map fun j=>match w.cell? ⟨g,0+j,none⟩ with|some (.int _ x)=>x|_=>0)=A.take n:=by
  refine dm _ _ (by simp;omega) fun j hj=>?_
  have hj':j<n:=by simpa using hj
  rw[bZ _ _ hj,bm _ _ _ hj'];simp only[List.getElem_map,List.getElem_range,Nat.zero_add,h.cell j (by omega)]
 simp only[rdv,e]
structure Dv(w wr:World)(ga gb na nb:Nat)(A Bl:List Int)(g:Nat):Prop where
 ne:ga≠gb
 la:w.heap.size<=ga
 lb:w.heap.size<=gb
 ra:Row wr ga 97 .u32 A
 rb:Row wr gb 97 .u32 Bl
 ua:U32 A
 ub:U32 Bl
 qa:na<=A.length
 qb:nb<=Bl.length
 ta:ad (A.take na)=na
 tb:ad (Bl.take nb)=nb
 le:val (Bl.take nb)<=val (A.take na)
 g:Int.gcd (val (A.take na)) (val (Bl.take nb))=g
 bl:Below w.heap.size w wr
variable {a b:List Int}
theorem me(ha:U32 a)(hb:U32 b)(h:val b<=val a):ad b<=ad a:=by
 rcases Ju (ad a) (ad b) with h1|h1
 ·exfalso
  have h2:=f_ ha;have h3:=bV hb (by omega)
  have h4:pw (ad a)<=pw (ad b-1):=aW (by omega)
  omega
 ·exact h1
theorem bR:A.take (ad (A.take n))=tr (A.take n):=by
 have:=aj (A.take n);have h2:(A.take n).length<=n:=List.length_take_le _ _;rw[tr,List.take_take,Nat.min_eq_left (by omega)]
def Hk(K g:Nat)(w:World)(e:Ending)(w':World):Prop:=
 ∃q n nc zs,e=.returned (.slice q n nc)/\Rd w' q .u32 zs/\U32 zs/\zs.length=n/\n<=nc/\nc<=maxLen/\n<=K/\val zs=g/\aJ w.heap.size q/\Fz w' q/\Below w.heap.size w w'
theorem yn(p q:Option Addr)(n nc m mc:Nat)(xs ys:List Int)(w:World)(hA:AI w p n nc xs)(hB:AI w q m mc ys)(K:Nat)(hK2:2<=K)(hK:K<=150)(hn:n<K)(hm:m<K)(htx:ad xs=n)(hty:ad ys=m):
  Calls Tryz.prog 135 #[.slice p n nc,.slice q m mc] w (Hk K (Int.gcd (val xs) (val ys)) w):=by
 obtain⟨g,hg⟩:∃g,g=Int.gcd (val xs) (val ys):=⟨_,rfl⟩;have HG:Hid (g=Int.gcd (val xs) (val ys)):=hg;rw[<-hg];clear hg;go_enter Tryz.func135,Tryz.ntmps135;go_wp2_with fail;refine(gL p n nc xs _ hA.len (by omega) hA.rd).mono ?_
 rintro e w' ⟨rfl,rfl⟩;go_wp2_with fail;have hB1:=hB.alloc (.cells (ca .u32 xs) 97);refine(gL q m mc ys _ hB.len (by omega) hB1.rd).mono ?_
 rintro e w' ⟨rfl,rfl⟩;have hrx:Row ((w.alloc (.cells (ca .u32 xs) 97)).alloc (.cells (ca .u32 ys) 97)) w.heap.size 97 .u32 xs:=(Row.new w _ _ _).alloc _;have hry:Row ((w.alloc (.cells (ca .u32 xs) 97)).alloc (.cells (ca .u32 ys) 97)) (w.heap.size+1) 97 .u32 ys:=Row.oy w _ _ _ _;have hbw:Below w.heap.size w ((w.alloc (.cells (ca .u32 xs) 97)).alloc (.cells (ca .u32 ys) 97)):=ag (ag (Jt _ _));clear hB1;go_wp2_with fail;generalize ((w.alloc (.cells (ca .u32 xs) 97)).alloc (.cells (ca .u32 ys) 97))=W at *
 refine(ey (some ⟨w.heap.size,0,none⟩) (some ⟨w.heap.size+1,0,none⟩) n n m m xs ys _ hA.len hB.len (Jr _) (by unfold maxLen;omega) (Jr _) (by unfold maxLen;omega) hrx.a8 hA.u hry.a8 hB.u).mono ?_
 rintro e w1 ⟨rfl,hb1⟩;have hrx1:=hrx.below hb1 hrx.lt;have hry1:=hry.below hb1 hry.lt;have hbw1:=bh hbw (Jr _) hb1;have hlx:=hA.len;have hly:=hB.len;have hux:=hA.u;have huy:=hB.u;have HX:Hid (Row w1 w.heap.size 97 .u32 xs/\Row w1 (w.heap.size+1) 97 .u32 ys/\Below w.heap.size w w1/\xs.length=n/\ys.length=m/\U32 xs/\U32 ys/\ad xs=n/\ad ys=m):=⟨hrx1,hry1,hbw1,hlx,hly,hux,huy,htx,hty⟩;clear hrx hry hbw hb1 hrx1 hry1 hbw1 hlx hly hux huy htx hty hA hB;rcases(show val xs<val ys\/val ys<=val xs by omega) with hlt|hle
 ·have hic:bQ (val xs) (val ys) = -1:=cK hlt
  have HS:Hid (Dv w w1 (w.heap.size+1) w.heap.size m n ys xs g):=by
   obtain⟨f1,f2,f3,f4,f5,f6,f7,f8,f9⟩:=HX.out;exact⟨by omega,by omega,by omega,f2,f1,f7,f6,by omega,by omega,by rw[Jv (by omega)];exact f9,by rw[Jv (by omega)];exact f8,by rw[Jv (by omega),Jv (by omega)];omega,by rw[Jv (by omega),Jv (by omega),Int.gcd_comm];exact HG.out.symm,f3⟩
  clear HX HG hlt;go_wp2;go_loopw [5,6] (fun av bv wr=>∃(ga gb na nac nb nbc:Nat) (A Bl:List Int),av=.slice (some ⟨ga,0,none⟩) na nac/\bv=.slice (some ⟨gb,0,none⟩) nb nbc/\na<K/\nb<=na/\na<=nac/\nac<=1000000000/\nb<=nbc/\nbc<=1000000000/\Hid (Dv w wr ga gb na nb A Bl g)) (fun av bv wr=>rdv wr av+rdv wr bv)
  case atStart=>exact⟨w.heap.size+1,w.heap.size,m,m,n,n,ys,xs,rfl,rfl,by omega,by have h:=HS.out;have h1:=me (an h.ua m) (an h.ub n) h.le;rw[h.ta,h.tb] at h1;exact h1,by omega,by omega,by omega,by omega,HS.out⟩
  case round=>
   obtain⟨ga,gb,na,nac,nb,nbc,A,Bl,rfl,rfl,hna,hnb,hac,hac',hbc,hbc',H⟩:=hrel;by_cases hc:2<na/\0<nb
   ·obtain⟨hc1,hc2⟩:=hc
    obtain⟨k,rfl⟩:∃k,na=k+1:=⟨na-1,by omega⟩
    have hc1I:(2:Int)<(k:Int)+1:=by omega
    have hc2I:0<(nb:Int):=by omega
    have hD:=H.out;have hlA:(A.take (k+1)).length=k+1:=by have:=hD.qa;simp;omega
    have hlB:(Bl.take nb).length=nb:=by have:=hD.qb;simp;omega
    have htop:0<gx (A.take (k+1)) k:=by
     have h1:=aw (A.take (k+1)) (by rw[hD.ta];omega)
     rw[hD.ta,JD] at h1
     have h2:=(an hD.ua (k+1)) k;omega
    have hlk:=fun W (hx:Rd W (some ⟨ga,0,none⟩) .u32 (A.take (k+1))) (hy:Rd W (some ⟨gb,0,none⟩) .u32 (Bl.take nb))=>nJ (some ⟨ga,0,none⟩) (some ⟨gb,0,none⟩) k nac nb nbc (A.take (k+1)) (Bl.take nb) W hlA (by omega) (by omega) hx (an hD.ua _) htop hlB (by omega) hy (an hD.ub _) hD.le
    have HLK:=hlk wr (hD.ra.b5 _) (hD.rb.b5 _);have HAB:Hid ((A.take (k+1)).length=k+1/\(Bl.take nb).length=nb):=⟨hlA,hlB⟩;clear hlk hD hlA hlB htop;go_wp2_with fail;refine HLK.mono ?_;clear HLK;rintro e w2 ⟨aa,ab,ba,bb,ok,rfl,hgood,hb2⟩;have HGD:Hid (ok=true->Good (val (A.take (k+1))) (val (Bl.take nb)) aa ab ba bb):=hgood;clear hgood;have HD2:Hid (Dv w w2 ga gb (k+1) nb A Bl g):=by
     have h:=H.out;exact⟨h.ne,h.la,h.lb,h.ra.below hb2 h.ra.lt,h.rb.below hb2 h.rb.lt,h.ua,h.ub,h.qa,h.qb,h.ta,h.tb,h.le,h.g,bh h.bl (Jr _) hb2⟩
    clear hb2
    cases ok
    ·
     go_wp2_with fail;have hal:Below w2.heap.size w2 (w2.alloc (.cells #[.int .i64 aa,.int .i64 ab,.int .i64 ba,.int .i64 bb] 175)):=ag (Jt _ _);have HD3:Hid (Dv w (w2.alloc (.cells #[.int .i64 aa,.int .i64 ab,.int .i64 ba,.int .i64 bb] 175)) ga gb (k+1) nb A Bl g):=by
      have h:=HD2.out;exact⟨h.ne,h.la,h.lb,h.ra.below hal h.ra.lt,h.rb.below hal h.rb.lt,h.ua,h.ub,h.qa,h.qb,h.ta,h.tb,h.le,h.g,bh h.bl (Jr _) hal⟩
     generalize (w2.alloc (.cells #[.int .i64 aa,.int .i64 ab,.int .i64 ba,.int .i64 bb] 175))=W3 at *
     clear HD2 hal HGD;have hAI:AI W3 (some ⟨ga,0,none⟩) (k+1) nac (A.take (k+1)):=⟨HAB.out.1,hac,by unfold maxLen;omega,by omega,HD3.out.ra.b5 _,an HD3.out.ua _⟩
     have hBI:AI W3 (some ⟨gb,0,none⟩) nb nbc (Bl.take nb):=⟨HAB.out.2,hbc,by unfold maxLen;omega,by omega,HD3.out.rb.b5 _,an HD3.out.ub _⟩
     refine(kz (some ⟨ga,0,none⟩) (some ⟨gb,0,none⟩) (k+1) nac nb nbc (A.take (k+1)) (Bl.take nb) _ hAI hBI (by omega) (by omega) HD3.out.tb hc2).mono ?_
     rintro e w4 ⟨qa,qn,qs,ra,rn,rc,rs,rfl,hQ,hrc,hrc',hb4⟩;obtain⟨gz,Z,rfl,hz1,hz2,hz3⟩:=hQ.row;have HQ:Hid (val qs*val (Bl.take nb)+val rs=val (A.take (k+1))/\val rs<val (Bl.take nb)/\rs.length=rn/\U32 rs/\Rd w4 (some ⟨gz,0,none⟩) .u32 rs/\Row w4 gz 97 .u32 Z/\Z.take rn=rs/\U32 Z/\W3.heap.size<=gz/\Below W3.heap.size W3 w4):=⟨hQ.eq,hQ.lt,hQ.rl,hQ.ru,hQ.rrd,hz1,hz2,hz3,hQ.rf _ rfl,hb4⟩;clear hQ hz1 hz2 hz3 hb4 hAI hBI;go_wp2_with fail;refine(aS (some ⟨gz,0,none⟩) rn rc rs _ HQ.out.2.2.1 hrc (by unfold maxLen;omega) HQ.out.2.2.2.2.1).mono ?_
     rintro e w5 ⟨rfl,rfl⟩;go_wp2;obtain⟨q1,q2,q3,q4,q5,q6,q7,q8,q9,q10⟩:=HQ.out;have hD:=HD3.out;have htl:=aj rs;have hzl:rn<=Z.length:=by have:=congrArg List.length q7;simp at this;omega
     have hzt:Z.take (ad rs)=tr rs:=by rw[<-q7];exact bR
     have hn2:=me (an hD.ub nb) q4 (by omega)
     rw[hD.tb] at hn2
     have hDn:Dv w w4 gb gz nb (ad rs) Bl Z g:=⟨by have:=hD.rb.lt;omega,hD.lb,by have:=hD.bl.size;omega,hD.rb.below q10 hD.rb.lt,q6,hD.ub,q8,hD.qb,by omega,hD.tb,by rw[hzt,aM],by rw[hzt,aK];omega,by rw[hzt,aK,mN q1];exact hD.g,bh hD.bl (Jr _) q10⟩
     refine⟨⟨gb,gz,nb,nbc,ad rs,rc,Bl,Z,rfl,rfl,by omega,hn2,hbc,hbc',by omega,by omega,hDn⟩,?_⟩
     rw[cZ hDn.ra hDn.qa,cZ hDn.rb hDn.qb,cZ H.out.ra H.out.qa,cZ H.out.rb H.out.qb,hzt,aK];have e1:=ar q4;have e2:=hD.le;have e3:=ar (an hD.ub nb);omega
    ·
     obtain⟨g1,g2,g3,g4,g5,g6,g7,g8,g9,g10,g11,g12⟩:=HGD.out rfl;have hsb:Row (w2.alloc (.cells #[.int .i64 aa,.int .i64 ab,.int .i64 ba,.int .i64 bb] 175)) w2.heap.size 175 .i64 [aa,ab,ba,bb]:=Row.new w2 175 .i64 [aa,ab,ba,bb];have hal:Below w2.heap.size w2 (w2.alloc (.cells #[.int .i64 aa,.int .i64 ab,.int .i64 ba,.int .i64 bb] 175)):=ag (Jt _ _);have HD3:Hid (Dv w (w2.alloc (.cells #[.int .i64 aa,.int .i64 ab,.int .i64 ba,.int .i64 bb] 175)) ga gb (k+1) nb A Bl g):=by
      have h:=HD2.out;exact⟨h.ne,h.la,h.lb,h.ra.below hal h.ra.lt,h.rb.below hal h.rb.lt,h.ua,h.ub,h.qa,h.qb,h.ta,h.tb,h.le,h.g,bh h.bl (Jr _) hal⟩
     have HR:Hid (0<=ba*val (A.take (k+1))+bb*val (Bl.take nb)/\ba*val (A.take (k+1))+bb*val (Bl.take nb)<aa*val (A.take (k+1))+ab*val (Bl.take nb)/\aa*val (A.take (k+1))+ab*val (Bl.take nb)<=val (Bl.take nb)/\Int.gcd (aa*val (A.take (k+1))+ab*val (Bl.take nb)) (ba*val (A.take (k+1))+bb*val (Bl.take nb))=Int.gcd (val (A.take (k+1))) (val (Bl.take nb))):=⟨g9,g10,g11,g12⟩;clear HD2 hal HGD g9 g10 g11 g12;go_wp2_with fail;generalize (w2.alloc (.cells #[.int .i64 aa,.int .i64 ab,.int .i64 ba,.int .i64 bb] 175))=W3 at *
     have hD3:=HD3.out;have hbp:val (Bl.take nb)<pw nb:=by
      have h1:=bN (an hD3.ub nb);rw[HAB.out.2] at h1;exact h1
     have hwk:=xZ ga gb (k+1) nac nb nbc A Bl aa ab ba bb _ _ W3 hD3.ra hD3.rb hD3.ne hD3.qa hD3.qb hnb hac (by omega) hbc (by omega) hD3.ua hD3.ub g1 g2 g3 g4 g5 g6 g7 g8 rfl rfl (by have:=HR.out;omega) (by have:=HR.out;omega) (by have:=HR.out;omega) (by have:=HR.out;omega)
     clear hD3 hbp;refine hwk.mono ?_;clear hwk;rintro e w4 ⟨A',B',rfl,f1,f2,f3,f4,f5,f6,f7,f8,f9⟩;have HW:Hid (A'.length=A.length/\B'.length=Bl.length/\U32 A'/\U32 B'/\val (A'.take nb)=aa*val (A.take (k+1))+ab*val (Bl.take nb)/\val (B'.take nb)=ba*val (A.take (k+1))+bb*val (Bl.take nb)/\Row w4 ga 97 .u32 A'/\Row w4 gb 97 .u32 B'/\Kp ga gb W3 w4):=⟨f1,f2,f3,f4,f5,f6,f7,f8,f9⟩;clear f1 f2 f3 f4 f5 f6 f7 f8 f9;go_wp2;obtain⟨f1,f2,f3,f4,f5,f6,f7,f8,f9⟩:=HW.out;obtain⟨r1,r2,r3,r4⟩:=HR.out;have hD:=HD3.out;have hla:=hD.qa;have hlb:=hD.qb;have t1:=aj (A'.take nb);have t2:=aj (B'.take nb);have t3:(A'.take nb).length<=nb:=List.length_take_le _ _;have t4:(B'.take nb).length<=nb:=List.length_take_le _ _;have hn2:=me (an f3 nb) (an f4 nb) (by omega)
     have hDn:Dv w w4 ga gb (ad (A'.take nb)) (ad (B'.take nb)) A' B' g:=⟨hD.ne,hD.la,hD.lb,f7,f8,f3,f4,by omega,by omega,by rw[bR,aM],by rw[bR,aM],by rw[bR,bR,aK,aK];omega,by rw[bR,bR,aK,aK,f5,f6,r4];exact hD.g,⟨f9.os.trans hD.bl.os,f9.tape.trans hD.bl.tape,f9.output.trans hD.bl.output,JA hD.bl.size f9.size,fun i hi=>(f9.block i (by have:=hD.bl.size;omega) (by have:=hD.la;omega) (by have:=hD.lb;omega)).trans (hD.bl.block i hi)⟩⟩
     refine⟨⟨ga,gb,ad (A'.take nb),nac,ad (B'.take nb),nbc,A',B',rfl,rfl,by omega,hn2,by omega,hac',by omega,hbc',hDn⟩,?_⟩
     rw[cZ hDn.ra hDn.qa,cZ hDn.rb hDn.qb,cZ H.out.ra H.out.qa,cZ H.out.rb H.out.qb,bR,bR,aK,aK,f5,f6];have e2:=hD.le;have e3:=ar (an hD.ub nb);omega
   ·by_cases h0:nb=0
    ·subst h0
     have hlA:(A.take na).length=na:=by have:=H.out.qa;simp;omega
     have HH:Hid ((A.take na).length=na):=hlA;clear hlA;by_cases h2:2<na
     ·have h2I:(2:Int)<(na:Int):=by omega
      go_wp2;go_ret;have hD:=H.out;exact⟨_,na,nac,A.take na,rfl,hD.ra.b5 _,an hD.ua _,HH.out,hac,by unfold maxLen;omega,by omega,by have:=hD.g;rw[List.take_zero,show val []=0 from rfl,Int.gcd_zero_right] at this;have:=ar (an hD.ua na);omega,aY hD.la,hD.ra.fz 0,hD.bl⟩
     ·have h2I:¬(2:Int)<(na:Int):=by omega
      go_wp2;go_ret;have hD:=H.out;exact⟨_,na,nac,A.take na,rfl,hD.ra.b5 _,an hD.ua _,HH.out,hac,by unfold maxLen;omega,by omega,by have:=hD.g;rw[List.take_zero,show val []=0 from rfl,Int.gcd_zero_right] at this;have:=ar (an hD.ua na);omega,aY hD.la,hD.ra.fz 0,hD.bl⟩
    ·have h2:na<=2:=by omega
     have h2I:¬(2:Int)<(na:Int):=by omega
     have h0I:((nb:Int)==0)=false:=beq_eq_false_iff_ne.2 (by omega)
     have hlA:(A.take na).length=na:=by have:=H.out.qa;simp;omega
     have hlB:(Bl.take nb).length=nb:=by have:=H.out.qb;simp;omega
     have HH:Hid ((A.take na).length=na/\(Bl.take nb).length=nb):=⟨hlA,hlB⟩;clear hlA hlB;go_wp2_with fail;refine(mT (some ⟨ga,0,none⟩) na nac (A.take na) _ HH.out.1 h2 (H.out.ra.b5 _) (an H.out.ua _)).mono ?_;rintro e w2 ⟨rfl,rfl⟩;go_wp2_with fail;refine(mT (some ⟨gb,0,none⟩) nb nbc (Bl.take nb) _ HH.out.2 (by omega) (H.out.rb.b5 _) (an H.out.ub _)).mono ?_
     rintro e w2 ⟨rfl,rfl⟩;have hp2:pw 2=18446744073709551616:=rfl;have ha0:=ar (an H.out.ua na);have hb0:=ar (an H.out.ub nb);have ha1:val (A.take na)<18446744073709551616:=by
      have h3:=bN (an H.out.ua na);have h4:=aW h2;rw[HH.out.1] at h3;omega
     have hb1:val (Bl.take nb)<18446744073709551616:=by have:=H.out.le;omega
     go_wp2_with fail;refine(kH (val (A.take na)) (val (Bl.take nb)) _ ha0 ha1 hb0 hb1).mono ?_;rintro e w3 ⟨rfl,hb3⟩;have hgb:(Int.gcd (val (A.take na)) (val (Bl.take nb)):Int)<18446744073709551616:=by
      have h3:Int.gcd (val (A.take na)) (val (Bl.take nb))<=(val (Bl.take nb)).natAbs:=Int.gcd_le_natAbs_right _ (fun e=>by
       have h5:=(bF (an H.out.ub nb)).2 e;rw[H.out.tb] at h5;exact h0 h5)
      omega
     have hgv:=H.out.g;rw[hgv] at hgb
     rw[hgv];have hbl:=bh H.out.bl (Jr _) hb3;clear hgv ha0 ha1 hb0 hb1 hp2 hb3;go_wp2_with fail;refine(lh (g:Int) _ (by omega) hgb).mono ?_
     rintro e w4 ⟨rfl,rfl⟩;go_wp2;go_ret;exact⟨_,2,2,[(g:Int)%4294967296,(g:Int)/4294967296],rfl,(Row.new w3 97 .u32 _).a8,lj _ (by omega) hgb,rfl,Jr _,by unfold maxLen;decide,hK2,ll _,aY hbl.size,(Row.new w3 97 .u32 _).fz 0,hbl.alloc hbl.size _⟩
 ·have hic:0<=bQ (val xs) (val ys):=by rw[bQ,if_neg (by omega)];split<;>decide
  have HS:Hid (Dv w w1 w.heap.size (w.heap.size+1) n m xs ys g):=by
   obtain⟨f1,f2,f3,f4,f5,f6,f7,f8,f9⟩:=HX.out;exact⟨by omega,by omega,by omega,f1,f2,f6,f7,by omega,by omega,by rw[Jv (by omega)];exact f8,by rw[Jv (by omega)];exact f9,by rw[Jv (by omega),Jv (by omega)];omega,by rw[Jv (by omega),Jv (by omega)];exact HG.out.symm,f3⟩
  clear HX HG hle;go_wp2;go_loopw [5,6] (fun av bv wr=>∃(ga gb na nac nb nbc:Nat) (A Bl:List Int),av=.slice (some ⟨ga,0,none⟩) na nac/\bv=.slice (some ⟨gb,0,none⟩) nb nbc/\na<K/\nb<=na/\na<=nac/\nac<=1000000000/\nb<=nbc/\nbc<=1000000000/\Hid (Dv w wr ga gb na nb A Bl g)) (fun av bv wr=>rdv wr av+rdv wr bv)
  case atStart=>exact⟨w.heap.size,w.heap.size+1,n,n,m,m,xs,ys,rfl,rfl,by omega,by have h:=HS.out;have h1:=me (an h.ua n) (an h.ub m) h.le;rw[h.ta,h.tb] at h1;exact h1,by omega,by omega,by omega,by omega,HS.out⟩
  case round=>
   obtain⟨ga,gb,na,nac,nb,nbc,A,Bl,rfl,rfl,hna,hnb,hac,hac',hbc,hbc',H⟩:=hrel;by_cases hc:2<na/\0<nb
   ·obtain⟨hc1,hc2⟩:=hc
    obtain⟨k,rfl⟩:∃k,na=k+1:=⟨na-1,by omega⟩
    have hc1I:(2:Int)<(k:Int)+1:=by omega
    have hc2I:0<(nb:Int):=by omega
    have hD:=H.out;have hlA:(A.take (k+1)).length=k+1:=by have:=hD.qa;simp;omega
    have hlB:(Bl.take nb).length=nb:=by have:=hD.qb;simp;omega
    have htop:0<gx (A.take (k+1)) k:=by
     have h1:=aw (A.take (k+1)) (by rw[hD.ta];omega)
     rw[hD.ta,JD] at h1
     have h2:=(an hD.ua (k+1)) k;omega
    have hlk:=fun W (hx:Rd W (some ⟨ga,0,none⟩) .u32 (A.take (k+1))) (hy:Rd W (some ⟨gb,0,none⟩) .u32 (Bl.take nb))=>nJ (some ⟨ga,0,none⟩) (some ⟨gb,0,none⟩) k nac nb nbc (A.take (k+1)) (Bl.take nb) W hlA (by omega) (by omega) hx (an hD.ua _) htop hlB (by omega) hy (an hD.ub _) hD.le
    have HLK:=hlk wr (hD.ra.b5 _) (hD.rb.b5 _);have HAB:Hid ((A.take (k+1)).length=k+1/\(Bl.take nb).length=nb):=⟨hlA,hlB⟩;clear hlk hD hlA hlB htop;go_wp2_with fail;refine HLK.mono ?_;clear HLK;rintro e w2 ⟨aa,ab,ba,bb,ok,rfl,hgood,hb2⟩;have HGD:Hid (ok=true->Good (val (A.take (k+1))) (val (Bl.take nb)) aa ab ba bb):=hgood;clear hgood;have HD2:Hid (Dv w w2 ga gb (k+1) nb A Bl g):=by
     have h:=H.out;exact⟨h.ne,h.la,h.lb,h.ra.below hb2 h.ra.lt,h.rb.below hb2 h.rb.lt,h.ua,h.ub,h.qa,h.qb,h.ta,h.tb,h.le,h.g,bh h.bl (Jr _) hb2⟩
    clear hb2
    cases ok
    ·
     go_wp2_with fail;have hal:Below w2.heap.size w2 (w2.alloc (.cells #[.int .i64 aa,.int .i64 ab,.int .i64 ba,.int .i64 bb] 175)):=ag (Jt _ _);have HD3:Hid (Dv w (w2.alloc (.cells #[.int .i64 aa,.int .i64 ab,.int .i64 ba,.int .i64 bb] 175)) ga gb (k+1) nb A Bl g):=by
      have h:=HD2.out;exact⟨h.ne,h.la,h.lb,h.ra.below hal h.ra.lt,h.rb.below hal h.rb.lt,h.ua,h.ub,h.qa,h.qb,h.ta,h.tb,h.le,h.g,bh h.bl (Jr _) hal⟩
     generalize (w2.alloc (.cells #[.int .i64 aa,.int .i64 ab,.int .i64 ba,.int .i64 bb] 175))=W3 at *
     clear HD2 hal HGD;have hAI:AI W3 (some ⟨ga,0,none⟩) (k+1) nac (A.take (k+1)):=⟨HAB.out.1,hac,by unfold maxLen;omega,by omega,HD3.out.ra.b5 _,an HD3.out.ua _⟩
     have hBI:AI W3 (some ⟨gb,0,none⟩) nb nbc (Bl.take nb):=⟨HAB.out.2,hbc,by unfold maxLen;omega,by omega,HD3.out.rb.b5 _,an HD3.out.ub _⟩
     refine(kz (some ⟨ga,0,none⟩) (some ⟨gb,0,none⟩) (k+1) nac nb nbc (A.take (k+1)) (Bl.take nb) _ hAI hBI (by omega) (by omega) HD3.out.tb hc2).mono ?_
     rintro e w4 ⟨qa,qn,qs,ra,rn,rc,rs,rfl,hQ,hrc,hrc',hb4⟩;obtain⟨gz,Z,rfl,hz1,hz2,hz3⟩:=hQ.row;have HQ:Hid (val qs*val (Bl.take nb)+val rs=val (A.take (k+1))/\val rs<val (Bl.take nb)/\rs.length=rn/\U32 rs/\Rd w4 (some ⟨gz,0,none⟩) .u32 rs/\Row w4 gz 97 .u32 Z/\Z.take rn=rs/\U32 Z/\W3.heap.size<=gz/\Below W3.heap.size W3 w4):=⟨hQ.eq,hQ.lt,hQ.rl,hQ.ru,hQ.rrd,hz1,hz2,hz3,hQ.rf _ rfl,hb4⟩;clear hQ hz1 hz2 hz3 hb4 hAI hBI;go_wp2_with fail;refine(aS (some ⟨gz,0,none⟩) rn rc rs _ HQ.out.2.2.1 hrc (by unfold maxLen;omega) HQ.out.2.2.2.2.1).mono ?_
     rintro e w5 ⟨rfl,rfl⟩;go_wp2;obtain⟨q1,q2,q3,q4,q5,q6,q7,q8,q9,q10⟩:=HQ.out;have hD:=HD3.out;have htl:=aj rs;have hzl:rn<=Z.length:=by have:=congrArg List.length q7;simp at this;omega
     have hzt:Z.take (ad rs)=tr rs:=by rw[<-q7];exact bR
     have hn2:=me (an hD.ub nb) q4 (by omega)
     rw[hD.tb] at hn2
     have hDn:Dv w w4 gb gz nb (ad rs) Bl Z g:=⟨by have:=hD.rb.lt;omega,hD.lb,by have:=hD.bl.size;omega,hD.rb.below q10 hD.rb.lt,q6,hD.ub,q8,hD.qb,by omega,hD.tb,by rw[hzt,aM],by rw[hzt,aK];omega,by rw[hzt,aK,mN q1];exact hD.g,bh hD.bl (Jr _) q10⟩
     refine⟨⟨gb,gz,nb,nbc,ad rs,rc,Bl,Z,rfl,rfl,by omega,hn2,hbc,hbc',by omega,by omega,hDn⟩,?_⟩
     rw[cZ hDn.ra hDn.qa,cZ hDn.rb hDn.qb,cZ H.out.ra H.out.qa,cZ H.out.rb H.out.qb,hzt,aK];have e1:=ar q4;have e2:=hD.le;have e3:=ar (an hD.ub nb);omega
    ·
     obtain⟨g1,g2,g3,g4,g5,g6,g7,g8,g9,g10,g11,g12⟩:=HGD.out rfl;have hsb:Row (w2.alloc (.cells #[.int .i64 aa,.int .i64 ab,.int .i64 ba,.int .i64 bb] 175)) w2.heap.size 175 .i64 [aa,ab,ba,bb]:=Row.new w2 175 .i64 [aa,ab,ba,bb];have hal:Below w2.heap.size w2 (w2.alloc (.cells #[.int .i64 aa,.int .i64 ab,.int .i64 ba,.int .i64 bb] 175)):=ag (Jt _ _);have HD3:Hid (Dv w (w2.alloc (.cells #[.int .i64 aa,.int .i64 ab,.int .i64 ba,.int .i64 bb] 175)) ga gb (k+1) nb A Bl g):=by
      have h:=HD2.out;exact⟨h.ne,h.la,h.lb,h.ra.below hal h.ra.lt,h.rb.below hal h.rb.lt,h.ua,h.ub,h.qa,h.qb,h.ta,h.tb,h.le,h.g,bh h.bl (Jr _) hal⟩
     have HR:Hid (0<=ba*val (A.take (k+1))+bb*val (Bl.take nb)/\ba*val (A.take (k+1))+bb*val (Bl.take nb)<aa*val (A.take (k+1))+ab*val (Bl.take nb)/\aa*val (A.take (k+1))+ab*val (Bl.take nb)<=val (Bl.take nb)/\Int.gcd (aa*val (A.take (k+1))+ab*val (Bl.take nb)) (ba*val (A.take (k+1))+bb*val (Bl.take nb))=Int.gcd (val (A.take (k+1))) (val (Bl.take nb))):=⟨g9,g10,g11,g12⟩;clear HD2 hal HGD g9 g10 g11 g12;go_wp2_with fail;generalize (w2.alloc (.cells #[.int .i64 aa,.int .i64 ab,.int .i64 ba,.int .i64 bb] 175))=W3 at *
     have hD3:=HD3.out;have hbp:val (Bl.take nb)<pw nb:=by
      have h1:=bN (an hD3.ub nb);rw[HAB.out.2] at h1;exact h1
     have hwk:=xZ ga gb (k+1) nac nb nbc A Bl aa ab ba bb _ _ W3 hD3.ra hD3.rb hD3.ne hD3.qa hD3.qb hnb hac (by omega) hbc (by omega) hD3.ua hD3.ub g1 g2 g3 g4 g5 g6 g7 g8 rfl rfl (by have:=HR.out;omega) (by have:=HR.out;omega) (by have:=HR.out;omega) (by have:=HR.out;omega)
     clear hD3 hbp;refine hwk.mono ?_;clear hwk;rintro e w4 ⟨A',B',rfl,f1,f2,f3,f4,f5,f6,f7,f8,f9⟩;have HW:Hid (A'.length=A.length/\B'.length=Bl.length/\U32 A'/\U32 B'/\val (A'.take nb)=aa*val (A.take (k+1))+ab*val (Bl.take nb)/\val (B'.take nb)=ba*val (A.take (k+1))+bb*val (Bl.take nb)/\Row w4 ga 97 .u32 A'/\Row w4 gb 97 .u32 B'/\Kp ga gb W3 w4):=⟨f1,f2,f3,f4,f5,f6,f7,f8,f9⟩;clear f1 f2 f3 f4 f5 f6 f7 f8 f9;go_wp2;obtain⟨f1,f2,f3,f4,f5,f6,f7,f8,f9⟩:=HW.out;obtain⟨r1,r2,r3,r4⟩:=HR.out;have hD:=HD3.out;have hla:=hD.qa;have hlb:=hD.qb;have t1:=aj (A'.take nb);have t2:=aj (B'.take nb);have t3:(A'.take nb).length<=nb:=List.length_take_le _ _;have t4:(B'.take nb).length<=nb:=List.length_take_le _ _;have hn2:=me (an f3 nb) (an f4 nb) (by omega)
     have hDn:Dv w w4 ga gb (ad (A'.take nb)) (ad (B'.take nb)) A' B' g:=⟨hD.ne,hD.la,hD.lb,f7,f8,f3,f4,by omega,by omega,by rw[bR,aM],by rw[bR,aM],by rw[bR,bR,aK,aK];omega,by rw[bR,bR,aK,aK,f5,f6,r4];exact hD.g,⟨f9.os.trans hD.bl.os,f9.tape.trans hD.bl.tape,f9.output.trans hD.bl.output,JA hD.bl.size f9.size,fun i hi=>(f9.block i (by have:=hD.bl.size;omega) (by have:=hD.la;omega) (by have:=hD.lb;omega)).trans (hD.bl.block i hi)⟩⟩
     refine⟨⟨ga,gb,ad (A'.take nb),nac,ad (B'.take nb),nbc,A',B',rfl,rfl,by omega,hn2,by omega,hac',by omega,hbc',hDn⟩,?_⟩
     rw[cZ hDn.ra hDn.qa,cZ hDn.rb hDn.qb,cZ H.out.ra H.out.qa,cZ H.out.rb H.out.qb,bR,bR,aK,aK,f5,f6];have e2:=hD.le;have e3:=ar (an hD.ub nb);omega
   ·by_cases h0:nb=0
    ·subst h0
     have hlA:(A.take na).length=na:=by have:=H.out.qa;simp;omega
     have HH:Hid ((A.take na).length=na):=hlA;clear hlA;by_cases h2:2<na
     ·have h2I:(2:Int)<(na:Int):=by omega
      go_wp2;go_ret;have hD:=H.out;exact⟨_,na,nac,A.take na,rfl,hD.ra.b5 _,an hD.ua _,HH.out,hac,by unfold maxLen;omega,by omega,by have:=hD.g;rw[List.take_zero,show val []=0 from rfl,Int.gcd_zero_right] at this;have:=ar (an hD.ua na);omega,aY hD.la,hD.ra.fz 0,hD.bl⟩
     ·have h2I:¬(2:Int)<(na:Int):=by omega
      go_wp2;go_ret;have hD:=H.out;exact⟨_,na,nac,A.take na,rfl,hD.ra.b5 _,an hD.ua _,HH.out,hac,by unfold maxLen;omega,by omega,by have:=hD.g;rw[List.take_zero,show val []=0 from rfl,Int.gcd_zero_right] at this;have:=ar (an hD.ua na);omega,aY hD.la,hD.ra.fz 0,hD.bl⟩
    ·have h2:na<=2:=by omega
     have h2I:¬(2:Int)<(na:Int):=by omega
     have h0I:((nb:Int)==0)=false:=beq_eq_false_iff_ne.2 (by omega)
     have hlA:(A.take na).length=na:=by have:=H.out.qa;simp;omega
     have hlB:(Bl.take nb).length=nb:=by have:=H.out.qb;simp;omega
     have HH:Hid ((A.take na).length=na/\(Bl.take nb).length=nb):=⟨hlA,hlB⟩;clear hlA hlB;go_wp2_with fail;refine(mT (some ⟨ga,0,none⟩) na nac (A.take na) _ HH.out.1 h2 (H.out.ra.b5 _) (an H.out.ua _)).mono ?_;rintro e w2 ⟨rfl,rfl⟩;go_wp2_with fail;refine(mT (some ⟨gb,0,none⟩) nb nbc (Bl.take nb) _ HH.out.2 (by omega) (H.out.rb.b5 _) (an H.out.ub _)).mono ?_
     rintro e w2 ⟨rfl,rfl⟩;have hp2:pw 2=18446744073709551616:=rfl;have ha0:=ar (an H.out.ua na);have hb0:=ar (an H.out.ub nb);have ha1:val (A.take na)<18446744073709551616:=by
      have h3:=bN (an H.out.ua na);have h4:=aW h2;rw[HH.out.1] at h3;omega
     have hb1:val (Bl.take nb)<18446744073709551616:=by have:=H.out.le;omega
     go_wp2_with fail;refine(kH (val (A.take na)) (val (Bl.take nb)) _ ha0 ha1 hb0 hb1).mono ?_;rintro e w3 ⟨rfl,hb3⟩;have hgb:(Int.gcd (val (A.take na)) (val (Bl.take nb)):Int)<18446744073709551616:=by
      have h3:Int.gcd (val (A.take na)) (val (Bl.take nb))<=(val (Bl.take nb)).natAbs:=Int.gcd_le_natAbs_right _ (fun e=>by
       have h5:=(bF (an H.out.ub nb)).2 e;rw[H.out.tb] at h5;exact h0 h5)
      omega
     have hgv:=H.out.g;rw[hgv] at hgb
     rw[hgv];have hbl:=bh H.out.bl (Jr _) hb3;clear hgv ha0 ha1 hb0 hb1 hp2 hb3;go_wp2_with fail;refine(lh (g:Int) _ (by omega) hgb).mono ?_
     rintro e w4 ⟨rfl,rfl⟩;go_wp2;go_ret;exact⟨_,2,2,[(g:Int)%4294967296,(g:Int)/4294967296],rfl,(Row.new w3 97 .u32 _).a8,lj _ (by omega) hgb,rfl,Jr _,by unfold maxLen;decide,hK2,ll _,aY hbl.size,(Row.new w3 97 .u32 _).fz 0,hbl.alloc hbl.size _⟩
end Go.Proofs.YtdjjlghlcffflaaGreatDoor
