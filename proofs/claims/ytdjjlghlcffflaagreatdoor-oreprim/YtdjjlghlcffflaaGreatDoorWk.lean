/- Own. -/
import Derived.Test.YtdjjlghlcffflaaGreatDoorUa
import Derived.Deep.DeepCutAuto
set_option linter.unusedVariables false
set_option linter.unusedSimpArgs false
set_option maxHeartbeats 8000000
set_option maxRecDepth 100000
namespace Go.Proofs.YtdjjlghlcffflaaGreatDoor
open Go.RowKit
theorem lj(m:Int)(h0:0<=m)(h1:m<18446744073709551616):U32 [m%4294967296,m/4294967296]:=aO (ef (by omega)) (ef (by omega))
theorem ll(m:Int):val [m%4294967296,m/4294967296]=m:=by simp only[val];omega
theorem Bk(z:Int)(w:World)(h0:-9223372036854775808<=z)(h1:z<=9223372036854775807):
  Calls Tryz.prog 68 #[.int .i64 z] w fun e w'=>∃s' p' n' zs,e=.returned (.agg #[.bool s',.slice p' n' n'])/\NI w.heap.size w' s' p' n' zs z/\n'<=2/\Below w.heap.size w w':=by
 by_cases hn:z<0
 ·have HL:ad [(-(z+1)+1)%4294967296,(-(z+1)+1)/4294967296]<=2:=aj _
  go_enter Tryz.func68,Tryz.ntmps68;go_wp2_with fail;refine(lh (-(z+1)+1) _ (by omega) (by omega)).mono ?_
  rintro e w' ⟨rfl,rfl⟩;go_wp2_with fail;refine(b7 true (some ⟨w.heap.size+1,0,none⟩) 2 2 [(-(z+1)+1)%4294967296,(-(z+1)+1)/4294967296] _ rfl (Jr _) (by unfold maxLen;decide) (Row.oy w _ _ _ _).a8).mono ?_
  rintro e w1 ⟨rfl,hb⟩;obtain⟨c0,c1,f0,f1⟩:=cj (r:=w.heap.size) (u:=.bool false) (v:=.slice none 0 0) hb (by simp[go_sem,World.cell?_alloc_past]) (by simp[go_sem,World.cell?_alloc_past]) (by simp[go_sem]) (by simp[go_sem])
  have hU:=lj (-(z+1)+1) (by omega) (by omega)
  have hV:aq true [(-(z+1)+1)%4294967296,(-(z+1)+1)/4294967296]=z:=by simp only[aq,ll,if_true,if_false,Bool.false_eq_true]<;>omega
  generalize [(-(z+1)+1)%4294967296,(-(z+1)+1)/4294967296]=ys at *
  have hN:=dn (B:=w.heap.size+1) (q:=some ⟨w.heap.size+1,0,none⟩) true (Row.oy w (.cells #[.bool false,.slice none 0 0] 50) 97 .u32 ys).a8 hU (aY (Jr _)) ((Row.oy w (.cells #[.bool false,.slice none 0 0] 50) 97 .u32 ys).fz 0);rw[hV] at hN
  have hN2:=hN.below hb;have ht:ad ys<=2:=HL;go_wp2;refine bodyPost_ret (v:=.agg #[.bool (nsg true ys),.slice (nad (some ⟨w.heap.size+1,0,none⟩) ys) (ad ys) (ad ys)]) (by simp[results,Tryz.results68,go_sem,c0,c1]) rfl ⟨_,_,_,tr ys,rfl,?_,ht,?_⟩
  ·exact((hN2.set (by simp) _).set (by simp) _).mono (by omega)
  ·exact(((((Jt _ _).alloc (Jr _) _).alloc (by simp) _).trans (hb.mono (by simp;omega))).setCell (by simp) _).setCell (by simp) _
 ·have HL:ad [z%4294967296,z/4294967296]<=2:=aj _
  go_enter Tryz.func68,Tryz.ntmps68;go_wp2_with fail;refine(lh (z) _ (by omega) (by omega)).mono ?_
  rintro e w' ⟨rfl,rfl⟩;go_wp2_with fail;refine(b7 false (some ⟨w.heap.size+1,0,none⟩) 2 2 [(z)%4294967296,(z)/4294967296] _ rfl (Jr _) (by unfold maxLen;decide) (Row.oy w _ _ _ _).a8).mono ?_
  rintro e w1 ⟨rfl,hb⟩;obtain⟨c0,c1,f0,f1⟩:=cj (r:=w.heap.size) (u:=.bool false) (v:=.slice none 0 0) hb (by simp[go_sem,World.cell?_alloc_past]) (by simp[go_sem,World.cell?_alloc_past]) (by simp[go_sem]) (by simp[go_sem])
  have hU:=lj (z) (by omega) (by omega)
  have hV:aq false [(z)%4294967296,(z)/4294967296]=z:=by simp only[aq,ll,if_true,if_false,Bool.false_eq_true]<;>omega
  generalize [(z)%4294967296,(z)/4294967296]=ys at *
  have hN:=dn (B:=w.heap.size+1) (q:=some ⟨w.heap.size+1,0,none⟩) false (Row.oy w (.cells #[.bool false,.slice none 0 0] 50) 97 .u32 ys).a8 hU (aY (Jr _)) ((Row.oy w (.cells #[.bool false,.slice none 0 0] 50) 97 .u32 ys).fz 0);rw[hV] at hN
  have hN2:=hN.below hb;have ht:ad ys<=2:=HL;go_wp2;refine bodyPost_ret (v:=.agg #[.bool (nsg false ys),.slice (nad (some ⟨w.heap.size+1,0,none⟩) ys) (ad ys) (ad ys)]) (by simp[results,Tryz.results68,go_sem,c0,c1]) rfl ⟨_,_,_,tr ys,rfl,?_,ht,?_⟩
  ·exact((hN2.set (by simp) _).set (by simp) _).mono (by omega)
  ·exact(((((Jt _ _).alloc (Jr _) _).alloc (by simp) _).trans (hb.mono (by simp;omega))).setCell (by simp) _).setCell (by simp) _
theorem qN(g cap:Nat)(n:Nat)(Z:List Int)(d:Int)(w:World)(hz:n<=Z.length)(hn:n<=cap)(hcap:cap<=1099511627776)(hR:Row w g 97 .u32 Z)(hU:U32 Z)(hd:0<d)(hd':d<4294967296):
  Calls Tryz.prog 194 #[.slice (some ⟨g,0,none⟩) n cap,.int .u32 d] w fun e w'=>∃R r,e=.returned (.int .u32 r)/\R.length=Z.length/\U32 R/\0<=r/\r<d/\val (R.take n)*d+r=val (Z.take n)/\Row w' g 97 .u32 R/\w.grownBy w' (some g):=by
 go_enter Tryz.func194,Tryz.ntmps194;go_wp2;go_loopw [5,6] (fun rv iv wr=>∃(k:Nat) (r:Int) (R:List Int),k<=n/\iv=.int .i64 ((k:Int)-1)/\rv=.int .u64 r/\0<=r/\r<d/\Hid (R.length=Z.length/\U32 R/\(∀j,j<k->gx R j=gx Z j)/\val ((R.take n).drop k)*d+r=val ((Z.take n).drop k)/\Row wr g 97 .u32 R/\w.grownBy wr (some g)))
  (fun _ iv _=>(intOf iv+1).toNat)
 case atStart=>exact⟨n,0,Z,Jr _,by go_num,rfl,by decide,hd,rfl,hU,fun _ _=>rfl,by rw[JL (by simp;omega)];simp[val],hR,ck _ _⟩
 case round=>
  obtain⟨k,r,R,hk,rfl,rfl,hr0,hr1,H⟩:=hrel;by_cases h0:k=0
  ·subst h0
   go_wp2;go_ret;obtain⟨a1,a2,a3,a4,a5,a6⟩:=H.out;rw[List.drop_zero,List.drop_zero] at a4
   exact⟨R,r,rfl,a1,a2,hr0,hr1,a4,a5,a6⟩
  ·obtain⟨j,rfl⟩:∃j,k=j+1:=⟨k-1,by omega⟩
   have ej:((j+1:Nat):Int)-1=(j:Int):=by omega
   rw[ej];clear ej;obtain⟨a1,a2,a3,a4,a5,a6⟩:=H.out;have hc:=a5.cell j (by omega)
   have hf:=a5.frozen j;obtain⟨b0,b1⟩:=a2 j;have ho:=jW r (gx R j) hr0 (by omega) b0 b1
   obtain⟨q0,q1⟩:=IL hr0 hr1 b0 b1;have hdz:(d==0)=false:=beq_eq_false_iff_ne.2 (by omega)
   clear a1 a2 a3 a4 a5 a6;go_wp2;go_region;all_goals go_wp2
   obtain⟨a1,a2,a3,a4,a5,a6⟩:=H.out;refine⟨⟨j,_,R.set j ((r*4294967296+gx R j)/d),by omega,rfl,rfl,Int.emod_nonneg _ (by omega),JK _ hd,by rw[List.length_set];exact a1,dy a2 _ ⟨q0,q1⟩,fun k hk=>?_,?_,(a5.set j _).drew,dR (aL a6 _ _)⟩,by simp[intOf]⟩
   ·rw[cl R _ _ _ (by omega)];exact a3 k (by omega)
   ·rw[tL R n j _ (by omega) (by omega),drop_cons (Z.take n) j (by simp;omega),bm Z n j (by omega)]
    simp only[val];rw[<-a4,<-a3 j (by omega)]
    have e:=Int.emod_add_mul_ediv (r*4294967296+gx R j) d;rw[JI d] at e
    rw[Int.add_mul,JF,JG];omega
theorem mT(p:Option Addr)(n nc:Nat)(xs:List Int)(w:World)(hl:xs.length=n)(hn:n<=2)(hX:Rd w p .u32 xs)(hU:U32 xs):
  Calls Tryz.prog 178 #[.slice p n nc] w fun e w'=>e=.returned (.int .u64 (val xs))/\w=w':=by
 go_enter Tryz.func178,Tryz.ntmps178;go_wp2;go_loop [3,8] (fun mv iv=>∃(k:Nat) (v:Int),k<=n/\iv=.int .i64 k/\mv=.int .u64 v/\Hid (v=val (xs.take k))) (fun _ iv=>n-(intOf iv).toNat)
 case atStart=>exact⟨0,0,Jz _,rfl,rfl,by simp[val,Hid]⟩
 case round=>
  obtain⟨k,v,hk,rfl,rfl,HV⟩:=hrel;by_cases hlt:k<n
  ·obtain⟨b,off,rfl,hcell⟩:=hX (by omega)
   have hc:=hcell k (by omega)
   obtain⟨b0,b1⟩:=hU k;clear hcell;have hk01:k=0\/k=1:=by omega
   rcases hk01 with rfl|rfl
   ·have hv:v=0:=by have:=HV.out;simpa [val] using this
    subst hv;have ho:bits .or .u64 0 (gx xs 0)=gx xs 0:=by simpa using jW 0 (gx xs 0) (by decide) (by decide) b0 b1
    rw[Nat.add_zero] at hc
    go_wp2;refine⟨⟨1,_,by omega,rfl,rfl,?_⟩,by simp[intOf];omega⟩
    show _=_
    rw[aD xs 0 (by omega)]
    simp[val,iZ]
   ·have hv:v=gx xs 0:=by
     have:=HV.out;rw[aD xs 0 (by omega)] at this
     simpa [val,iZ] using this
    subst hv;obtain⟨d0,d1⟩:=hU 0;have ho:=Em (gx xs 1) (gx xs 0) b0 b1 d0 d1;go_wp2;refine⟨⟨2,_,by omega,rfl,rfl,?_⟩,by simp[intOf];omega⟩
    show _=_
    rw[aD xs 1 (by omega),aD xs 0 (by omega)]
    simp only[List.take_zero,val,bE,iZ];omega
  ·have:k=n:=by omega
   subst this;go_wp2;go_ret;have:=HV.out;rw[Jv (by omega)] at this
   rw[this];exact⟨rfl,rfl⟩
variable {x:Int}
theorem neg_emod{m r:Int}(h1:1<=m)(h:r=x%m)(hr:r≠0):(-x)%m=m-r:=by
 have e:=Int.emod_add_mul_ediv x m;have b0:=Int.emod_nonneg x (show m≠0 by omega)
 have b1:=JK x (show 0<m by omega)
 rw[<-h] at e b0 b1
 have e2:-x=(m-r)+m*(-(x/m)-1):=by rw[Int.mul_sub,Int.mul_neg];omega
 rw[e2,Int.add_mul_emod_self_left];exact Int.emod_eq_of_lt (by omega) (by omega)
structure QR(B:Nat)(w:World)(qa:Option Addr)(qn:Nat)(qs:List Int)(ra:Option Addr)(rn:Nat)(rs:List Int)(x y:Int)(n:Nat):Prop where
 ql:qs.length=qn
 qrd:Rd w qa .u32 qs
 qu:U32 qs
 qf:aJ B qa
 rl:rs.length=rn
 rrd:Rd w ra .u32 rs
 ru:U32 rs
 rf:aJ B ra
 eq:val qs*y+val rs=x
 lt:val rs<y
 qb:qn<=n+1
 rb:rn<=n+1
 row:∃g Z,ra=some ⟨g,0,none⟩/\Row w g 97 .u32 Z/\Z.take rn=rs/\U32 Z
 qz:Fz w qa
 rz:Fz w ra
theorem yA(p q:Option Addr)(n nc m mc:Nat)(xs ys:List Int)(w:World)(hA:AI w p n nc xs)(hB:AI w q m mc ys)(hlt:val xs<val ys):
  Calls Tryz.prog 165 #[.slice p n nc,.slice q m mc] w fun e w'=>∃qa qn qs ra rn rs,e=.returned (.tuple #[.slice qa qn qn,.slice ra rn rn])/\QR w.heap.size w' qa qn qs ra rn rs (val xs) (val ys) n/\Below w.heap.size w w':=by
 have hs:=hA.sml;go_enter Tryz.func165,Tryz.ntmps165;go_wp2_with fail;refine(ey p q n nc m mc xs ys _ hA.len hB.len hA.cap hA.bnd hB.cap hB.bnd hA.rd hA.u hB.rd hB.u).mono ?_;rw[cK hlt];rintro e w1 ⟨rfl,hb1⟩;go_wp2_with fail;refine(gL p n nc xs _ hA.len (by omega) (hA.rd.below hb1)).mono ?_
 rintro e w2 ⟨rfl,rfl⟩;go_wp2;go_ret2;refine⟨none,0,[],some ⟨w1.heap.size,0,none⟩,n,xs,rfl,⟨rfl,Rd.nil,jg,dI,hA.len,(Row.new w1 _ _ _).a8,hA.u,aY hb1.size,by simp[val],hlt,by omega,by omega,⟨w1.heap.size,xs,rfl,Row.new w1 _ _ _,Jv (by rw[hA.len];omega),hA.u⟩,Fz.nil _,(Row.new w1 _ _ _).fz 0⟩,hb1.alloc hb1.size _⟩
theorem xB(p q:Option Addr)(n nc mc:Nat)(xs:List Int)(d:Int)(w:World)(hA:AI w p n nc xs)(hB:AI w q 1 mc [d])(hd:0<d)(hle:d<=val xs):
  Calls Tryz.prog 165 #[.slice p n nc,.slice q 1 mc] w fun e w'=>∃qa qn qs ra rn rs,e=.returned (.tuple #[.slice qa qn qn,.slice ra rn rn])/\QR w.heap.size w' qa qn qs ra rn rs (val xs) (val [d]) n/\Below w.heap.size w w':=by
 have hs:=hA.sml;have hd':d<4294967296:=by have:=hB.u 0;rw[cJ] at this;omega
 have hic:¬bQ (val xs) (val [d])<0:=by
  rw[val_one,bQ,if_neg (by omega)];split<;>decide
 go_enter Tryz.func165,Tryz.ntmps165;go_wp2_with fail;refine(ey p q n nc 1 mc xs [d] _ hA.len hB.len hA.cap hA.bnd hB.cap hB.bnd hA.rd hA.u hB.rd hB.u).mono ?_;rintro e w1 ⟨rfl,hb1⟩;go_wp2_with fail;refine(gL p n nc xs _ hA.len (by omega) (hA.rd.below hb1)).mono ?_
 rintro e w2 ⟨rfl,rfl⟩;obtain⟨b,off,hq,hc⟩:=((hB.rd.below hb1).alloc (.cells (ca .u32 xs) 97)) (by simp)
 have hc0:=hc 0 (by simp)
 rw[cJ,Nat.add_zero] at hc0
 subst hq;clear hc;go_wp2_with fail;refine(qN w1.heap.size n n xs d _ (by rw[hA.len];omega) (Jr _) (by omega) (Row.new w1 _ _ _) hA.u hd hd').mono ?_
 rintro e w3 ⟨R,r,rfl,r1,r2,r3,r4,r5,r6,r7⟩;go_wp2;go_ret2;have hl:=hA.len;rw[Jv (by omega),Jv (by omega)] at r5
 have hb3:Below w.heap.size w w3:=cQ (hb1.alloc hb1.size _) r7 (by simp;have:=hb1.size;omega) hb1.size
 refine⟨some ⟨w1.heap.size,0,none⟩,n,R,some ⟨w3.heap.size,0,none⟩,1,[r],rfl,⟨by omega,r6.a8.alloc _,r2,aY hb1.size,rfl,(Row.new w3 97 .u32 [r]).a8,ef (by omega),aY hb3.size,by rw[val_one,val_one];exact r5,by rw[val_one,val_one];exact r4,by omega,by omega,⟨w3.heap.size,[r],rfl,Row.new w3 97 .u32 [r],rfl,ef (by omega)⟩,(r6.alloc _).fz 0,(Row.new w3 97 .u32 [r]).fz 0⟩,hb3.alloc hb3.size _⟩
structure zX(w W:World)(a0 a1 b0 b1:Value):Prop where
 size:w.heap.size+1+1+1+1<=W.heap.size
 below:Below w.heap.size w W
 ca0:W.cell? ⟨w.heap.size,0,none⟩=some a0
 ca1:W.cell? ⟨w.heap.size,1,none⟩=some a1
 cb0:W.cell? ⟨w.heap.size+1,0,none⟩=some b0
 cb1:W.cell? ⟨w.heap.size+1,1,none⟩=some b1
 cr0:W.cell? ⟨w.heap.size+1+1,0,none⟩=some (.bool false)
 cr1:W.cell? ⟨w.heap.size+1+1,1,none⟩=some (.slice none 0 0)
 cs0:W.cell? ⟨w.heap.size+1+1+1,0,none⟩=some (.bool false)
 cs1:W.cell? ⟨w.heap.size+1+1+1,1,none⟩=some (.slice none 0 0)
 fr0:W.frozen? ⟨w.heap.size+1+1,0,none⟩=false
 fr1:W.frozen? ⟨w.heap.size+1+1,1,none⟩=false
 fs0:W.frozen? ⟨w.heap.size+1+1+1,0,none⟩=false
 fs1:W.frozen? ⟨w.heap.size+1+1+1,1,none⟩=false
structure Bx(w:World)(r:Nat)(a0 a1:Value):Prop where
 c0:w.cell? ⟨r,0,none⟩=some a0
 c1:w.cell? ⟨r,1,none⟩=some a1
 f0:w.frozen? ⟨r,0,none⟩=false
 f1:w.frozen? ⟨r,1,none⟩=false
variable {w w':World} {r:Nat} {a0 a1:Value}
theorem Bx.later(h:Bx w r a0 a1)(hb:Below w.heap.size w w'):Bx w' r a0 a1:=by
 obtain⟨a,b,c,d⟩:=cj hb h.c0 h.c1 h.f0 h.f1;exact⟨a,b,c,d⟩
theorem Bx.alloc(h:Bx w r a0 a1)(o:Obj):Bx (w.alloc o) r a0 a1:=h.later ((Jt _ _).alloc (Jr _) o)
theorem Bx.drewN(h:Bx w r a0 a1)(k:Nat):Bx (w.drewN k) r a0 a1:=⟨h.c0,h.c1,h.f0,h.f1⟩
theorem Bx.new(a0 a1:Value)(t:Nat)(hr:r=w.heap.size):Bx (w.alloc (.cells #[a0,a1] t)) r a0 a1:=by
 subst hr;refine⟨?_,?_,?_,?_⟩<;>simp[go_sem]
theorem Ic(w:World)(a0 a1 b0 b1:Value)(t k:Nat):zX w (((((w.alloc (.cells #[a0,a1] t)).alloc (.cells #[b0,b1] t)).alloc (.cells #[.bool false,.slice none 0 0] t)).alloc (.cells #[.bool false,.slice none 0 0] t)).drewN k) a0 a1 b0 b1:=by
 have h1:=((((Bx.new (w:=w) a0 a1 t rfl).alloc (.cells #[b0,b1] t)).alloc (.cells #[.bool false,.slice none 0 0] t)).alloc (.cells #[.bool false,.slice none 0 0] t)).drewN k;have h2:=(((Bx.new (w:=w.alloc (.cells #[a0,a1] t)) b0 b1 t (r:=w.heap.size+1) (Js ..).symm).alloc (.cells #[.bool false,.slice none 0 0] t)).alloc (.cells #[.bool false,.slice none 0 0] t)).drewN k;have h3:=((Bx.new (w:=(w.alloc (.cells #[a0,a1] t)).alloc (.cells #[b0,b1] t)) (.bool false) (.slice none 0 0) t (r:=w.heap.size+1+1) (by rw[Js,Js])).alloc (.cells #[.bool false,.slice none 0 0] t)).drewN k
 have h4:=(Bx.new (w:=((w.alloc (.cells #[a0,a1] t)).alloc (.cells #[b0,b1] t)).alloc (.cells #[.bool false,.slice none 0 0] t)) (.bool false) (.slice none 0 0) t (r:=w.heap.size+1+1+1) (by rw[Js,Js,Js])).drewN k
 exact⟨by simp,below_drewN (((((Jt _ _).alloc (Jr _) _).alloc (by simp) _).alloc (by simp;omega) _).alloc (by simp;omega) _) k,h1.c0,h1.c1,h2.c0,h2.c1,h3.c0,h3.c1,h4.c0,h4.c1,h3.f0,h3.f1,h4.f0,h4.f1⟩
variable {W W':World} {b0 b1:Value}
theorem zX.later(h:zX w W a0 a1 b0 b1)(hb:Below W.heap.size W W'):zX w W' a0 a1 b0 b1:=by
 obtain⟨c0,c1,f0,f1⟩:=cj hb h.cr0 h.cr1 h.fr0 h.fr1;obtain⟨d0,d1,g0,g1⟩:=cj hb h.cs0 h.cs1 h.fs0 h.fs1;exact⟨JA h.size hb.size,h.below.trans (hb.mono (by have:=h.size;omega)),cell_later hb h.ca0,cell_later hb h.ca1,cell_later hb h.cb0,cell_later hb h.cb1,c0,c1,d0,d1,f0,f1,g0,g1⟩
variable {w1:World}
theorem Fm(hb:Below W.heap.size W w1):(∀b o,b<W.heap.size->w1.cell? ⟨b,o,none⟩=W.cell? ⟨b,o,none⟩)/\(∀b o,b<W.heap.size->w1.frozen? ⟨b,o,none⟩=W.frozen? ⟨b,o,none⟩):=
 ⟨fun b o h=>hb.cell (p:=⟨b,o,none⟩) h,fun b o h=>hb.frozen (p:=⟨b,o,none⟩) h⟩
variable {w3:World}
theorem lM{X:World}(hb:Below X.heap.size X w3):(∀b o,b<X.heap.size->w3.cell? ⟨b,o,none⟩=X.cell? ⟨b,o,none⟩)/\(∀b o,b<X.heap.size->w3.frozen? ⟨b,o,none⟩=X.frozen? ⟨b,o,none⟩)/\
  (∀r,r<X.heap.size->r<w3.heap.size)/\(∀r,r<X.heap.size->r<=w3.heap.size)/\(∀r,r<X.heap.size->r<=w3.heap.size+1):=
 ⟨(Fm hb).1,(Fm hb).2,fun r h=>JE h hb.size,fun r h=>Nat.le_of_lt (JE h hb.size),fun r h=>by have:=hb.size;omega⟩
theorem bne{X:World}(hb:Below X.heap.size X w3):(∀r,r<X.heap.size->r≠w3.heap.size)/\(∀r,r<X.heap.size->w3.heap.size≠r)/\(∀r,r<X.heap.size->r≠w3.heap.size+1)/\(∀r,r<X.heap.size->w3.heap.size+1≠r):=by
 have:=hb.size;exact⟨fun r h=>by omega,fun r h=>by omega,fun r h=>by omega,fun r h=>by omega⟩
theorem ag{x:World}{o:Obj}(h:Below w.heap.size w x):Below w.heap.size w (x.alloc o):=h.alloc h.size o
variable {w2:World}
theorem comp{X2 X3:World}(h2:Below X2.heap.size X2 w2)(hX:Below w2.heap.size w2 X3)(h3:Below X3.heap.size X3 w3):Below X2.heap.size X2 w3:=
 (h2.trans (hX.mono h2.size)).trans (h3.mono (JA h2.size hX.size))
variable {B n:Nat} {s:Bool} {p:Option Addr} {xs:List Int} {z:Int} {v:Value}
theorem Ho{U:Nat}{a:Addr}(hU:∀x,p=some x->x.block<U)(ha:U<=a.block)(h:NI B w s p n xs z):NI B (w.setCell a v) s p n xs z:=
 ⟨h.len,h.rd.ah a v (fun b hb e=>by have:=hU b hb;omega),h.u,h.nrm,h.sg,h.pn,h.v,h.fr,h.fz.set a v⟩
variable {F:Nat}
theorem Hp{a:Addr}(hF:aJ F p)(ha:a.block<F)(h:NI B w s p n xs z):NI B (w.setCell a v) s p n xs z:=
 ⟨h.len,h.rd.ah a v (fun b hb e=>by have:=hF b hb;omega),h.u,h.nrm,h.sg,h.pn,h.v,h.fr,h.fz.set a v⟩
variable {u:Value}
theorem mE{o:Obj}(h:Bx w r u v):Bx (w.alloc o) r u v:=h.alloc o
theorem lI{t:Nat}(h:r=w.heap.size):Bx (w.alloc (.cells #[u,v] t)) r u v:=Bx.new u v t h
variable {g:Nat}
theorem eg{x y:Value}(h:Bx w g u v):Bx ((w.setCell ⟨g,0,none⟩ x).setCell ⟨g,1,none⟩ y) g x y:=by
 have h1:(w.setCell ⟨g,0,none⟩ x).cell? ⟨g,1,none⟩=some v:=by rw[World.cell?_setCell_other _ _ _ _ (by simp)];exact h.c1
 refine⟨?_,World.cell?_setCell_same _ _ _ h1,?_,?_⟩
 ·rw[World.cell?_setCell_other _ _ _ _ (by simp)];exact World.cell?_setCell_same _ _ _ h.c0
 ·rw[World.frozen?_setCell,World.frozen?_setCell];exact h.f0
 ·rw[World.frozen?_setCell,World.frozen?_setCell];exact h.f1
theorem dO{x y:Value}(h:Bx w r u v)(hne:r≠g):Bx ((w.setCell ⟨g,0,none⟩ x).setCell ⟨g,1,none⟩ y) r u v:=by
 have e:((w.setCell ⟨g,0,none⟩ x).setCell ⟨g,1,none⟩ y).heap[r]?=w.heap[r]?:=(heap_setCell_other _ _ r y hne).trans (heap_setCell_other _ _ r x hne);exact⟨(World.cell?_of_block (a:=⟨r,0,none⟩) e).trans h.c0,(World.cell?_of_block (a:=⟨r,1,none⟩) e).trans h.c1,(World.frozen?_of_block (a:=⟨r,0,none⟩) e).trans h.f0,(World.frozen?_of_block (a:=⟨r,1,none⟩) e).trans h.f1⟩
theorem jr{x:World}{o:Obj}(h:Below B w x)(hB:B<=w.heap.size):Below B w (x.alloc o):=h.alloc (JA hB h.size) o
theorem cF{x:World}{a:Addr}(h:Below B w x)(ha:B<=a.block):Below B w (x.setCell a v):=h.setCell ha v
theorem bh{a b c:World}(h:Below B a b)(hB:B<=a.heap.size)(k:Below b.heap.size b c):Below B a c:=h.trans (k.mono (JA hB h.size))
theorem ae{a b c:World}(h:Below a.heap.size a b)(k:Below b.heap.size b c):Below a.heap.size a c:=bh h (Jr _) k
theorem dD{a b:World}(h:Below B a b)(hg:B<=g)(u v:Value):Below B a ((b.setCell ⟨g,0,none⟩ u).setCell ⟨g,1,none⟩ v):=(h.setCell (p:=⟨g,0,none⟩) hg u).setCell (p:=⟨g,1,none⟩) hg v
variable {k:Nat}
theorem NI.le(h:NI B w s p n xs z)(hz:(z.natAbs:Int)<pw k):n<=k:=by
 have hv:(z.natAbs:Int)=val xs:=by
  have:=ar h.u;rw[<-h.v,aq];split<;>omega
 rcases Jw n with h0|h0
 ·omega
 ·have h1:=bV h.u (by rw[h.nrm];exact h0)
  rw[h.nrm] at h1
  have h2:n-1<k:=by
   rcases Ju (n-1) k with h3|h3
   ·exact h3
   ·have:=aW h3;omega
  omega
variable {nc:Nat}
theorem AI.lt(h:AI w p n nc xs)(s:Bool):((aq s xs).natAbs:Int)<pw n:=by
 have h1:=ar h.u;have h2:=f_ h.u;have h3:=aW (aj xs);rw[h.len] at h3
 rw[aq];split<;>omega
theorem gF(h:aJ B p)(hg:g<B):Off g p:=fun a ha e=>by have:=h a ha;omega
theorem q_(h:0<z):bf z=1:=by unfold bf;rw[if_neg (by omega),if_neg (by omega)]
theorem qY(h:z<0):bf z = -1:=by unfold bf;rw[if_neg (by omega),if_pos h]
theorem ot(h:z=0):bf z=0:=by unfold bf;rw[if_pos h]
variable {K:Nat} {e:Ent}
theorem tp(h:EV w K z e):Calls Tryz.prog 35 #[.agg #[.bool e.s,.slice e.p e.n e.c]] w fun r w'=>r=.returned (.int .i64 (bf z))/\Below w.heap.size w w':=by
 obtain⟨xs,h1,rfl,h3⟩:=h;exact qI e.s e.p e.n e.c xs w h1
theorem cN(K:Nat)(p:Option Addr)(n nc:Nat)(es:List Ent)(zs:List Int)(w:World)(h:PA w K p n nc es zs)(hn:n<=1000000):
  Calls Tryz.prog 69 #[.slice p n nc] w fun e w'=>e=.returned (.slice p (ad zs) (ad zs))/\Below w.heap.size w w':=by
 have hle:=h.el;go_enter Tryz.func69,Tryz.ntmps69;go_wp2;go_loopw [3] (fun nv wr=>∃k:Nat,k<=n/\nv=.int .i64 k/\Hid ((∀j,k<=j->gx zs j=0)/\Below w.heap.size w wr)) (fun nv _=>(intOf nv).toNat)
 case atStart=>exact⟨n,Jr _,by go_num,fun j hj=>ak zs n (by rw[h.zl];exact Jr _) j hj,Jt _ _⟩
 case round=>
  obtain⟨k,hk,rfl,H⟩:=hrel;rcases Jw k with h0|h0
  ·subst h0
   have HT:Hid (ad zs=0):=aX zs 0 (fun j _=>H.out.1 j (Jz _)) (.inl rfl)
   go_wp2;go_ret;exact⟨by rw[HT.out];rfl,H.out.2⟩
  ·obtain⟨i,rfl⟩:∃i,k=i+1:=⟨k-1,by omega⟩
   obtain⟨H1,H2⟩:=H.out;have HH:Hid ((∀j,i+1<=j->gx zs j=0)/\Below w.heap.size w wr):=⟨H1,H2⟩;have hw:=h.below H2;obtain⟨b,o,hp,hc⟩:=hw.pl (by omega)
   subst hp;obtain⟨c0,c1⟩:=hc i (by omega)
   have hv:=hw.ev i (by omega)
   have hcap:=h.cap;have hbnd:=h.bnd;unfold maxLen at hbnd
   clear H H1 H2 hc;go_wp2_with fail;refine(tp hv).mono ?_;rintro e w1 ⟨rfl,hb1⟩;have hB:=ae HH.out.2 hb1;have hcs:Hid (gx zs i=0\/¬gx zs i=0):=Classical.em _;rcases hcs.out with hz|hz
   ·rw[ot hz]
    have HZ:Hid (gx zs i=0):=hz;clear hz hcs c0 c1 hv;go_wp2;go_roundw
    case rel=>exact⟨i,by omega,by go_num,fun j hj=>by
     rcases Ju i j with h|h
     ·exact HH.out.1 j h
     ·have:j=i:=by omega
      subst this;exact HZ.out,hB⟩
    case measure=>simp[intOf]
   ·have HT:Hid (ad zs=i+1):=aX zs (i+1) HH.out.1 (.inr hz)
    have hi:bf (gx zs i)=1\/bf (gx zs i) = -1:=by
     rcases(show 0<gx zs i\/gx zs i<0 by omega) with h|h
     ·exact .inl (q_ h)
     ·exact .inr (qY h)
    clear hz hcs c0 c1 hv;rcases hi with hi|hi
    all_goals
     rw[hi];clear hi;go_wp2;go_ret;exact⟨by rw[HT.out];rfl,hB⟩
def ezs(n:Nat):List Ent:=List.replicate n ez
theorem bL(n:Nat):(ezs n).length=n:=by simp[ezs]
theorem jy(n i:Nat):ge (ezs n) i=ez:=by
 unfold ge ezs;by_cases h:i<n
 ·simp[List.getElem?_replicate,h]
 ·simp[List.getElem?_replicate,h]
theorem zm(n:Nat):madeCells #[.bool false,.slice none 0 0] (n*2)=ca2 (ezs n):=by
 apply Array.ext
 ·simp[size_madeCells,rK,bL]
 ·intro i h1 h2
  have hl:i<n*2:=by simpa [size_madeCells] using h1
  have hj:i/2<(ezs n).length:=by rw[bL];omega
  obtain⟨g0,g1⟩:=gn (ezs n) (i/2) hj;have e:(ca2 (ezs n))[i]?=((ezs n).flatMap fun e=>[Value.bool e.s,.slice e.p e.n e.c])[i]?:=by unfold ca2;exact List.getElem?_toArray
  rw[Array.getElem?_eq_getElem h2] at e
  rcases Nat.mod_two_eq_zero_or_one i with h|h
  ·have hi:i/2*2=i:=by omega
   rw[hi,<-e,jy] at g0
   rw[Option.some.inj g0];simp[madeCells,h,ez]
  ·have hi:i/2*2+1=i:=by omega
   rw[hi,<-e,jy] at g1
   rw[Option.some.inj g1];simp[madeCells,h,ez]
theorem D2:(Tryz.prog.info? 50).map (fun i=>(i.zero,i.size,i.bytes))=some (some (.agg #[.bool false,.slice none 0 0]),2,32):=by kernel_rfl
theorem mg(n:Nat)(h:n<=1000000000)(w:World):(Instr.makeSlice 25 (.int .i64 n) (.int .i64 n)).run Tryz.prog w =
  .ok (.slice (some ⟨w.heap.size,0,none⟩) n n) (w.alloc (.cells (ca2 (ezs n)) 50)):=by
 have hi:=D2
 cases hq:Tryz.prog.info? 50 with
 |none=>rw[hq] at hi;cases hi
 |some i=>
  rw[hq] at hi
  simp only[Option.map_some,Option.some.injEq,Prod.mk.injEq] at hi
  obtain⟨h1,h2,h3⟩:=hi;have hr:=run_make (P:=Tryz.prog) w 25 50 i (.agg #[.bool false,.slice none 0 0]) Tryz.underlying25 hq h1 .i64 .i64 n n (by omega) (Int.le_refl _) (by rw[h3];omega) (by omega)
  rw[Int.toNat_natCast,h2] at hr
  rw[hr];exact congrArg (fun c=>Result.ok (Value.slice (some ⟨w.heap.size,0,none⟩) n n) (w.alloc (.cells c 50))) (zm n)
def NV(B:Nat)(w:World)(K:Nat)(z:Int)(e:Ent):Prop:=∃xs,NI B w e.s e.p e.n xs z/\e.c=e.n/\e.n<=K
structure PN(B:Nat)(w:World)(K:Nat)(p:Option Addr)(n:Nat)(es:List Ent)(zs:List Int):Prop where
 el:es.length=n
 zl:zs.length=n
 nrm:ad zs=n
 pl:PL w p es
 fr:aJ B p
 ev:∀j,j<n->NV B w K (gx zs j) (ge es j)
section
variable {B:Nat} {w w':World} {K:Nat} {z:Int} {e:Ent} {p:Option Addr} {n:Nat} {es:List Ent} {zs:List Int}
theorem NV.below(h:NV B w K z e)(hb:Below w.heap.size w w'):NV B w' K z e:=by
 obtain⟨xs,h1,h2⟩:=h;exact⟨xs,h1.below hb,h2⟩
theorem NV.mono{B':Nat}(h:NV B w K z e)(hB:B'<=B):NV B' w K z e:=by
 obtain⟨xs,h1,h2⟩:=h;exact⟨xs,h1.mono hB,h2⟩
theorem NV.ez(B:Nat)(w:World)(K:Nat):NV B w K 0 ez:=⟨[],⟨rfl,Rd.nil,fun j=>by simp[gx],by decide,fun _=>rfl,fun _=>rfl,by decide,(fun a ha=>by cases ha),Fz.nil _⟩,rfl,Jz _⟩
theorem NV.b8(h:NV B w K z e){g o:Nat}(hg:g<B)(u v:Value):NV B ((w.setCell ⟨g,o,none⟩ u).setCell ⟨g,o+1,none⟩ v) K z e:=by
 obtain⟨xs,h1,h2⟩:=h;exact⟨xs,(h1.set (a:=⟨g,o,none⟩) hg u).set (a:=⟨g,o+1,none⟩) hg v,h2⟩
theorem NV.ev(h:NV B w K z e)(hK:K<=1000):EV w K z e:=by
 obtain⟨xs,h1,h2,h3⟩:=h;exact⟨xs,by rw[h2];exact h1.ai (by omega),h1.v,h3⟩
theorem PN.below(h:PN B w K p n es zs)(hb:Below w.heap.size w w'):PN B w' K p n es zs:=⟨h.el,h.zl,h.nrm,h.pl.below hb,h.fr,fun j hj=>(h.ev j hj).below hb⟩
theorem PN.mono{B':Nat}(h:PN B w K p n es zs)(hB:B'<=B):PN B' w K p n es zs:=⟨h.el,h.zl,h.nrm,h.pl,fun a ha=>JA hB (h.fr a ha),fun j hj=>(h.ev j hj).mono hB⟩
theorem PN.pa(h:PN B w K p n es zs)(hK:K<=1000)(hn:n<=1000000):PA w K p n n es zs:=
 ⟨h.el,h.zl,Jr _,by unfold maxLen;omega,fun e=>by
  rcases Jw n with h0|h0
  ·exact h0
  ·obtain⟨b,o,hp,-⟩:=h.pl (by rw[h.el];exact h0)
   rw[hp] at e
   exact absurd e (by simp),h.pl,fun j hj=>(h.ev j hj).ev hK⟩
end
def PnP(zs:List Int)(K:Nat)(w:World)(e:Ending)(w':World):Prop:=
 ∃p n es,e=.returned (.slice p n n)/\PN w.heap.size w' K p n es zs/\Below w.heap.size w w'
def OfI(w W0:World)(xs:List Int)(n k:Nat)(wr:World):Prop:=
 ∃es,bA wr w.heap.size 50 es/\es.length=n/\(∀j,j<k->NV (w.heap.size+1) wr 2 (gx xs j) (ge es j))/\Below (w.heap.size) W0 wr
variable {wr:World}
theorem uy{W0:World}(h:Below w.heap.size w W0)(k:Below w.heap.size W0 wr):Below w.heap.size w wr:=h.trans k
theorem zU(p:Option Addr)(n nc:Nat)(xs:List Int)(w:World)(hl:xs.length=n)(hn:n<=1000000)(hX:Rd w p .i64 xs)(hx:∀j,-9223372036854775808<=gx xs j/\gx xs j<=9223372036854775807):
  Calls Tryz.prog 32 #[.slice p n nc] w (PnP (tr xs) 2 w):=by
 have hmk:=mg n (by omega)
 have HX:Hid (Rd w p .i64 xs/\∀j,-9223372036854775808<=gx xs j/\gx xs j<=9223372036854775807):=⟨hX,hx⟩;clear hX hx;go_enter Tryz.func32,Tryz.ntmps32;go_wp2_with fail;have hR0:=bA.new w 50 (ezs n);have hW0:Below w.heap.size w (w.alloc (.cells (ca2 (ezs n)) 50)):=(Jt _ _).alloc (Jr _) _;have hs0:w.heap.size+1<=(w.alloc (.cells (ca2 (ezs n)) 50)).heap.size:=by simp
 generalize w.alloc (.cells (ca2 (ezs n)) 50)=W0 at *
 clear hmk;go_loopw [4,5,11] (fun iv nv kv wr=>∃k:Nat,k<=n/\kv=.int .i64 k/\Hid (OfI w W0 xs n k wr)) (fun _ _ kv _=>n-(intOf kv).toNat)
 case atStart=>exact⟨0,Jz _,by go_num,ezs n,hR0,bL n,fun j hj=>by omega,Jt _ _⟩
 case round=>
  obtain⟨k,hk,rfl,H⟩:=hrel;rcases Ju k n with hlt|hge
  ·obtain⟨es,hR,hel,hev,hB⟩:=H.out
   have hBw:=uy hW0 hB;obtain⟨b,o,hp,hc⟩:=(HX.out.1.below hBw) (by omega)
   subst hp;have c0:=hc k (by omega)
   obtain⟨x0,x1⟩:=HX.out.2 k;have HH:Hid (OfI w W0 xs n k wr):=H.out;clear H hR hel hev hB hBw hc;go_wp2_with fail;refine(Bk (gx xs k) _ x0 x1).mono ?_;rintro e w1 ⟨s1,p1,n1,z1,rfl,hN1,hn1,hb1⟩;obtain⟨es,hR,hel,hev,hB⟩:=HH.out;have hR1:=hR.below hb1 hR.lt;obtain⟨d0,d1⟩:=hR1.cell k (by omega)
   have f0:=hR1.frozen (k*2);have f1:=hR1.frozen (k*2+1);have hsz:w.heap.size+1<=wr.heap.size:=JA hs0 hB.size;have HN:Hid (NI wr.heap.size w1 s1 p1 n1 z1 (gx xs k)):=hN1;have HI:Hid (bA w1 w.heap.size 50 es/\es.length=n/\(∀j,j<k->NV (w.heap.size+1) w1 2 (gx xs j) (ge es j))/\Below w.heap.size W0 w1):=⟨hR1,hel,fun j hj=>(hev j hj).below hb1,hB.trans (hb1.mono (by omega))⟩
   clear hN1 hR hel hev hB hR1 hb1 HH c0;go_wp2;go_roundw
   case rel=>
    obtain⟨hR,hel,hev,hB⟩:=HI.out;refine⟨k+1,by omega,by go_num,es.set k ⟨s1,p1,n1,n1⟩,hR.set k ⟨s1,p1,n1,n1⟩ (by omega),by simpa using hel,fun j hj=>?_,?_⟩
    ·rcases Ju j k with h|h
     ·rw[cG _ _ _ _ (by omega)]
      exact(hev j h).b8 (by omega) _ _
     ·obtain rfl:j=k:=by omega
      rw[cR _ _ _ (by omega)]
      exact NV.b8 ⟨z1,HN.out.mono hsz,rfl,hn1⟩ (by omega) _ _
    ·exact(hB.setCell (p:=⟨w.heap.size,k*2,none⟩) (Jr _) _).setCell (p:=⟨w.heap.size,k*2+1,none⟩) (Jr _) _
   case measure=>simp[intOf];omega
  ·obtain rfl:k=n:=by omega
   obtain⟨es,hR,hel,hev,hB⟩:=H.out;have hPA:PA wr 2 (some ⟨w.heap.size,0,none⟩) k k es xs:=⟨hel,hl,Jr _,by unfold maxLen;omega,fun e=>by simp at e,hR.pl,fun j hj=>(hev j hj).ev (by decide)⟩
   have HI:Hid (bA wr w.heap.size 50 es/\es.length=k/\(∀j,j<k->NV (w.heap.size+1) wr 2 (gx xs j) (ge es j))/\Below w.heap.size W0 wr):=⟨hR,hel,hev,hB⟩;clear H hR hel hev hB hge hk;go_wp2_with fail;refine(cN 2 _ _ _ es xs _ hPA hn).mono ?_;rintro e w1 ⟨rfl,hb1⟩;clear hPA;go_wp2;go_ret;obtain⟨hR,hel,hev,hB⟩:=HI.out;have hsz:wr.heap.size>=w.heap.size:=JA hW0.size hB.size;have htl:=aj xs;refine⟨_,_,es.take (ad xs),rfl,⟨by simp;omega,af xs,aM xs,(hR.below hb1 hR.lt).pl.take _,fun a ha=>by cases ha;exact Jr _,fun j hj=>?_⟩,(uy hW0 hB).trans (hb1.mono hsz)⟩
   rw[aN,e_ _ _ _ hj];exact((hev j (by omega)).below hb1).mono (by omega)
variable {base cap:Nat}
theorem gT{e:TypeId}{k:IntKind}(h:w.ownsRow base e 1 (.slice (some ⟨g,0,none⟩) n cap) n (xs.map (Value.int k))):Rd w (some ⟨g,0,none⟩) k xs:=fun hx=>
 ⟨g,0,rfl,fun j hj=>by
  have:=h.cells (g:=g) rfl j (.int k (gx xs j)) (by rw[List.getElem?_map,List.getElem?_eq_getElem hj,bZ xs j hj];rfl)
  rw[Addr.add_mid] at this
  exact this⟩
def vd:List Int->Int
 | []=>0
 |x::r=>x+65536*vd r
def U16(xs:List Int):Prop:=∀j,0<=gx xs j/\gx xs j<65536
def spl:List Int->List Int
 | []=>[]
 |x::r=>x%65536::x/65536::spl r
theorem I5(xs:List Int):vd (spl xs)=val xs:=by
 induction xs with
 |nil=>rfl
 |cons x r ih=>simp only[spl,vd,val,ih];omega
theorem jP(xs:List Int):(spl xs).length=2*xs.length:=by
 induction xs with
 |nil=>rfl
 |cons x r ih=>simp only[spl,List.length_cons,ih];omega
theorem rN{r:List Int}(h0:0<=x/\x<65536)(h:U16 r):U16 (x::r):=fun j=>by
 cases j with
 |zero=>rw[cJ];exact h0
 |succ j=>rw[d_];exact h j
theorem zT(h:U32 xs):U16 (spl xs):=by
 induction xs with
 |nil=>intro j;rw[spl,cS];decide
 |cons x r ih=>
  obtain⟨h1,h2⟩:=jf h;exact rN (by omega) (rN (by omega) (ih h2))
theorem A2(a b:List Int):spl (a++b)=spl a++spl b:=by
 induction a with
 |nil=>rfl
 |cons x r ih=>simp only[List.cons_append,spl,ih]
theorem lf(a b:List Int)(h:∀j,gx b j=0):vd (a++b)=vd a:=by
 induction a with
 |nil=>
  rw[List.nil_append];induction b with
  |nil=>rfl
  |cons x r ih=>
   have h0:=h 0;rw[cJ] at h0
   simp only[vd,h0,ih (fun j=>by have:=h (j+1);rwa [d_] at this)]
   rfl
 |cons x r ih=>simp only[List.cons_append,vd,ih]
theorem lg(xs:List Int):vd (tr xs)=vd xs:=by
 have h:=lf (tr xs) (xs.drop (ad xs)) (fun j=>by rw[bC];exact az xs _ (by omega))
 rw[tr,List.take_append_drop] at h
 exact h.symm
theorem mz(h:U16 xs):U16 (tr xs):=fun j=>by rw[aN];exact h j
structure RN(w:World)(s:Bool)(p:Option Addr)(n:Nat)(ds:List Int):Prop where
 len:ds.length=n
 rd:Rd w p .i64 ds
 u:U16 ds
 nrm:ad ds=n
 sg:n=0->s=false
 sml:n<=1000000000
variable {ds:List Int}
theorem RN.below(h:RN w s p n ds)(hb:Below w.heap.size w w'):RN w' s p n ds:=⟨h.len,h.rd.below hb,h.u,h.nrm,h.sg,h.sml⟩
def aF(s:Bool)(ds:List Int):Int:=if s then-vd ds else vd ds
theorem bI(neg:Bool)(p:Option Addr)(len cap:Nat)(xs:List Int)(w:World)(hl:xs.length=len)(hc:len<=cap)(hm:cap<=maxLen)(hx:Rd w p .i64 xs):
  Calls Tryz.prog 66 #[.bool neg,.slice p len cap] w fun e w'=>e=.returned (.agg #[.bool (nsg neg xs),.slice p (ad xs) (ad xs)])/\Below w.heap.size w w':=by
 unfold maxLen at hm
 have ht:=aj xs;go_enter Tryz.func66,Tryz.ntmps66;go_wp2;have hx':=hx.alloc (.cells #[.bool false,.slice none 0 0] 65);have hBx:Bx (w.alloc (.cells #[.bool false,.slice none 0 0] 65)) w.heap.size (.bool false) (.slice none 0 0):=Bx.new _ _ _ rfl;have hbw:Below w.heap.size w (w.alloc (.cells #[.bool false,.slice none 0 0] 65)):=(Jt _ _).alloc (Jr _) _;generalize w.alloc (.cells #[.bool false,.slice none 0 0] 65)=W at *
 have c0:=hBx.c0;have c1:=hBx.c1;have f0:=hBx.f0;have f1:=hBx.f1;go_loop [5] (fun n=>∃k:Nat,k<=len/\n=.int .i64 k/\Hid (∀j,k<=j->gx xs j=0)) (fun n=>(intOf n).toNat)
 case atStart=>exact⟨len,Jr _,rfl,ak xs len (by omega)⟩
 case round=>
  obtain⟨k,hk,rfl,hz⟩:=hrel;by_cases h0:k=0
  ·subst h0
   have ht0:=aX xs 0 hz.out (.inl rfl);have hns:nsg neg xs=false:=by rw[nsg,if_pos ht0]
   have HN:Hid (nsg neg xs=false/\ad xs=0):=⟨hns,ht0⟩;clear hns ht0
   cases neg
   all_goals
    go_wp2;refine bodyPost_ret (v:=.agg #[.bool false,.slice p 0 0]) (by simp[results,Tryz.results66,go_sem,c0,c1]) rfl ⟨by rw[HN.out.1,HN.out.2],?_⟩
    exact(hbw.setCell (by simp) _).setCell (by simp) _
  ·obtain⟨m,rfl⟩:∃m,k=m+1:=⟨k-1,by omega⟩
   obtain⟨b,off,rfl,hcell⟩:=hx' (by omega)
   have hcm:=hcell m (by omega)
   clear hcell;by_cases h1:gx xs m=0
   ·have h2:(gx xs m==0)=true:=by simp only[h1];rfl
    go_wp2;go_round
    case rel=>exact⟨m,by omega,by go_num,fun j hj=>by
     rcases Ju m j with h|h
     ·exact hz.out j h
     ·have:j=m:=by omega
      subst this;exact h1⟩
    case measure=>simp[intOf]
   ·have h2:(gx xs m==0)=false:=by simpa using h1
    have ht1:=aX xs (m+1) hz.out (.inr h1);have hns:nsg neg xs=neg:=by rw[nsg,if_neg (by omega)]
    have HN:Hid (nsg neg xs=neg/\ad xs=m+1):=⟨hns,ht1⟩;clear hns ht1
    cases neg
    ·go_wp2
     refine bodyPost_ret (v:=.agg #[.bool false,.slice (some ⟨b,off,none⟩) (m+1) (m+1)]) (by simp[results,Tryz.results66,go_sem,c0,c1]) rfl ⟨by rw[HN.out.1,HN.out.2],?_⟩
     exact(hbw.setCell (by simp) _).setCell (by simp) _
    ·go_wp2
     refine bodyPost_ret (v:=.agg #[.bool true,.slice (some ⟨b,off,none⟩) (m+1) (m+1)]) (by simp[results,Tryz.results66,go_sem,c0,c1]) rfl ⟨by rw[HN.out.1,HN.out.2],?_⟩
     exact(hbw.setCell (by simp) _).setCell (by simp) _
def yQ(w:World)(a b:Int)(n m:Nat)(e:Ending)(w':World):Prop:=
 ∃s1 p1 n1 qs s2 p2 n2 rs Q R,e=.returned (.tuple #[.agg #[.bool s1,.slice p1 n1 n1],.agg #[.bool s2,.slice p2 n2 n2],.int .i64 0])/\NI w.heap.size w' s1 p1 n1 qs Q/\NI w.heap.size w' s2 p2 n2 rs R/\
  Q*b+R=a/\0<=R/\R<(b.natAbs:Int)/\n1<=n+3/\n2<=n+m+1/\Below w.heap.size w w'
theorem xA(s t:Bool)(xs ys qs rs:List Int)(h:val qs*val ys+val rs=val xs)(hs:s=false\/val rs=0):aq (s != t) qs*aq t ys+aq false rs=aq s xs:=by
 rcases hs with rfl|hr
 ·cases t<;>simp[aq,Int.neg_mul,Int.mul_neg]<;>omega
 ·rw[hr] at h
  cases s<;>cases t<;>simp[aq,Int.neg_mul,Int.mul_neg,hr]<;>omega
theorem CG(t:Bool)(xs ys qs rs qs' rs':List Int)(h:val qs*val ys+val rs=val xs)(h1:val qs'=val qs+1)(h2:val rs'=val ys-val rs):aq (!t) qs'*aq t ys+aq false rs'=aq true xs:=by
 cases t<;>simp[aq,Int.neg_mul,Int.mul_neg,h1,h2,Int.add_mul]<;>omega
variable {ys:List Int}
theorem qJ(t:Bool)(h:U32 ys):((aq t ys).natAbs:Int)=val ys:=by
 have:=ar h
 cases t<;>simp[aq]<;>omega
theorem AN(t:Bool)(xs ys qs rs:List Int)(h:val qs*val ys+val rs=val xs):aq t qs*aq t ys+aq false rs=aq false xs:=by
 simpa using xA false t xs ys qs rs h (.inl rfl)
theorem AO(t:Bool)(xs ys qs rs:List Int)(h:val qs*val ys+val rs=val xs)(hr:val rs=0):aq (!t) qs*aq t ys+aq false rs=aq true xs:=by
 simpa using xA true t xs ys qs rs h (.inr hr)
theorem IZ(hU:U32 ys)(h:ad ys=1):tr ys=[val ys]:=by
 have hl:=af ys;rw[h] at hl
 match he:tr ys,hl with
 | [d],_=>
  have:=aK ys;rw[he,val_one] at this
  rw[this]
theorem wM(hU:U32 xs)(h:aq s xs=z)(hz:z<0):s=true/\val xs = -z:=by
 have:=ar hU
 cases s
 ·simp only[aq,Bool.false_eq_true,if_false] at h;omega
 ·simp only[aq,if_true] at h;exact⟨rfl,by omega⟩
theorem wN(hU:U32 xs)(h:aq s xs=z)(hz:0<z):s=false/\val xs=z:=by
 have:=ar hU
 cases s
 ·simp only[aq,Bool.false_eq_true,if_false] at h;exact⟨rfl,h⟩
 ·simp only[aq,if_true] at h;omega
end Go.Proofs.YtdjjlghlcffflaaGreatDoor
