/- Own. -/
import Derived.Test.YtdjjlghlcffflaaGreatDoorQa
import Derived.Lib.EndianBits
import Derived.Test.YtdjjlghlcffflaaGreatDoorRd
set_option linter.unusedVariables false
set_option linter.unusedSimpArgs false
set_option maxHeartbeats 8000000
set_option maxRecDepth 100000
namespace Go.Proofs.YtdjjlghlcffflaaGreatDoor
open Go.RowKit
theorem ks{s:Nat}(h:s<=32):(2:Int)^s*2^(32-s)=4294967296:=by
 rw[<-Int.pow_add,show s+(32-s)=32 by omega];rfl
theorem oT(s:Nat)(h:s<=32)(x:Int)(h0:0<=x)(h1:x<4294967296):
  x*2^s%4294967296=2^s*(x%2^(32-s))/\x*2^s%4294967296+4294967296*(x/2^(32-s))=2^s*x/\0<=x/2^(32-s)/\x/2^(32-s)<2^s/\x*2^s%4294967296+2^s<=4294967296/\0<=x*2^s%4294967296:=by
 have hP:(0:Int)<2^s:=Int.pow_pos (by decide)
 have hD:(0:Int)<2^(32-s):=Int.pow_pos (by decide)
 have hb:=ks h;have e1:x*2^s%4294967296=2^s*(x%2^(32-s)):=by
  rw[<-hb,JI x,Int.mul_emod_mul_of_pos _ _ hP]
 have e2:=Int.emod_add_mul_ediv x (2^(32-s));have e3:=Int.emod_nonneg x (show(2:Int)^(32-s)≠0 by omega)
 have e4:=JK x hD;refine⟨e1,?_,Int.ediv_nonneg h0 (by omega),Int.ediv_lt_of_lt_mul hD (by rw[hb];exact h1),?_,?_⟩
 ·rw[e1,<-hb,JG,<-JF,e2]
 ·rw[e1]
  have:(2:Int)^s*(x%2^(32-s)+1)<=2^s*2^(32-s):=Jx (by omega) (by omega)
  rw[JF,Int.mul_one,hb] at this
  exact this
 ·rw[e1];exact JJ (by omega) e3
theorem Cs(s:Nat)(h:s<=32)(y x:Int)(y0:0<=y)(y1:y<2^s)(h0:0<=x)(h1:x<4294967296):bits .or .u32 y (x*2^s%4294967296)=y+x*2^s%4294967296:=by
 obtain⟨e1,e2,e3,e4,e5,e6⟩:=oT s h x h0 h1;have hP:(0:Int)<2^s:=Int.pow_pos (by decide)
 exact bits_join_low .u32 32 (by decide) (fun n a b=>by rw[IntKind.wrap_u32'];omega) s y _ y0 y1 (by omega) e6 (by rw[e1];exact Int.mul_emod_right _ _) (by omega)
theorem qE(p:Option Addr)(n nc s:Nat)(xs:List Int)(w:World)(hl:xs.length=n)(hn:n<=100000000)(hs:s<=31)(hX:Rd w p .u32 xs)(hU:U32 xs):
  Calls Tryz.prog 196 #[.slice p n nc,.int .i64 (s:Int)] w fun e w'=>∃R,e=.returned (.slice (some ⟨w.heap.size,0,none⟩) (n+1) (n+1))/\R.length=n+1/\U32 R/\Hid (val R=2^s*val xs)/\Row w' w.heap.size 97 .u32 R/\Below w.heap.size w w':=by
 have hmk:=jB (n+1) (by omega)
 have ec:((n+1:Nat):Int)=(n:Int)+1:=by omega
 rw[ec] at hmk
 clear ec;have HL:Hid (xs.length=n):=hl;clear hl;have hrow:=Row.new w 97 .u32 (au (n+1));have hbel:Below w.heap.size w (w.alloc (.cells (ca .u32 (au (n+1))) 97)):=(Jt _ _).alloc (Jr _) _;have HB:Hid (Row (w.alloc (.cells (ca .u32 (au (n+1))) 97)) w.heap.size 97 .u32 (au (n+1))/\Below w.heap.size w (w.alloc (.cells (ca .u32 (au (n+1))) 97))):=⟨hrow,hbel⟩;clear hrow hbel;go_enter Tryz.func196,Tryz.ntmps196;go_wp2;generalize w.alloc (.cells (ca .u32 (au (n+1))) 97)=W at *
 go_loopw [14] (fun iv wr=>∃(i:Nat) (R:List Int),i<=n/\iv=.int .i64 i/\Hid (R.length=n+1/\U32 R/\val R=2^s*val (xs.take i)/\gx R i<2^s/\(∀j,i<j->gx R j=0)/\Row wr w.heap.size 97 .u32 R/\Below w.heap.size w wr)) (fun iv _=>n-(intOf iv).toNat)
 case atStart=>exact⟨0,au (n+1),Jz _,rfl,aZ _,eR _,by simp[val_zero,val],by rw[dT];exact Int.pow_pos (by decide),fun j _=>dT _ j,HB.out.1,HB.out.2⟩
 case round=>
  obtain⟨i,R,hi,rfl,H⟩:=hrel;by_cases hlt:i<n
  ·have hltI:(i:Int)<(n:Int):=by omega
   obtain⟨h1,h2,h3,h4,h5,h6,h7⟩:=H.out;obtain⟨b,off,rfl,hcell⟩:=(hX.below h7) (by have:=HL.out;omega)
   have hc:=hcell i (by have:=HL.out;omega)
   have g1:=h6.cell i (by omega)
   have g2:=h6.frozen i;have g3:=h6.cell (i+1) (by omega)
   have g4:=h6.frozen (i+1);obtain⟨x0,x1⟩:=hU i;obtain⟨z0,z1⟩:=h2 i;clear h1 h2 h3 h4 h5 h6 h7 hcell;have hor:=Cs s (by omega) (gx R i) (gx xs i) z0 H.out.2.2.2.1 x0 x1
   have HP:Hid (gx xs i*2^s%4294967296+4294967296*(gx xs i/2^(32-s))=2^s*gx xs i/\0<=gx xs i/2^(32-s)/\gx xs i/2^(32-s)<2^s/\gx xs i*2^s%4294967296+2^s<=4294967296/\0<=gx xs i*2^s%4294967296):=(oT s (by omega) (gx xs i) x0 x1).2
   have hsI:(0:Int)<=(s:Int):=by omega
   have hsJ:(s:Int)<=31:=by omega
   go_wp2;go_region;go_wp2;obtain⟨h1,h2,h3,h4,h5,h6,h7⟩:=H.out;obtain⟨e2,e3,e4,e5,e6⟩:=HP.out;have hp32:(2:Int)^s<=4294967296:=by
    have hb:=ks (show s<=32 by omega)
    have hD:(0:Int)<2^(32-s):=Int.pow_pos (by decide)
    have:(2:Int)^s*1<=2^s*2^(32-s):=Jx (by omega) (Int.le_of_lt (Int.pow_pos (by decide)))
    omega
   refine⟨⟨i+1,(R.set i (gx R i+gx xs i*2^s%4294967296)).set (i+1) (gx xs i/2^(32-s)),by omega,by go_num,by rw[List.length_set,List.length_set];exact h1,dy (dy h2 _ (by omega)) _ (by omega),?_,?_,?_,(h6.set i _).set (i+1) _,(((h7.setCell (p:=⟨w.heap.size,i,none⟩) (Jr _) _).setCell (p:=⟨w.heap.size,i+1,none⟩) (Jr _) _)).drew⟩,by simp[intOf];omega⟩
   ·rw[h_ _ _ _ (by rw[List.length_set];omega),h_ _ _ _ (by omega),cl _ _ _ _ (by omega),h5 (i+1) (by omega),h3,aD xs i (by have:=HL.out;omega),bE,JF (2^s),JH (2^s) (pw i),<-e2]
    simp only[JF,Int.mul_sub,Int.sub_zero];have e7:pw i*(4294967296*(gx xs i/2^(32-s)))=4294967296*pw i*(gx xs i/2^(32-s)):=by rw[<-JG,JI (pw i) 4294967296]
    rw[e7];omega
   ·rw[bK _ _ _ (by rw[List.length_set];omega)];exact e4
   ·intro j hj
    rw[cl _ _ _ _ (by omega),cl _ _ _ _ (by omega)];exact h5 j (by omega)
  ·obtain rfl:i=n:=by omega
   have hltI:¬(i:Int)<(i:Int):=by omega
   go_wp2;go_ret;obtain⟨h1,h2,h3,h4,h5,h6,h7⟩:=H.out;rw[Jv (by have:=HL.out;omega)] at h3
   exact⟨rfl,R,h1,h2,h3,h6,h7⟩
def Hu(g o n s:Nat)(Z R:List Int)(w:World)(e:Ending)(w':World):Prop:=
 ∃R',e=.returned (.tuple #[])/\R'.length=n/\U32 R'/\2^s*val R'=val R-gx R 0%2^s/\Row w' g 97 .u32 (mid Z o R')/\w.grownBy w' (some g)
variable {R:List Int} {i:Nat}
theorem zK{T:List Int}{s:Nat}{v yP r0:Int}(hT:i<T.length)(hR:i<R.length)(h4:2^s*val (T.take i)=val (R.take i)-r0+pw i*(gx R i%2^s))(hv:2^s*v=gx R i-gx R i%2^s+4294967296*yP):
  2^s*val ((T.set i v).take (i+1))=val (R.take (i+1))-r0+pw (i+1)*yP:=by
 rw[aD _ i (by rw[List.length_set];exact hT),bK T i v hT,List.take_set_of_le (Jr _),aD R i hR,JF,h4,JH,hv,bE]
 simp only[JF,Int.mul_sub];have e:pw i*(4294967296*yP)=4294967296*pw i*yP:=by rw[<-JG,JI (pw i) 4294967296]
 rw[e];omega
theorem vB(g o cap n s:Nat)(Z R:List Int)(w:World)(hz:o+n<=Z.length)(hcap:cap<=1099511627776)(hn:n<=cap)(hs:s<=31)(hRl:R.length=n)(hR:Row w g 97 .u32 (mid Z o R))(hU:U32 R):
  Calls Tryz.prog 198 #[.slice (some ⟨g,o,none⟩) n cap,.int .i64 (s:Int)] w (Hu g o n s Z R w):=by
 have HL:Hid (R.length=n):=hRl;clear hRl;go_enter Tryz.func198,Tryz.ntmps198;go_wp2;go_loopw [7] (fun iv wr=>∃(i:Nat) (T:List Int),i<=n/\iv=.int .i64 i/\Hid (T.length=n/\U32 T/\(∀j,i<=j->gx T j=gx R j)/\2^s*val (T.take i)=val (R.take i)-gx R 0%2^s+pw i*(gx R i%2^s)/\Row wr g 97 .u32 (mid Z o T)/\w.grownBy wr (some g))) (fun iv _=>n-(intOf iv).toNat)
 case atStart=>exact⟨0,R,Jz _,rfl,HL.out,hU,fun _ _=>rfl,by simp[val,iZ];omega,hR,ck _ _⟩
 case round=>
  obtain⟨i,T,hi,rfl,H⟩:=hrel;have hsI:(0:Int)<=(s:Int):=by omega
  have hsJ:(s:Int)<=31:=by omega
  have hP:(0:Int)<2^s:=Int.pow_pos (by decide)
  by_cases hlt:i<n
  ·have hltI:(i:Int)<(n:Int):=by omega
   obtain⟨h1,h2,h3,h4,h5,h6⟩:=H.out;have g1:=h5.gC (by omega) i (by omega)
   have g2:=h5.frozen (o+i);obtain⟨x0,x1⟩:=h2 i;have hx:=h3 i (Jr _);have q0:0<=gx T i/2^s:=Int.ediv_nonneg x0 (by omega)
   have q1:gx T i/2^s<=gx T i:=Int.ediv_le_self _ x0;have qd:=Int.emod_add_mul_ediv (gx T i) (2^s);have q2:gx T i/2^s<2^(32-s):=Int.ediv_lt_of_lt_mul hP (by rw[JI,ks (show s<=32 by omega)];exact x1)
   have HQ:Hid (gx T i=gx R i/\0<=gx T i/2^s/\gx T i%2^s+2^s*(gx T i/2^s)=gx T i/\gx T i/2^s<2^(32-s)/\gx T i/2^s<=gx T i):=⟨hx,q0,qd,q2,q1⟩;by_cases hl2:i+1<n
   ·have hl2I:(i:Int)+1<(n:Int):=by omega
    have g3:=h5.gC (by omega) (i+1) (by omega)
    have g4:=h5.frozen (o+(i+1));obtain⟨y0,y1⟩:=h2 (i+1);have hy:=h3 (i+1) (by omega)
    have hor:=Cs (32-s) (by omega) (gx T i/2^s) (gx T (i+1)) q0 q2 y0 y1
    have HP:Hid (gx T (i+1)=gx R (i+1)/\gx T (i+1)*2^(32-s)%4294967296=2^(32-s)*(gx T (i+1)%2^(32-(32-s)))/\gx T (i+1)*2^(32-s)%4294967296+2^(32-s)<=4294967296/\0<=gx T (i+1)*2^(32-s)%4294967296):=by
     obtain⟨e1,e2,e3,e4,e5,e6⟩:=oT (32-s) (by omega) (gx T (i+1)) y0 y1
     exact⟨hy,e1,e5,e6⟩
    clear h1 h2 h3 h4 h5 h6 hx q1 qd hy;go_wp2;go_region;go_wp2;obtain⟨h1,h2,h3,h4,h5,h6⟩:=H.out;obtain⟨a1,a2,a3,a4,a5⟩:=HQ.out;obtain⟨b1,b2,b3,b4⟩:=HP.out;have hb:=ks (show s<=32 by omega)
    have hss:32-(32-s)=s:=by omega
    refine⟨⟨i+1,T.set i (gx T i/2^s+gx T (i+1)*2^(32-s)%4294967296),by omega,by go_num,by rw[List.length_set];exact h1,dy h2 _ (by omega),fun j hj=>by rw[cl _ _ _ _ (by omega)];exact h3 j (by omega),?_,?_,dR (aL (aL h6 _ _) _ _)⟩,by simp[intOf];omega⟩
    ·refine zK (by omega) (by have:=HL.out;omega) h4 ?_
     rw[JF,b2,hss,<-b1,<-a1,<-JG,hb];omega
    ·have hr1:=h5.eP (by omega) i (by omega) (gx T i/2^s)
     have hr2:=hr1.eP (by rw[List.length_set];omega) i (by rw[List.length_set];omega) (gx T i/2^s+gx T (i+1)*2^(32-s)%4294967296)
     rw[List.set_set] at hr2
     exact hr2.drew
   ·have hl2I:¬(i:Int)+1<(n:Int):=by omega
    clear h1 h2 h3 h4 h5 h6 hx q1 qd;go_wp2;obtain⟨h1,h2,h3,h4,h5,h6⟩:=H.out;obtain⟨a1,a2,a3,a4,a5⟩:=HQ.out;have hz0:gx R (i+1)=0:=ak R n (by have:=HL.out;omega) _ (by omega)
    refine⟨⟨i+1,T.set i (gx T i/2^s),by omega,by go_num,by rw[List.length_set];exact h1,dy h2 _ (by omega),fun j hj=>by rw[cl _ _ _ _ (by omega)];exact h3 j (by omega),?_,h5.eP (by omega) i (by omega) _,aL h6 _ _⟩,by simp[intOf];omega⟩
    refine zK (by omega) (by have:=HL.out;omega) h4 ?_
    rw[hz0,Int.zero_emod,JC,Int.add_zero,<-a1];omega
  ·obtain rfl:i=n:=by omega
   have hltI:¬(i:Int)<(i:Int):=by omega
   go_wp2;go_end0;obtain⟨h1,h2,h3,h4,h5,h6⟩:=H.out;have hz0:gx R i=0:=ak R i (by have:=HL.out;omega) i (Jr _)
   rw[Jv (by omega),Jv (by have:=HL.out;omega),hz0,Int.zero_emod,JC,Int.add_zero] at h4
   exact⟨T,rfl,h1,h2,h4,h5,h6⟩
theorem Eb(x:Int)(w:World)(h0:0<x)(h1:x<4294967296):
  Calls Tryz.prog 195 #[.int .u32 x] w fun e w'=>∃s:Nat,e=.returned (.int .i64 (s:Int))/\s<=31/\Hid (x<2^(32-s))/\w=w':=by
 have hib:=ig 64 x.toNat (by omega)
 have e:((x.toNat:Nat):Int)=x:=by omega
 rw[e] at hib
 have hL:1<=Lib.bitLen x.toNat/\Lib.bitLen x.toNat<=32:=by
  have hb:IB (Lib.bitLen x.toNat) x:=hib;refine⟨?_,?_⟩
  ·rcases Jw (Lib.bitLen x.toNat) with hz|hz
   ·have h2:=hb.2.1
    rw[hz] at h2
    have e0:(2:Int)^0=1:=rfl;rw[e0] at h2;omega
   ·exact hz
  ·rcases Ju 32 (Lib.bitLen x.toNat) with hz|hz
   ·exfalso
    rcases hb.2.2 with h2|h2
    ·omega
    ·have h3:=eQ (show 32<=Lib.bitLen x.toNat-1 by omega)
     have e0:(2:Int)^32=4294967296:=rfl;omega
   ·exact hz
 have HB:Hid (IB (Lib.bitLen x.toNat) x):=hib;obtain⟨hl0,hl1⟩:=hL;have hl2:((Lib.bitLen x.toNat:Nat):Int)<=32:=by omega
 clear hib e;go_enter Tryz.func195,Tryz.ntmps195;go_wp2_with fail;refine(nO x _ (by omega) (by omega)).mono ?_
 rintro e w' ⟨rfl,rfl⟩;go_wp2;go_ret;refine⟨32-Lib.bitLen x.toNat,gU (by omega),by omega,?_,rfl⟩
 show x<2^(32-(32-Lib.bitLen x.toNat))
 rw[show 32-(32-Lib.bitLen x.toNat)=Lib.bitLen x.toNat by omega]
 exact HB.out.2.1
theorem yj(gq gu b2 o2 k m vc ucap:Nat)(Q0 U vs:List Int)(w:World)(hk:k<=1000000)(hm:m<=1000000)(h80:m+2<80\/k<80)(hql:Q0.length=k)(hqu:U32 Q0)(hul:U.length=k+(m+2))(huu:U32 U)(hvl:vs.length=m+2)(hV:U32 vs)(ht:gx vs (m+1)≠0)
  (hcap:ucap<=100000000) (huc:k+(m+2)<=ucap) (hQ:Row w gq 97 .u32 Q0) (hR:Row w gu 97 .u32 U) (hne:gq≠gu) (hY:Rd w (some ⟨b2,o2,none⟩) .u32 vs) (hn1:b2≠gq) (hn2:b2≠gu) (hhi:val (U.drop k)<val vs):
  Calls Tryz.prog 197 #[.slice (some ⟨gq,0,none⟩) k k,.slice (some ⟨gu,0,none⟩) (k+(m+2)) ucap,.slice (some ⟨b2,o2,none⟩) (m+2) vc] w (Bg gq gu k (m+2) U vs w):=by
 have hd:=tE gq gu b2 o2 k m vc ucap Q0 U vs w hk hm hql hqu hul huu hvl hV ht hcap huc hQ hR hne hY hn1 hn2 hhi;clear hql hul hvl hhi;by_cases hmm:m+2<80
 ·have h80I:(m:Int)+2<80:=by omega
  clear h80 hmm;go_enter Tryz.func197,Tryz.ntmps197;go_wp2_with fail;refine hd.mono ?_;rintro e w' ⟨Q,R,rfl,h1,h2,h3,h4⟩;go_wp2;go_end0;exact⟨Q,R,rfl,h1,h2,h3,h4⟩
 ·have h80I:¬(m:Int)+2<80:=by omega
  have h80J:(k:Int)<80:=by omega
  clear h80 hmm;go_enter Tryz.func197,Tryz.ntmps197;go_wp2_with fail;refine hd.mono ?_;rintro e w' ⟨Q,R,rfl,h1,h2,h3,h4⟩;go_wp2;go_end0;exact⟨Q,R,rfl,h1,h2,h3,h4⟩
def zZ(x y:Int)(n:Nat)(w:World)(e:Ending)(w':World):Prop:=
 ∃qa qn qs ra rn rc rs,e=.returned (.tuple #[.slice qa qn qn,.slice ra rn rc])/\QR w.heap.size w' qa qn qs ra rn rs x y n/\rn<=rc/\rc<=100000000/\Below w.heap.size w w'
theorem xx{a b:Nat}(h:pw a<pw b):a<b:=by
 rcases Ju a b with hc|hc
 ·exact hc
 ·have:=aW hc;omega
variable {w:World}
theorem Ib{a b c:World}(h1:Below w.heap.size w a)(h2:Below a.heap.size a b)(h3:Below b.heap.size b c):Below w.heap.size w c:=
 (h1.trans (h2.mono h1.size)).trans (h3.mono (JA h1.size h2.size))
structure SV(s k m n:Nat)(xs ys U V:List Int):Prop where
 ul:U.length=k+(m+2)
 vl:(V.take (m+2)).length=m+2
 vv:val (V.take (m+2))=2^s*val ys
 vt:gx (V.take (m+2)) (m+1)≠0
 hi:val (U.drop k)<val (V.take (m+2))
variable {k m n:Nat} {xs ys:List Int}
theorem Jo{s:Nat}{U V:List Int}(hs:s<=31)(hk:k+(m+2)=n+1)(hU:U32 U)(hV:U32 V)(hX:U32 xs)(hY:U32 ys)(hul:U.length=n+1)(hvl:V.length=m+2+1)(hyl:ys.length=m+2)(hxl:xs.length=n)(hyp:pw (m+1)<=val ys)
  (hu:val U=2^s*val xs) (hv:val V=2^s*val ys) (htop:gx ys (m+1)<2^(32-s)):SV s k m n xs ys U V:=by
 have hP:(0:Int)<2^s:=Int.pow_pos (by decide)
 have hD:(0:Int)<2^(32-s):=Int.pow_pos (by decide)
 have hpm:=bu (m+1);have hb:=ks (show s<=32 by omega)
 have hylt:val ys<pw (m+1)*2^(32-s):=by
  have e:val ys=val (ys.take (m+1))+pw (m+1)*gx ys (m+1):=by
   rw[<-aD ys (m+1) (by omega),Jv (by omega)]
  have h1:=bN (an hY (m+1));rw[List.length_take,Nat.min_eq_left (by omega)] at h1
  have h2:pw (m+1)*(gx ys (m+1)+1)<=pw (m+1)*2^(32-s):=Jx (by omega) (by omega)
  rw[JF,Int.mul_one] at h2
  omega
 have hVlt:val V<pw (m+2):=by
  rw[hv,bE,<-hb];have h3:2^s*val ys<2^s*(pw (m+1)*2^(32-s)):=Int.mul_lt_mul_of_pos_left hylt hP;have h4:(2:Int)^s*(pw (m+1)*2^(32-s))=2^s*2^(32-s)*pw (m+1):=by rw[JG,JI (pw (m+1))]
  omega
 obtain⟨t1,t2⟩:=kJ hV (by omega) hVlt
 have hvv:val (V.take (m+2))=2^s*val ys:=by rw[t1,hv]
 have hge:pw (m+1)<=2^s*val ys:=by
  have:1*val ys<=2^s*val ys:=Jy (by omega) (by omega)
  omega
 have hvl':(V.take (m+2)).length=m+2:=by simp;omega
 refine⟨by omega,hvl',hvv,?_,?_⟩
 ·intro h0
  have e:val (V.take (m+2))=val ((V.take (m+2)).take (m+1))+pw (m+1)*gx (V.take (m+2)) (m+1):=by
   rw[<-aD _ (m+1) (by omega),Jv (Nat.le_of_eq hvl')]
  have h1:=bN (an (an hV (m+2)) (m+1));rw[List.length_take,hvl',Nat.min_eq_left (by omega)] at h1
  rw[h0,JC,Int.add_zero] at e
  omega
 ·rw[hvv]
  have e:=da U k (by omega)
  have h1:=ar (an hU k);have h2:=bN hX;rw[hxl,show n=k+(m+1) by omega,fA] at h2
  have h3:2^s*val xs<2^s*(pw k*pw (m+1)):=Int.mul_lt_mul_of_pos_left h2 hP;have h4:(2:Int)^s*(pw k*pw (m+1))=pw k*(2^s*pw (m+1)):=JH ..;have h5:pw k*val (U.drop k)<pw k*(2^s*pw (m+1)):=by omega
  have h6:=Int.lt_of_mul_lt_mul_left h5 (Int.le_of_lt (bu k));have h7:2^s*pw (m+1)<=2^s*val ys:=Jx hyp (Int.le_of_lt hP);omega
variable {z:Int}
theorem F2{s:Nat}{r rem:Int}(h:2^s*r=2^s*z-rem)(h0:0<=rem)(h1:rem<2^s):r=z:=by
 have hP:(0:Int)<2^s:=Int.pow_pos (by decide)
 rcases Int.lt_trichotomy r z with hc|hc|hc
 ·have:2^s*(r+1)<=2^s*z:=Jx (by omega) (Int.le_of_lt hP)
  rw[JF,Int.mul_one] at this
  omega
 ·exact hc
 ·have:2^s*(z+1)<=2^s*r:=Jx (by omega) (Int.le_of_lt hP)
  rw[JF,Int.mul_one] at this
  omega
theorem vA(p q:Option Addr)(n nc m mc:Nat)(xs ys:List Int)(w:World)(hA:AI w p n nc xs)(hB:AI w q (m+2) mc ys)(hn:n<=100000)(h80:m+2<80\/n+1<80+(m+2))(ht:gx ys (m+1)≠0)(hle:val ys<=val xs):
  Calls Tryz.prog 165 #[.slice p n nc,.slice q (m+2) mc] w (zZ (val xs) (val ys) n w):=by
 have hic:¬bQ (val xs) (val ys)<0:=by
  rw[bQ,if_neg (by omega)];split<;>decide
 have hyl:=hB.len;have hxl:=hA.len;have hyt:ad ys=m+2:=aX ys (m+2) (ak ys (m+2) (by omega)) (.inr (by simpa using ht))
 have hyp:pw (m+1)<=val ys:=by
  have:=bV hB.u (by omega)
  rwa [hyt] at this
 have hnm:m+2<=n:=by
  have h1:=bN hA.u;rw[hxl] at h1
  have:=xx (show pw (m+1)<pw n by omega)
  omega
 have HY:Hid (ys.length=m+2/\xs.length=n/\pw (m+1)<=val ys):=⟨hyl,hxl,hyp⟩;have h1n:((m:Int)+2==1)=false:=beq_eq_false_iff_ne.2 (by omega)
 obtain⟨y0,y1⟩:=hB.u (m+1);have htp:0<gx ys (m+1):=by omega
 clear hyl hxl hyt hyp;go_enter Tryz.func165,Tryz.ntmps165;go_wp2_with fail;refine(ey p q n nc (m+2) mc xs ys _ hA.len hB.len hA.cap hA.bnd hB.cap hB.bnd hA.rd hA.u hB.rd hB.u).mono ?_;rintro e w1 ⟨rfl,hb1⟩;have hA1:=hA.below hb1;have hB1:=hB.below hb1;obtain⟨b,off,rfl,hcell⟩:=hB1.rd (by have:=HY.out;omega)
 have hc1:=hcell (m+1) (by have:=HY.out;omega)
 clear hcell;go_wp2_with fail;refine(Eb (gx ys (m+1)) _ htp y1).mono ?_;rintro e w1' ⟨s,rfl,hs,HS,rfl⟩;obtain⟨k,hk⟩:∃k,k+(m+2)=n+1:=⟨n-(m+1),by omega⟩
 have hmk:=jB k (by omega)
 have ec:((k:Nat):Int)=(n:Int)+1-((m:Int)+2):=by omega
 rw[ec] at hmk
 have HK:Hid (k+(m+2)=n+1):=hk;clear ec hk;have hsl:(m:Int)+2<=(m:Int)+2+1:=by omega
 have hnmI:(m:Int)+2<=(n:Int)+1:=by omega
 go_wp2_with fail;go_region_with (first
   |(go_at_call_of 196 (Value.slice p n nc);refine(qE p n nc s xs _ HY.out.2.1 (by omega) hs hA1.rd.drew hA.u).mono ?_;rintro e w2 ⟨U,rfl,u1,u2,u3,u4,hb2⟩;have HU:Hid (U.length=n+1):=u1;clear u1)
   |(go_at_call 196;refine(qE (some ⟨b,off,none⟩) (m+2) mc s ys _ HY.out.1 (by omega) hs (hB1.rd.drew.below hb2) hB.u).mono ?_;rintro e w3 ⟨V,rfl,v1,v2,v3,v4,hb3⟩;have HV:Hid (V.length=m+2+1):=v1;clear v1))
 go_wp2_with fail;have hW1:=aQ hb2;have hSV:=Jo hs HK.out u2 v2 hA.u hB.u HU.out HV.out HY.out.1 HY.out.2.1 HY.out.2.2 u3.out v3.out HS.out;have hUr:=u4.below hb3 u4.lt;have s1:=hW1.size;have s2:=hb3.size;have s3:=u4.lt;have s4:=v4.lt;have e1:w1.drew.heap.size=w1.heap.size:=rfl;rw[e1] at s3
 have hdv:=yj w3.heap.size w1.heap.size w2.heap.size 0 k m (m+2+1) (n+1) (au k) U (V.take (m+2)) (w3.alloc (.cells (ca .u32 (au k)) 97)) (by have:=HK.out;omega) (by omega) (by have:=HK.out;omega) (aZ k) (eR k) hSV.ul u2 hSV.vl (an v2 _) hSV.vt (by omega) (by have:=HK.out;omega) (Row.new w3 _ _ _) (hUr.alloc _) (by omega) ((v4.b5 (m+2)).alloc _) (by omega) (by omega) hSV.hi
 rw[HK.out] at hdv
 refine hdv.mono ?_;clear hdv;rintro e w4 ⟨Q,R,rfl,hDR,hrq,hrr,hgr⟩;have hb4:Below w.heap.size w (w3.alloc (.cells (ca .u32 (au k)) 97)):=(Ib hb1 hW1 hb3).alloc (by have:=hb1.size;omega) _
 have hb5:Below w.heap.size w w4:=hb4.trans (hgr.below (by have:=hb1.size;omega) hb1.size (by simp;have:=hb1.size;omega))
 have HE:Hid (SV s k m n xs ys U V/\DR U (V.take (m+2)) Q R k (m+2) 0/\Row w4 w3.heap.size 97 .u32 Q/\Row w4 w1.heap.size 97 .u32 R/\Below w.heap.size w w4/\w.heap.size<=w1.heap.size/\w1.heap.size<w3.heap.size/\val U=2^s*val xs):=⟨hSV,hDR,hrq,hrr,hb5,hb1.size,by omega,u3.out⟩
 have HV2:Hid (U32 V):=v2;clear hSV hDR hrq hrr hgr hb4 hb5 hUr u4 v4 hb2 hb3 hW1 s1 s2 s3 s4 e1 u2 v2 u3 v3 HU HV;go_wp2_with fail;obtain⟨hSV,hDR,hrq,hrr,hb5,f1,f2,hu⟩:=HE.out;have hRl:=hDR.rl;have hk:=HK.out;have hm0:mid R 0 (R.take (m+2))=R:=by
  have:=kq R 0 (m+2) (by omega)
  rwa [List.drop_zero] at this
 refine(vB w1.heap.size 0 (n+1) (m+2) s R (R.take (m+2)) w4 (by omega) (by omega) (by omega) hs (by simp;omega) (by rw[hm0];exact hrr) (an hDR.ru _)).mono ?_
 rintro e w5 ⟨R',rfl,r1,r2,r3,r4,r5⟩;have HF:Hid (R'.length=m+2/\U32 R'/\2^s*val R'=val (R.take (m+2))-gx (R.take (m+2)) 0%2^s/\Row w5 w1.heap.size 97 .u32 (mid R 0 R')/\Row w5 w3.heap.size 97 .u32 Q/\Below w.heap.size w w5):=
  ⟨r1,r2,r3,r4,hrq.kept r5 (fun e=>by have:=Option.some.inj e;omega),cQ hb5 r5 hb5.size f1⟩
 clear hSV hDR hrq hrr hb5 f1 f2 hu hRl hk hm0 r1 r2 r3 r4 r5;go_wp2;go_ret2;obtain⟨hSV,hDR,hrq,hrr,hb5,f1,f2,hu⟩:=HE.out;obtain⟨r1,r2,r3,r4,r5,r6⟩:=HF.out;have hk:=HK.out;have hRl:=hDR.rl;have hP:(0:Int)<2^s:=Int.pow_pos (by decide)
 have hhi:=hDR.hi;rw[List.drop_zero] at hhi
 have hvlt:=bN (an (xs:=V) (by exact HV2.out) (m+2))
 rw[hSV.vl] at hvlt
 obtain⟨t1,t2⟩:=kJ hDR.ru (by omega) (show val R<pw (m+2) by omega)
 have heq:=hDR.eq;rw[iZ,Int.one_mul,List.drop_zero,hSV.vv,hu] at heq
 have hz:val R=2^s*(val xs-val Q*val ys):=by
  rw[Int.mul_sub];have:val Q*(2^s*val ys)=2^s*(val Q*val ys):=JH ..;omega
 rw[t1,hz] at r3
 have hback:=F2 r3 (Int.emod_nonneg _ (by omega)) (JK _ hP)
 have hzlt:val xs-val Q*val ys<val ys:=by
  rw[hz,hSV.vv] at hhi
  exact Int.lt_of_mul_lt_mul_left hhi (Int.le_of_lt hP)
 have hpart:=wU R R' 0 (by omega)
 have hrd:=r4.rd 0 (m+2) (by rw[b6 _ _ _ (by omega)];omega)
 rw[<-r1,hpart] at hrd
 refine⟨some ⟨w3.heap.size,0,none⟩,k,Q,some ⟨w1.heap.size,0,none⟩,m+2,n+1,R',rfl,⟨hDR.ql,r5.a8,hDR.qu,aY (by omega),r1,hrd,r2,aY f1,by rw[hback];omega,by rw[hback];exact hzlt,by omega,by omega,⟨w1.heap.size,mid R 0 R',rfl,r4,by have:=hpart;rw[List.drop_zero,r1] at this;exact this,aO (aO (an hDR.ru _) r2) (cd hDR.ru _)⟩,r5.fz 0,r4.fz 0⟩,by omega,by omega,r6⟩
theorem FX(s t:Bool)(p q:Option Addr)(n nc m mc:Nat)(xs ys:List Int)(w:World)(hA:AI w p n nc xs)(hB:AI w q m mc ys)(h0:val ys≠0)
  (hQ:∀W,AI W p (ad xs) nc (tr xs)->AI W q (ad ys) mc (tr ys)->Calls Tryz.prog 165 #[.slice p (ad xs) nc,.slice q (ad ys) mc] W (zZ (val (tr xs)) (val (tr ys)) (ad xs) W)):
  Calls Tryz.prog 122 #[.agg #[.bool s,.slice p n nc],.agg #[.bool t,.slice q m mc]] w (yQ w (aq s xs) (aq t ys) n m):=by
 have tx:=aj xs;have ty:=aj ys;have lx:=hA.len;have ly:=hB.len;have bx:=hA.sml;have by':=hB.sml;have ht:ad ys≠0:=fun e=>h0 ((bF hB.u).1 e)
 have ht':(((ad ys:Nat):Int)==0)=false:=beq_eq_false_iff_ne.2 (by omega)
 go_enter Tryz.func122,Tryz.ntmps122;go_wp2;go_quiet (first
  |(go_at_call_of 78 (Value.slice p n nc);exact Calls.quiet_of_same (dH (aS p n nc xs _ hA.len hA.cap hA.bnd ((((hA.rd.alloc _).alloc _).alloc _).alloc _))))
  |(go_at_call_of 78 (Value.slice q m mc);exact Calls.quiet_of_same (dH (aS q m mc ys _ hB.len hB.cap hB.bnd ((((hB.rd.alloc _).alloc _).alloc _).alloc _)))))
 go_wp2_with fail;have hX0:=Ic w (.bool s) (.slice p n nc) (.bool t) (.slice q m mc) 50 nq;generalize (((((w.alloc (Obj.cells #[Value.bool s,Value.slice p n nc] 50)).alloc (Obj.cells #[Value.bool t,Value.slice q m mc] 50)).alloc (Obj.cells #[Value.bool false,Value.slice none 0 0] 50)).alloc (Obj.cells #[Value.bool false,Value.slice none 0 0] 50)).drewN nq)=W0 at *
 refine(hQ W0 (hA.below hX0.below).tr (hB.below hX0.below).tr).mono ?_;rintro e W ⟨qa,qn,qs,ra,rn,rc,rs,rfl,hq,hrc,hrc2,hb0⟩;have hX:=hX0.later hb0;have hsz0:=hX0.size;have hq':=hq;have hB':=hB.below hX.below;have qb:=hq.qb;have rb:=hq.rb;have k0:=hX.ca0;have k1:=hX.ca1;have k2:=hX.cb0;have k3:=hX.cb1;have q1:=hq.eq;have q2:=hq.lt;rw[aK,aK] at q1
 rw[aK] at q2
 have HQ:Hid (val qs*val ys+val rs=val xs):=q1;clear q1 hQ;have hcase:(s=true/\ad rs≠0)\/(s=false\/val rs=0):=by
  cases s
  ·exact .inr (.inl rfl)
  ·by_cases h:ad rs=0
   ·exact .inr (.inr ((bF hq.ru).1 h))
   ·exact .inl ⟨rfl,h⟩
 rcases hcase with ⟨rfl,hr⟩|hr
 ·have hr':0<((ad rs:Nat):Int):=by omega
  have hrp:0<val rs:=by
   have:=ar hq.ru;have h2:val rs≠0:=fun e=>hr ((bF hq.ru).2 e)
   omega
  go_wp2_with fail;refine(aS ra rn rc rs _ hq.rl hrc (by unfold maxLen;omega) hq.rrd).mono ?_
  rintro e w' ⟨rfl,rfl⟩;go_wp2_with fail;refine(zQ qa (some ⟨W.heap.size,0,none⟩) qn qn 1 1 qs [1] _ hq.ql rfl (by omega) (by decide) (hq.qrd.alloc _) hq.qu (Row.new W 97 .u32 [1]).a8 (ef (by decide))).mono ?_
  rintro e w2 ⟨M,zs,rfl,m1,m2,m3,s1,s2,s3,s4,hb2⟩;have hX2:=hX.later (((Jt _ _).alloc (Jr _) (.cells (ca .u32 [1]) 97)).trans (hb2.mono (by simp)))
  have hrr:=hq.rrd.below (((Jt _ _).alloc (Jr _) (.cells (ca .u32 [1]) 97)).trans (hb2.mono (by simp)))
  have hBt:=(hB.below hX2.below).tr;clear k0 k1 k2 k3;have k0:=hX2.ca0;have k1:=hX2.ca1;have k2:=hX2.cb0;have k3:=hX2.cb1;go_wp2_with fail;refine(iN q ra (ad ys) mc rn rc (tr ys) rs _ (af ys) hq.rl hrc (by unfold maxLen;omega) (by omega) hBt.rd hBt.u hrr hq.ru (by rw[aK];omega)).mono ?_
  rintro e w5 ⟨ds,rfl,d1,d2,d3,d4,hb5⟩;have hX5:=hX2.later hb5;rw[aK] at d3
  rw[val_one] at s3
  clear k0 k1 k2 k3;have k0:=hX5.ca0;have k1:=hX5.ca1;have k2:=hX5.cb0;have k3:=hX5.cb1;have hsW:=hb0.size;have hsW2:=hb2.size;rw[Js] at hsW2
  have s4':=s4.below hb5 s4.lt;rw[Js] at s4'
  go_wp2_with fail;refine(b7 (!t) (some ⟨W.heap.size+1,0,none⟩) (M) (M) (zs) _ (s1) (Jr _) (by unfold maxLen;omega) (s4'.a8)).mono ?_
  rintro e w3 ⟨rfl,hb3⟩;have hX3:=hX5.later hb3;clear k0 k1 k2 k3;have k0:=hX3.ca0;have k1:=hX3.ca1;have k2:=hX3.cb0;have k3:=hX3.cb1;go_wp2_with fail;refine(b7 false (some ⟨w2.heap.size,0,none⟩) (ad ys) (ad ys) (ds) _ (d1) (Jr _) (by unfold maxLen;omega) ((d4.a8).below hb3)).mono ?_
  rintro e w4 ⟨rfl,hb4⟩;have hX4:=hX3.later hb4;have z0:=hX4.cr0;have z1:=hX4.cr1;have z2:=hX4.cs0;have z3:=hX4.cs1;have z4:=hX4.fr0;have z5:=hX4.fr1;have z6:=hX4.fs0;have z7:=hX4.fs1;have n1:=((((((dn (B:=W0.heap.size) (!t) (s4'.a8) (s2) (aY (by omega)) (s4'.fz 0)).below hb3).below hb4).set (a:=⟨w.heap.size+1+1,0,none⟩) (by simp;omega) (.bool (nsg (!t) (zs)))).set (a:=⟨w.heap.size+1+1,1,none⟩) (by simp;omega) (.slice (nad (some ⟨W.heap.size+1,0,none⟩) (zs)) (ad (zs)) (ad (zs)))).set (a:=⟨w.heap.size+1+1+1,0,none⟩) (by simp;omega) (.bool (nsg false (ds)))).set (a:=⟨w.heap.size+1+1+1,1,none⟩) (by simp;omega) (.slice (nad (some ⟨w2.heap.size,0,none⟩) (ds)) (ad (ds)) (ad (ds)))
  have n2:=(((((dn (B:=W0.heap.size) false ((d4.a8).below hb3) (d2) (aY (by omega)) ((d4.fz 0).below hb3)).below hb4).set (a:=⟨w.heap.size+1+1,0,none⟩) (by simp;omega) (.bool (nsg (!t) (zs)))).set (a:=⟨w.heap.size+1+1,1,none⟩) (by simp;omega) (.slice (nad (some ⟨W.heap.size+1,0,none⟩) (zs)) (ad (zs)) (ad (zs)))).set (a:=⟨w.heap.size+1+1+1,0,none⟩) (by simp;omega) (.bool (nsg false (ds)))).set (a:=⟨w.heap.size+1+1+1,1,none⟩) (by simp;omega) (.slice (nad (some ⟨w2.heap.size,0,none⟩) (ds)) (ad (ds)) (ad (ds)))
  have tq:=aj (zs);have tr':=aj (ds);have lq:=s1;have lr:=d1;go_wp2;refine bodyPost_ret (v:=.tuple #[.agg #[.bool (nsg (!t) (zs)),.slice (nad (some ⟨W.heap.size+1,0,none⟩) (zs)) (ad (zs)) (ad (zs))],.agg #[.bool (nsg false (ds)),.slice (nad (some ⟨w2.heap.size,0,none⟩) (ds)) (ad (ds)) (ad (ds))],.int .i64 0]) (by simp[results,Tryz.results122,go_sem,z0,z1,z2,z3]) rfl ?_
  refine⟨_,_,_,tr (zs),_,_,_,tr (ds),_,_,rfl,n1.mono (by omega),n2.mono (by omega),CG t xs ys qs rs zs ds HQ.out s3 d3,?_,?_,by omega,by omega,?_⟩
  ·exact ar (d2)
  ·rw[qJ t hB.u];show val (ds)<_;omega
  ·exact(((hX4.below.setCell (by simp;omega) _).setCell (by simp;omega) _).setCell (by simp;omega) _).setCell (by simp;omega) _
 ·cases s
  ·go_wp2_with fail
   refine(b7 t (qa) (qn) (qn) (qs) _ (hq.ql) (Jr _) (by unfold maxLen;omega) (hq.qrd)).mono ?_
   rintro e w3 ⟨rfl,hb3⟩;have hX3:=hX.later hb3;clear k0 k1 k2 k3;have k0:=hX3.ca0;have k1:=hX3.ca1;have k2:=hX3.cb0;have k3:=hX3.cb1;go_wp2_with fail;refine(b7 false (ra) (rn) (rc) (rs) _ (hq.rl) hrc (by unfold maxLen;omega) ((hq.rrd).below hb3)).mono ?_
   rintro e w4 ⟨rfl,hb4⟩;have hX4:=hX3.later hb4;have z0:=hX4.cr0;have z1:=hX4.cr1;have z2:=hX4.cs0;have z3:=hX4.cs1;have z4:=hX4.fr0;have z5:=hX4.fr1;have z6:=hX4.fs0;have z7:=hX4.fs1;have n1:=((((((dn (B:=W0.heap.size) t (hq.qrd) (hq.qu) (hq.qf) (hq.qz)).below hb3).below hb4).set (a:=⟨w.heap.size+1+1,0,none⟩) (by simp;omega) (.bool (nsg t (qs)))).set (a:=⟨w.heap.size+1+1,1,none⟩) (by simp;omega) (.slice (nad (qa) (qs)) (ad (qs)) (ad (qs)))).set (a:=⟨w.heap.size+1+1+1,0,none⟩) (by simp;omega) (.bool (nsg false (rs)))).set (a:=⟨w.heap.size+1+1+1,1,none⟩) (by simp;omega) (.slice (nad (ra) (rs)) (ad (rs)) (ad (rs)))
   have n2:=(((((dn (B:=W0.heap.size) false ((hq.rrd).below hb3) (hq.ru) (hq.rf) (hq.rz.below hb3)).below hb4).set (a:=⟨w.heap.size+1+1,0,none⟩) (by simp;omega) (.bool (nsg t (qs)))).set (a:=⟨w.heap.size+1+1,1,none⟩) (by simp;omega) (.slice (nad (qa) (qs)) (ad (qs)) (ad (qs)))).set (a:=⟨w.heap.size+1+1+1,0,none⟩) (by simp;omega) (.bool (nsg false (rs)))).set (a:=⟨w.heap.size+1+1+1,1,none⟩) (by simp;omega) (.slice (nad (ra) (rs)) (ad (rs)) (ad (rs)))
   have tq:=aj (qs);have tr':=aj (rs);have lq:=hq.ql;have lr:=hq.rl;go_wp2;refine bodyPost_ret (v:=.tuple #[.agg #[.bool (nsg t (qs)),.slice (nad (qa) (qs)) (ad (qs)) (ad (qs))],.agg #[.bool (nsg false (rs)),.slice (nad (ra) (rs)) (ad (rs)) (ad (rs))],.int .i64 0]) (by simp[results,Tryz.results122,go_sem,z0,z1,z2,z3]) rfl ?_
   refine⟨_,_,_,tr (qs),_,_,_,tr (rs),_,_,rfl,n1.mono (by omega),n2.mono (by omega),AN t xs ys qs rs HQ.out,?_,?_,by omega,by omega,?_⟩
   ·exact ar (hq.ru)
   ·rw[qJ t hB.u];show val (rs)<_;omega
   ·exact(((hX4.below.setCell (by simp;omega) _).setCell (by simp;omega) _).setCell (by simp;omega) _).setCell (by simp;omega) _
  ·have hr0:val rs=0:=by rcases hr with h|h;cases h;exact h
   have htr:ad rs=0:=(bF hq.ru).2 hr0;have HR:Hid (ad rs=0/\val rs=0):=⟨htr,hr0⟩;have hn0:¬0<((ad rs:Nat):Int):=by omega
   clear htr hr0 hr;go_wp2_with fail;refine(aS ra rn rc rs _ hq.rl hrc (by unfold maxLen;omega) hq.rrd).mono ?_
   rintro e w' ⟨rfl,rfl⟩;go_wp2_with fail;refine(b7 (!t) (qa) (qn) (qn) (qs) _ (hq.ql) (Jr _) (by unfold maxLen;omega) (hq.qrd)).mono ?_
   rintro e w3 ⟨rfl,hb3⟩;have hX3:=hX.later hb3;clear k0 k1 k2 k3;have k0:=hX3.ca0;have k1:=hX3.ca1;have k2:=hX3.cb0;have k3:=hX3.cb1;go_wp2_with fail;refine(b7 false (ra) (rn) (rc) (rs) _ (hq.rl) hrc (by unfold maxLen;omega) ((hq.rrd).below hb3)).mono ?_
   rintro e w4 ⟨rfl,hb4⟩;have hX4:=hX3.later hb4;have z0:=hX4.cr0;have z1:=hX4.cr1;have z2:=hX4.cs0;have z3:=hX4.cs1;have z4:=hX4.fr0;have z5:=hX4.fr1;have z6:=hX4.fs0;have z7:=hX4.fs1;have n1:=((((((dn (B:=W0.heap.size) (!t) (hq.qrd) (hq.qu) (hq.qf) (hq.qz)).below hb3).below hb4).set (a:=⟨w.heap.size+1+1,0,none⟩) (by simp;omega) (.bool (nsg (!t) (qs)))).set (a:=⟨w.heap.size+1+1,1,none⟩) (by simp;omega) (.slice (nad (qa) (qs)) (ad (qs)) (ad (qs)))).set (a:=⟨w.heap.size+1+1+1,0,none⟩) (by simp;omega) (.bool (nsg false (rs)))).set (a:=⟨w.heap.size+1+1+1,1,none⟩) (by simp;omega) (.slice (nad (ra) (rs)) (ad (rs)) (ad (rs)))
   have n2:=(((((dn (B:=W0.heap.size) false ((hq.rrd).below hb3) (hq.ru) (hq.rf) (hq.rz.below hb3)).below hb4).set (a:=⟨w.heap.size+1+1,0,none⟩) (by simp;omega) (.bool (nsg (!t) (qs)))).set (a:=⟨w.heap.size+1+1,1,none⟩) (by simp;omega) (.slice (nad (qa) (qs)) (ad (qs)) (ad (qs)))).set (a:=⟨w.heap.size+1+1+1,0,none⟩) (by simp;omega) (.bool (nsg false (rs)))).set (a:=⟨w.heap.size+1+1+1,1,none⟩) (by simp;omega) (.slice (nad (ra) (rs)) (ad (rs)) (ad (rs)))
   have tq:=aj (qs);have tr':=aj (rs);have lq:=hq.ql;have lr:=hq.rl;go_wp2;refine bodyPost_ret (v:=.tuple #[.agg #[.bool (nsg (!t) (qs)),.slice (nad (qa) (qs)) (ad (qs)) (ad (qs))],.agg #[.bool (nsg false (rs)),.slice (nad (ra) (rs)) (ad (rs)) (ad (rs))],.int .i64 0]) (by simp[results,Tryz.results122,go_sem,z0,z1,z2,z3]) rfl ?_
   refine⟨_,_,_,tr (qs),_,_,_,tr (rs),_,_,rfl,n1.mono (by omega),n2.mono (by omega),AO t xs ys qs rs HQ.out HR.out.2,?_,?_,by omega,by omega,?_⟩
   ·exact ar (hq.ru)
   ·rw[qJ t hB.u];show val (rs)<_;omega
   ·exact(((hX4.below.setCell (by simp;omega) _).setCell (by simp;omega) _).setCell (by simp;omega) _).setCell (by simp;omega) _
theorem kz(p q:Option Addr)(n nc m mc:Nat)(xs ys:List Int)(w:World)(hA:AI w p n nc xs)(hB:AI w q m mc ys)(hn:n<=100000)(h80:m<80\/n+1<80+m)(ht:ad ys=m)(h0:0<m):
  Calls Tryz.prog 165 #[.slice p n nc,.slice q m mc] w (zZ (val xs) (val ys) n w):=by
 rcases Int.lt_or_le (val xs) (val ys) with hlt|hle
 ·refine(yA p q n nc m mc xs ys w hA hB hlt).mono ?_
  rintro e w' ⟨qa,qn,qs,ra,rn,rs,rfl,h1,h2⟩;exact⟨qa,qn,qs,ra,rn,rn,rs,rfl,h1,Jr _,by have:=h1.rb;omega,h2⟩
 ·rcases(show m=1\/2<=m by omega) with h|h
  ·subst h
   have htr:=IZ hB.u ht;have hyl:=hB.len;have hy:ys=[val ys]:=by
    rw[<-htr,tr,ht,Jv (by omega)]
   have hpos:0<val ys:=by
    have h1:=bV hB.u (by omega)
    rw[ht] at h1
    have:=bu (1-1);omega
   have hB':=hB;rw[hy] at hB'
   refine(xB p q n nc mc xs (val ys) w hA hB' hpos hle).mono ?_;rintro e w' ⟨qa,qn,qs,ra,rn,rs,rfl,h1,h2⟩;rw[<-hy] at h1
   exact⟨qa,qn,qs,ra,rn,rn,rs,rfl,h1,Jr _,by have:=h1.rb;omega,h2⟩
  ·obtain⟨j,rfl⟩:∃j,m=j+2:=⟨m-2,by omega⟩
   refine vA p q n nc j mc xs ys w hA hB hn h80 ?_ hle;have h1:=aw ys (by omega)
   rw[ht] at h1
   simpa using h1
theorem FY(s t:Bool)(p q:Option Addr)(n nc m mc:Nat)(xs ys:List Int)(w:World)(hA:AI w p n nc xs)(hB:AI w q m mc ys)(h80:n<159)(h0:val ys≠0):
  Calls Tryz.prog 122 #[.agg #[.bool s,.slice p n nc],.agg #[.bool t,.slice q m mc]] w (yQ w (aq s xs) (aq t ys) n m):=by
 refine FX s t p q n nc m mc xs ys w hA hB h0 (fun W hx hy=>kz p q (ad xs) nc (ad ys) mc (tr xs) (tr ys) W hx hy (by have:=aj xs;have:=hA.len;omega) (by have:=aj xs;have:=hA.len;omega) (aM ys) ?_)
 rcases Jw (ad ys) with h|h
 ·exact absurd ((bF hB.u).1 h) h0
 ·exact h
end Go.Proofs.YtdjjlghlcffflaaGreatDoor
