/- Own. -/
import Derived.Test.YtfnkomoickanfaaGreatDoorZd
import Derived.Deep.Slices
set_option linter.unusedVariables false
set_option linter.unusedSimpArgs false
set_option maxHeartbeats 8000000
set_option maxRecDepth 100000
namespace Go.Proofs.YtfnkomoickanfaaGreatDoor
open Go.RowKit
theorem fT{a b:Int}{i j:Nat}(h:(a.natAbs:Int)<pw i)(k:(b.natAbs:Int)<pw j):((a*b).natAbs:Int)<pw (i+j):=by
 rw[Int.natAbs_mul,gI]
 push_cast
 have h1:=aU i
 have h2:=aU j
 have h3:(a.natAbs:Int)*(b.natAbs:Int)≤(a.natAbs:Int)*pw j:=Int.mul_le_mul_of_nonneg_left (by omega) (by omega)
 have h4:(a.natAbs:Int)*pw j<pw i*pw j:=Int.mul_lt_mul_of_pos_right h h2
 omega
theorem oB{a b:Int}{K:Nat}(ha:(a.natAbs:Int)<pw K)(hb:(b.natAbs:Int)<pw K)(hK:1≤K):((Rat.divInt a b).num.natAbs:Int)<pw K∧(((Rat.divInt a b).den:Int).natAbs:Int)<pw K:=by
 have h1:=xi a b
 refine⟨by omega,?_⟩
 by_cases h:b=0
 ·subst h
  rw[Rat.divInt_zero]
  have h2:=bD hK
  have h3:pw 1=4294967296:=by decide
  show((1:Nat):Int)<_
  omega
 ·have h2:=xh a b h
  omega
theorem DI{z x y:Int}{k:Nat}(h:z.natAbs≤x.natAbs+y.natAbs)(hx:(x.natAbs:Int)<pw k)(hy:(y.natAbs:Int)<pw k):(z.natAbs:Int)<pw (k+1):=by
 rw[aP]
 have:=aU k
 omega
theorem gU{w1 w2:World}{a b c d e f g h:Addr}{u v x y z t r s:Value}(k:w1.cell? a=some u∧w1.cell? b=some v∧w1.cell? c=some x∧w1.cell? d=some y∧w1.cell? e=some z∧w1.cell? f=some t∧w1.cell? g=some r∧w1.cell? h=some s)(hb:Below w1.heap.size w1 w2):
  w2.cell? a=some u∧w2.cell? b=some v∧w2.cell? c=some x∧w2.cell? d=some y∧w2.cell? e=some z∧w2.cell? f=some t∧w2.cell? g=some r∧w2.cell? h=some s:=
 ⟨cell_later hb k.1,cell_later hb k.2.1,cell_later hb k.2.2.1,cell_later hb k.2.2.2.1,cell_later hb k.2.2.2.2.1,cell_later hb k.2.2.2.2.2.1,cell_later hb k.2.2.2.2.2.2.1,cell_later hb k.2.2.2.2.2.2.2⟩
def AQ(w:World)(K:Nat)(s:Bool)(p:Option Addr)(n nc:Nat)(t:Bool)(q:Option Addr)(m mc:Nat)(r:Rat):Prop:=
 ∃xs ys,AI w p n nc xs∧AI w q m mc ys∧n≤K∧m≤K∧Rat.divInt (ak s xs) (ak t ys)=r
def NQ(B:Nat)(w:World)(K:Nat)(s:Bool)(p:Option Addr)(n:Nat)(t:Bool)(q:Option Addr)(m:Nat)(r:Rat):Prop:=
 ∃xs ys,NR B w s p n xs t q m ys r∧n≤K∧m≤K
def QP(r:Rat)(K:Nat)(w:World)(e:Ending)(w':World):Prop:=
 ∃s p n t q m,e=.returned (.agg #[.bool s,.slice p n n,.bool t,.slice q m m])∧NQ w.heap.size w' K s p n t q m r∧Below w.heap.size w w'
def Sz(r:Rat)(K:Nat):Prop:=(r.num.natAbs:Int)<pw K∧((r.den:Int).natAbs:Int)<pw K
theorem Sz.up{r:Rat}{K L:Nat}(h:Sz r K)(k:K≤L):Sz r L:=by
 have:=bD k
 exact⟨by have:=h.1;omega,by have:=h.2;omega⟩
section
variable {w w':World} {K Ka Kb:Nat} {s t sa ta sb tb:Bool} {p q pa qa pb qb:Option Addr} {n nc m mc na nac ma mac nb nbc mb mbc:Nat} {r ra rb:Rat} {B:Nat}
theorem AQ.below(h:AQ w K s p n nc t q m mc r)(hb:Below w.heap.size w w'):AQ w' K s p n nc t q m mc r:=by
 obtain⟨xs,ys,h1,h2,h3⟩:=h
 exact⟨xs,ys,h1.below hb,h2.below hb,h3⟩
theorem NQ.aq(h:NQ B w K s p n t q m r)(hK:K≤1000):AQ w K s p n n t q m m r:=by
 obtain⟨xs,ys,h1,h2,h3⟩:=h
 exact⟨xs,ys,h1.num.ai (by omega),h1.den.ai (by omega),h2,h3,by rw[h1.num.v,h1.den.v,Rat.num_divInt_den]⟩
theorem AQ.sz(h:AQ w K s p n nc t q m mc r)(hK:1≤K):Sz r K:=by
 obtain⟨xs,ys,h1,h2,h3,h4,rfl⟩:=h
 refine oB ?_ ?_ hK
 ·have:=h1.lt s;have:=bD h3;omega
 ·have:=h2.lt t;have:=bD h4;omega
theorem DY{xs ys:List Int}(h:NR B w s p n xs t q m ys r)(hs:Sz r K):NQ B w K s p n t q m r:=⟨xs,ys,h,h.num.le hs.1,h.den.le hs.2⟩
theorem Df(ha:Sz ra Ka)(hb:Sz rb Kb)(hK:1≤Ka):Sz (ra*rb) (Ka+Kb):=by
 have e:ra*rb=Rat.divInt (ra.num*rb.num) (ra.den*rb.den):=by
  have:=Rat.divInt_mul_divInt ra.num rb.num (d₁:=ra.den) (d₂:=rb.den)
  rwa [Rat.num_divInt_den,Rat.num_divInt_den] at this
 rw[e]
 exact oB (fT ha.1 hb.1) (fT ha.2 hb.2) (by omega)
theorem CY(ha:Sz ra Ka)(hb:Sz rb Kb):Sz (ra+rb) (Ka+Kb+1):=by
 have e:ra+rb=Rat.divInt (ra.num*rb.den+rb.num*ra.den) (ra.den*rb.den):=by
  have:=Rat.divInt_add_divInt ra.num rb.num (d₁:=ra.den) (d₂:=rb.den) (by have:=ra.den_nz;omega) (by have:=rb.den_nz;omega)
  rwa [Rat.num_divInt_den,Rat.num_divInt_den] at this
 rw[e]
 have h2:=fT hb.1 ha.2
 rw[Nat.add_comm] at h2
 refine oB (DI (by omega) (fT ha.1 hb.2) h2) ?_ (by omega)
 have h3:=fT ha.2 hb.2
 have h4:=bD (show Ka+Kb≤Ka+Kb+1 by omega)
 omega
theorem Dg(ha:Sz ra Ka):Sz (-ra) Ka:=by
 have h1:=ha.1
 have h2:=ha.2
 refine⟨?_,?_⟩
 ·rw[Rat.neg_num];omega
 ·rw[Rat.neg_den];exact h2
theorem Dw(ha:Sz ra Ka)(hb:Sz rb Kb)(hK:1≤Ka):Sz (ra/rb) (Ka+Kb):=by
 have e:ra/rb=Rat.divInt (ra.num*rb.den) (ra.den*rb.num):=by
  rcases Classical.em (rb=0) with h|h
  ·subst h
   rw[Rat.div_def,Rat.inv_zero,Rat.mul_zero]
   simp
  ·have:=Rat.divInt_mul_divInt ra.num (rb.den:Int) (d₁:=ra.den) (d₂:=rb.num)
   rw[←this,Rat.num_divInt_den,Rat.div_def]
   congr 1
   rw[←Rat.inv_divInt,Rat.num_divInt_den]
 rw[e]
 exact oB (fT ha.1 hb.2) (fT ha.2 hb.1) (by omega)
theorem QP.of{K:Nat}{e:Ending}(h:nP r w e w')(hs:Sz r K):QP r K w e w':=by
 obtain⟨s,p,n,xs,t,q,m,ys,h1,h2,h3⟩:=h
 exact⟨s,p,n,t,q,m,h1,DY h2 hs,h3⟩
theorem Cf(ha:AQ w K s p n nc t q m mc r)(hK:1≤K)(hK':K<150):
  Calls Tryz.prog 28 #[.agg #[.bool s,.slice p n nc,.bool t,.slice q m mc]] w (QP r K w):=by
 have hs:=ha.sz hK
 obtain⟨xs,ys,h1,h2,h3,h4,rfl⟩:=ha
 exact(zF s t p q n nc m mc xs ys w h1 h2 (by omega) (by omega)).mono fun e w' h=>QP.of h hs
end
structure MQ(w:World)(K:Nat)(s:Bool)(p:Option Addr)(n:Nat)(t:Bool)(q:Option Addr)(m:Nat)(r:Rat):Prop where
 num:RV w (2*K) r.num s p n
 den:RV w (2*K) (r.den:Int) t q m
def MP(r:Rat)(K:Nat)(w:World)(e:Ending)(w':World):Prop:=
 ∃s p n t q m,e=.returned (.agg #[.bool s,.slice p n n,.bool t,.slice q m m])∧MQ w' K s p n t q m r∧az w.heap.size p∧az w.heap.size q∧Below w.heap.size w w'
section
variable {w w':World} {N M K:Nat} {z x y:Int} {s t:Bool} {p q:Option Addr} {n m:Nat} {r:Rat}
theorem RV.bq(h:RV w N z s p n){g:Nat}(hg:0<n→Off g p)(u v x y:Value):RV ((((w.setCell ⟨g,0,none⟩ u).setCell ⟨g,1,none⟩ v).setCell ⟨g,2,none⟩ x).setCell ⟨g,3,none⟩ y) N z s p n:=by
 obtain⟨ds,h1,h2⟩:=h
 exact⟨ds,h1.bq hg _ _ _ _,h2⟩
theorem MQ.below(h:MQ w K s p n t q m r)(hb:Below w.heap.size w w'):MQ w' K s p n t q m r:=⟨h.num.below hb,h.den.below hb⟩
theorem MQ.sz(h:MQ w K s p n t q m r):Sz r K:=by
 have a:=h.num.bd
 have b:=h.den.bd
 rw[sN] at a b
 exact⟨a,b⟩
theorem nL(h:RV w N x s p n)(k:RV w M y t q m)(hN:N≤1000)(hM:M≤1000)(hs:Sz (Rat.divInt x y) K):
  Calls Tryz.prog 49 #[.agg #[.bool s,.slice p n n],.agg #[.bool t,.slice q m m]] w (MP (Rat.divInt x y) K w):=by
 obtain⟨ds,h1,rfl,h3⟩:=h
 obtain⟨es,k1,rfl,k3⟩:=k
 refine(zC s t p q n m ds es w h1 k1 (by omega) (by omega)).mono ?_
 rintro e w' ⟨s',p',n',ds',t',q',m',es',g1,g2,g3,g4,g5⟩
 have a:RV w' n' (Rat.divInt (ag s ds) (ag t es)).num s' p' n':=⟨ds',g2.num,g2.nv,Nat.le_refl _⟩
 have b:RV w' m' ((Rat.divInt (ag s ds) (ag t es)).den:Int) t' q' m':=⟨es',g2.den,g2.dv,Nat.le_refl _⟩
 exact⟨s',p',n',t',q',m',g1,⟨a.tight hs.1,b.tight hs.2⟩,g3,g4,g5⟩
end
theorem aX{w:World}{b g o:Nat}{c u v x y:Value}(h:w.cell? ⟨b,o,none⟩=some c)(hne:Hid (b≠g)):((((w.setCell ⟨g,0,none⟩ u).setCell ⟨g,1,none⟩ v).setCell ⟨g,2,none⟩ x).setCell ⟨g,3,none⟩ y).cell? ⟨b,o,none⟩=some c:=by
 have e:((((w.setCell ⟨g,0,none⟩ u).setCell ⟨g,1,none⟩ v).setCell ⟨g,2,none⟩ x).setCell ⟨g,3,none⟩ y).heap[b]?=w.heap[b]?:=by
  rw[heap_setCell_other _ _ b y hne.out,heap_setCell_other _ _ b x hne.out,heap_setCell_other _ _ b v hne.out,heap_setCell_other _ _ b u hne.out]
 exact(World.cell?_of_block (a:=⟨b,o,none⟩) e).trans h
theorem sB{w1 w2:World}{a g:Nat}{a0 a1 a2 a3 u v x y:Value}(k:w1.cell? ⟨a,0,none⟩=some a0∧w1.cell? ⟨a,1,none⟩=some a1∧w1.cell? ⟨a,2,none⟩=some a2∧w1.cell? ⟨a,3,none⟩=some a3)(hb:Below w1.heap.size w1 w2)(na:Hid (a≠g)):
  ((((w2.setCell ⟨g,0,none⟩ u).setCell ⟨g,1,none⟩ v).setCell ⟨g,2,none⟩ x).setCell ⟨g,3,none⟩ y).cell? ⟨a,0,none⟩=some a0∧((((w2.setCell ⟨g,0,none⟩ u).setCell ⟨g,1,none⟩ v).setCell ⟨g,2,none⟩ x).setCell ⟨g,3,none⟩ y).cell? ⟨a,1,none⟩=some a1∧((((w2.setCell ⟨g,0,none⟩ u).setCell ⟨g,1,none⟩ v).setCell ⟨g,2,none⟩ x).setCell ⟨g,3,none⟩ y).cell? ⟨a,2,none⟩=some a2∧((((w2.setCell ⟨g,0,none⟩ u).setCell ⟨g,1,none⟩ v).setCell ⟨g,2,none⟩ x).setCell ⟨g,3,none⟩ y).cell? ⟨a,3,none⟩=some a3:=by
 obtain⟨h0,h1,h2,h3⟩:=k
 exact⟨aX (cell_later hb h0) na,aX (cell_later hb h1) na,aX (cell_later hb h2) na,aX (cell_later hb h3) na⟩
theorem sC{w1 w2:World}{a b g:Nat}{a0 a1 a2 a3 b0 b1 b2 b3 u v x y:Value}(k:w1.cell? ⟨a,0,none⟩=some a0∧w1.cell? ⟨a,1,none⟩=some a1∧w1.cell? ⟨a,2,none⟩=some a2∧w1.cell? ⟨a,3,none⟩=some a3∧w1.cell? ⟨b,0,none⟩=some b0∧w1.cell? ⟨b,1,none⟩=some b1∧w1.cell? ⟨b,2,none⟩=some b2∧w1.cell? ⟨b,3,none⟩=some b3)(hb:Below w1.heap.size w1 w2)(na:Hid (a≠g))(nb:Hid (b≠g)):
  ((((w2.setCell ⟨g,0,none⟩ u).setCell ⟨g,1,none⟩ v).setCell ⟨g,2,none⟩ x).setCell ⟨g,3,none⟩ y).cell? ⟨a,0,none⟩=some a0∧((((w2.setCell ⟨g,0,none⟩ u).setCell ⟨g,1,none⟩ v).setCell ⟨g,2,none⟩ x).setCell ⟨g,3,none⟩ y).cell? ⟨a,1,none⟩=some a1∧((((w2.setCell ⟨g,0,none⟩ u).setCell ⟨g,1,none⟩ v).setCell ⟨g,2,none⟩ x).setCell ⟨g,3,none⟩ y).cell? ⟨a,2,none⟩=some a2∧((((w2.setCell ⟨g,0,none⟩ u).setCell ⟨g,1,none⟩ v).setCell ⟨g,2,none⟩ x).setCell ⟨g,3,none⟩ y).cell? ⟨a,3,none⟩=some a3∧((((w2.setCell ⟨g,0,none⟩ u).setCell ⟨g,1,none⟩ v).setCell ⟨g,2,none⟩ x).setCell ⟨g,3,none⟩ y).cell? ⟨b,0,none⟩=some b0∧((((w2.setCell ⟨g,0,none⟩ u).setCell ⟨g,1,none⟩ v).setCell ⟨g,2,none⟩ x).setCell ⟨g,3,none⟩ y).cell? ⟨b,1,none⟩=some b1∧((((w2.setCell ⟨g,0,none⟩ u).setCell ⟨g,1,none⟩ v).setCell ⟨g,2,none⟩ x).setCell ⟨g,3,none⟩ y).cell? ⟨b,2,none⟩=some b2∧((((w2.setCell ⟨g,0,none⟩ u).setCell ⟨g,1,none⟩ v).setCell ⟨g,2,none⟩ x).setCell ⟨g,3,none⟩ y).cell? ⟨b,3,none⟩=some b3:=by
 obtain⟨h0,h1,h2,h3,h4,h5,h6,h7⟩:=k
 exact⟨aX (cell_later hb h0) na,aX (cell_later hb h1) na,aX (cell_later hb h2) na,aX (cell_later hb h3) na,aX (cell_later hb h4) nb,aX (cell_later hb h5) nb,aX (cell_later hb h6) nb,aX (cell_later hb h7) nb⟩
theorem BU{w1 w2:World}{a b c d g:Nat}{a0 a1 a2 a3 b0 b1 b2 b3 c0 c1 d0 d1 u v x y:Value}(k:w1.cell? ⟨a,0,none⟩=some a0∧w1.cell? ⟨a,1,none⟩=some a1∧w1.cell? ⟨a,2,none⟩=some a2∧w1.cell? ⟨a,3,none⟩=some a3∧w1.cell? ⟨b,0,none⟩=some b0∧w1.cell? ⟨b,1,none⟩=some b1∧w1.cell? ⟨b,2,none⟩=some b2∧w1.cell? ⟨b,3,none⟩=some b3∧w1.cell? ⟨c,0,none⟩=some c0∧w1.cell? ⟨c,1,none⟩=some c1∧w1.cell? ⟨d,0,none⟩=some d0∧w1.cell? ⟨d,1,none⟩=some d1)(hb:Below w1.heap.size w1 w2)(na:Hid (a≠g))(nb:Hid (b≠g))(nc:Hid (c≠g))(nd:Hid (d≠g)):
  ((((w2.setCell ⟨g,0,none⟩ u).setCell ⟨g,1,none⟩ v).setCell ⟨g,2,none⟩ x).setCell ⟨g,3,none⟩ y).cell? ⟨a,0,none⟩=some a0∧((((w2.setCell ⟨g,0,none⟩ u).setCell ⟨g,1,none⟩ v).setCell ⟨g,2,none⟩ x).setCell ⟨g,3,none⟩ y).cell? ⟨a,1,none⟩=some a1∧((((w2.setCell ⟨g,0,none⟩ u).setCell ⟨g,1,none⟩ v).setCell ⟨g,2,none⟩ x).setCell ⟨g,3,none⟩ y).cell? ⟨a,2,none⟩=some a2∧((((w2.setCell ⟨g,0,none⟩ u).setCell ⟨g,1,none⟩ v).setCell ⟨g,2,none⟩ x).setCell ⟨g,3,none⟩ y).cell? ⟨a,3,none⟩=some a3∧((((w2.setCell ⟨g,0,none⟩ u).setCell ⟨g,1,none⟩ v).setCell ⟨g,2,none⟩ x).setCell ⟨g,3,none⟩ y).cell? ⟨b,0,none⟩=some b0∧((((w2.setCell ⟨g,0,none⟩ u).setCell ⟨g,1,none⟩ v).setCell ⟨g,2,none⟩ x).setCell ⟨g,3,none⟩ y).cell? ⟨b,1,none⟩=some b1∧((((w2.setCell ⟨g,0,none⟩ u).setCell ⟨g,1,none⟩ v).setCell ⟨g,2,none⟩ x).setCell ⟨g,3,none⟩ y).cell? ⟨b,2,none⟩=some b2∧((((w2.setCell ⟨g,0,none⟩ u).setCell ⟨g,1,none⟩ v).setCell ⟨g,2,none⟩ x).setCell ⟨g,3,none⟩ y).cell? ⟨b,3,none⟩=some b3∧((((w2.setCell ⟨g,0,none⟩ u).setCell ⟨g,1,none⟩ v).setCell ⟨g,2,none⟩ x).setCell ⟨g,3,none⟩ y).cell? ⟨c,0,none⟩=some c0∧((((w2.setCell ⟨g,0,none⟩ u).setCell ⟨g,1,none⟩ v).setCell ⟨g,2,none⟩ x).setCell ⟨g,3,none⟩ y).cell? ⟨c,1,none⟩=some c1∧((((w2.setCell ⟨g,0,none⟩ u).setCell ⟨g,1,none⟩ v).setCell ⟨g,2,none⟩ x).setCell ⟨g,3,none⟩ y).cell? ⟨d,0,none⟩=some d0∧((((w2.setCell ⟨g,0,none⟩ u).setCell ⟨g,1,none⟩ v).setCell ⟨g,2,none⟩ x).setCell ⟨g,3,none⟩ y).cell? ⟨d,1,none⟩=some d1:=by
 obtain⟨h0,h1,h2,h3,h4,h5,h6,h7,h8,h9,h10,h11⟩:=k
 exact⟨aX (cell_later hb h0) na,aX (cell_later hb h1) na,aX (cell_later hb h2) na,aX (cell_later hb h3) na,aX (cell_later hb h4) nb,aX (cell_later hb h5) nb,aX (cell_later hb h6) nb,aX (cell_later hb h7) nb,aX (cell_later hb h8) nc,aX (cell_later hb h9) nc,aX (cell_later hb h10) nd,aX (cell_later hb h11) nd⟩
theorem lg{w W w1:World}{g:Nat}{s t:Bool}{p q:Option Addr}{n m K:Nat}{r:Rat}{u v x y:Value}(hw:Below w.heap.size w W)(hg:w.heap.size≤g)(hg':g<W.heap.size)(hb:Below W.heap.size W w1)
  (h:MQ w1 K s p n t q m r) (hp:az W.heap.size p) (hq:az W.heap.size q):
  MP r K w (.returned (.agg #[.bool s,.slice p n n,.bool t,.slice q m m])) ((((w1.setCell ⟨g,0,none⟩ u).setCell ⟨g,1,none⟩ v).setCell ⟨g,2,none⟩ x).setCell ⟨g,3,none⟩ y):=
 ⟨s,p,n,t,q,m,rfl,⟨h.num.bq (fun _=>aT hp hg') _ _ _ _,h.den.bq (fun _=>aT hq hg') _ _ _ _⟩,fun a ha=>Nat.le_trans hw.size (hp a ha),fun a ha=>Nat.le_trans hw.size (hq a ha),cL (ae hw hb) hg _ _ _ _⟩
structure Rq where
 s:Bool
 p:Option Addr
 n:Nat
 c:Nat
 t:Bool
 q:Option Addr
 m:Nat
 d:Nat
def rqz:Rq:=⟨false,none,0,0,false,none,0,0⟩
def gr(rs:List Rq)(i:Nat):Rq:=(rs[i]?).getD rqz
def gq(zs:List Rat)(i:Nat):Rat:=(zs[i]?).getD 0
theorem jJ(a b:List Rq)(i:Nat)(h:i<a.length):gr (a++b) i=gr a i:=by simp[gr,List.getElem?_append,h]
theorem uP(a:List Rq)(e:Rq):gr (a++[e]) a.length=e:=by simp[gr]
theorem pA(a b:List Rat)(i:Nat)(h:i<a.length):gq (a++b) i=gq a i:=by simp[gq,List.getElem?_append,h]
theorem BO(a:List Rat)(e:Rat):gq (a++[e]) a.length=e:=by simp[gq]
def Rq.all(e:Rq)(X:Nat→Prop):Prop:=(0<e.n→∀a,e.p=some a→X a.block)∧(0<e.m→∀a,e.q=some a→X a.block)
theorem Rq.j_{e:Rq}{X Y:Nat→Prop}(h:e.all X)(k:∀b,X b→Y b):e.all Y:=⟨fun hn a ha=>k _ (h.1 hn a ha),fun hn a ha=>k _ (h.2 hn a ha)⟩
def Rq.cells(e:Rq):List Value:=[.bool e.s,.slice e.p e.n e.c,.bool e.t,.slice e.q e.m e.d]
def RL(w:World)(p:Option Addr)(rs:List Rq):Prop:=
 0<rs.length→∃b o,p=some ⟨b,o,none⟩∧∀j,j<rs.length→w.cell? ⟨b,o+j*4,none⟩=some (.bool (gr rs j).s)∧w.cell? ⟨b,o+j*4+1,none⟩=some (.slice (gr rs j).p (gr rs j).n (gr rs j).c)∧w.cell? ⟨b,o+j*4+2,none⟩=some (.bool (gr rs j).t)∧w.cell? ⟨b,o+j*4+3,none⟩=some (.slice (gr rs j).q (gr rs j).m (gr rs j).d)
theorem RL.same{w w':World}{p:Option Addr}{rs:List Rq}(h:RL w p rs)(hs:∀a,p=some a→a.block<w.heap.size→w'.heap[a.block]?=w.heap[a.block]?):RL w' p rs:=fun hx=>by
 obtain⟨b,o,hp,hc⟩:=h hx
 refine⟨b,o,hp,fun j hj=>?_⟩
 have hlt:b<w.heap.size:=block_lt_of_cell (hc 0 hx).1
 have hb:=hs ⟨b,o,none⟩ hp hlt
 obtain⟨c0,c1,c2,c3⟩:=hc j hj
 exact⟨(World.cell?_of_block (a:=⟨b,o+j*4,none⟩) hb).trans c0,(World.cell?_of_block (a:=⟨b,o+j*4+1,none⟩) hb).trans c1,(World.cell?_of_block (a:=⟨b,o+j*4+2,none⟩) hb).trans c2,(World.cell?_of_block (a:=⟨b,o+j*4+3,none⟩) hb).trans c3⟩
theorem RL.below{w w':World}{p:Option Addr}{rs:List Rq}(h:RL w p rs)(hb:Below w.heap.size w w'):RL w' p rs:=h.same fun a _ hlt=>hb.block a.block hlt
def frl(rs:List Rq):List Value:=rs.flatMap Rq.cells
theorem Ac(rs:List Rq)(e:Rq):frl (rs++[e])=frl rs++[.bool e.s,.slice e.p e.n e.c,.bool e.t,.slice e.q e.m e.d]:=by simp[frl,Rq.cells]
theorem kt(rs:List Rq):(frl rs).length=rs.length*4:=by
 induction rs with
 |nil=>rfl
 |cons e r ih=>simp only[frl,List.flatMap_cons,List.length_append,List.length_cons] at ih ⊢;rw[ih];simp only[Rq.cells,List.length_cons,List.length_nil];omega
theorem mj(rs:List Rq):∀j,j<rs.length→(frl rs)[j*4]?=some (.bool (gr rs j).s)∧(frl rs)[j*4+1]?=some (.slice (gr rs j).p (gr rs j).n (gr rs j).c)∧(frl rs)[j*4+2]?=some (.bool (gr rs j).t)∧(frl rs)[j*4+3]?=some (.slice (gr rs j).q (gr rs j).m (gr rs j).d):=by
 induction rs with
 |nil=>intro j hj;simp at hj
 |cons e r ih=>
  intro j hj
  cases j with
  |zero=>exact⟨rfl,rfl,rfl,rfl⟩
  |succ j=>
   have h:=ih j (by simpa using hj)
   have e1:(j+1)*4=j*4+1+1+1+1:=by omega
   have e3:gr (e::r) (j+1)=gr r j:=by simp[gr]
   rw[e1,e3]
   simp only[frl,List.flatMap_cons,Rq.cells,List.cons_append,List.nil_append,List.getElem?_cons_succ] at h ⊢
   exact h
structure gC(E:World→Rat→Rq→Prop):Prop where
 grown:∀{w w':World} {z:Rat} {e:Rq} {row:Option Nat},E w z e→w.grownBy w' row→e.all (fun b=>some b≠row)→E w' z e
 lt:∀{w:World} {z:Rat} {e:Rq},E w z e→e.all fun b=>b<w.heap.size
theorem gC.below{E:World→Rat→Rq→Prop}(L:gC E){w w':World}{z:Rat}{e:Rq}(h:E w z e)(hb:Below w.heap.size w w'):E w' z e:=L.grown h (eE hb none) ⟨(fun _ _ _ e=>by cases e),(fun _ _ _ e=>by cases e)⟩
theorem AI.grow{w w':World}{p:Option Addr}{n nc:Nat}{xs:List Int}{row:Option Nat}(h:AI w p n nc xs)(hg:w.grownBy w' row)(hne:0<n→∀a,p=some a→some a.block≠row):AI w' p n nc xs:=⟨h.len,h.cap,h.bnd,h.sml,nD h.rd hg (by rw[h.len];exact hne),h.u⟩
theorem AI.ltb{w:World}{p:Option Addr}{n nc:Nat}{xs:List Int}(h:AI w p n nc xs):0<n→∀a,p=some a→a.block<w.heap.size:=fun hn=>xj h.rd (by rw[h.len];exact hn)
def EQa(K:Nat)(w:World)(z:Rat)(e:Rq):Prop:=AQ w K e.s e.p e.n e.c e.t e.q e.m e.d z
theorem dP(K:Nat):gC (EQa K):=⟨fun h hg hne=>by
  obtain⟨xs,ys,h1,h2,h3⟩:=h
  exact⟨xs,ys,h1.grow hg hne.1,h2.grow hg hne.2,h3⟩,fun h=>by
  obtain⟨xs,ys,h1,h2,h3⟩:=h
  exact⟨h1.ltb,h2.ltb⟩⟩
def EM(K:Nat)(w:World)(z:Rat)(e:Rq):Prop:=MQ w K e.s e.p e.n e.t e.q e.m z∧e.c=e.n∧e.d=e.m
theorem RV.grow{w w':World}{N:Nat}{z:Int}{s:Bool}{p:Option Addr}{n:Nat}{row:Option Nat}(h:RV w N z s p n)(hg:w.grownBy w' row)(hne:0<n→∀a,p=some a→some a.block≠row):RV w' N z s p n:=by
 obtain⟨ds,k,h2⟩:=h
 exact⟨ds,⟨k.len,nD k.rd hg (by rw[k.len];exact hne),k.u,k.nrm,k.sg,k.sml⟩,h2⟩
theorem RV.ltb{w:World}{N:Nat}{z:Int}{s:Bool}{p:Option Addr}{n:Nat}(h:RV w N z s p n):0<n→∀a,p=some a→a.block<w.heap.size:=by
 obtain⟨ds,k,h2⟩:=h
 exact fun hn=>xj k.rd (by rw[k.len];exact hn)
theorem cU(K:Nat):gC (EM K):=⟨fun h hg hne=>⟨⟨h.1.num.grow hg hne.1,h.1.den.grow hg hne.2⟩,h.2⟩,fun h=>⟨h.1.num.ltb,h.1.den.ltb⟩⟩
structure LW(base:Nat)(t:TypeId)(E:World→Rat→Rq→Prop)(w:World)(v:Value)(rs:List Rq)(zs:List Rat):Prop where
 own:w.ownsRow base t 4 v rs.length (frl rs)
 zl:zs.length=rs.length
 ev:∀j,j<rs.length→E w (gq zs j) (gr rs j)
 off:∀j,j<rs.length→(gr rs j).all fun b=>some b≠v.ownBlock
theorem LW.nil(base:Nat)(t:TypeId)(E:World→Rat→Rq→Prop)(w:World):LW base t E w (.slice none 0 0) [] []:=⟨World.ownsRow_nil _ _ _ _,rfl,fun j hj=>by simp at hj,fun j hj=>by simp at hj⟩
theorem LW.below{base:Nat}{t:TypeId}{E:World→Rat→Rq→Prop}(L:gC E){w w':World}{v:Value}{rs:List Rq}{zs:List Rat}(h:LW base t E w v rs zs)(hb:Below w.heap.size w w'):LW base t E w' v rs zs:=
 ⟨bW h.own hb,h.zl,fun j hj=>L.below (h.ev j hj) hb,h.off⟩
theorem LW.app{base:Nat}{t:TypeId}{E:World→Rat→Rq→Prop}(L:gC E){wr w1 w3:World}{v:Value}{rs:List Rq}{zs:List Rat}{z:Rat}{e:Rq}{o:Obj}{g cap k:Nat}(hk:rs.length=k)(h:LW base t E wr v rs zs)(hb1:Below wr.heap.size wr w1)(hE:E w1 z e)(hF:e.all fun b=>b<base∨wr.heap.size≤b)
  (hown:w3.ownsRow base t 4 (.slice (some ⟨g,0,none⟩) (k+1) cap) (k+1) (frl rs++[.bool e.s,.slice e.p e.n e.c,.bool e.t,.slice e.q e.m e.d])) (hgrow:(w1.alloc o).grownBy w3 v.ownBlock) (hat:v.ownBlock=some g∨g=(w1.alloc o).heap.size):
  LW base t E w3 (.slice (some ⟨g,0,none⟩) (k+1) cap) (rs++[e]) (zs++[z]):=by
 subst hk
 have hal:Below w1.heap.size w1 (w1.alloc o):=(Below.refl _ _).alloc (Nat.le_refl _) o
 have hs1:=hb1.size
 have hs2:=hal.size
 have old:∀j,j<rs.length→E (w1.alloc o) (gq zs j) (gr rs j):=fun j hj=>L.below (L.below (h.ev j hj) hb1) hal
 have new:E (w1.alloc o) z e:=L.below hE hal
 have noff:e.all fun b=>some b≠v.ownBlock:=Rq.j_ hF fun b hb hq=>by
  have h1:=h.own.lt b hq.symm
  omega
 refine⟨by rw[List.length_append,Ac];exact hown,by simp[h.zl],fun j hj=>?_,fun j hj=>?_⟩
 ·rcases Nat.lt_or_ge j rs.length with hlt|hge
  ·rw[jJ _ _ _ hlt,pA _ _ _ (by rw[h.zl];exact hlt)]
   exact L.grown (old j hlt) hgrow (h.off j hlt)
  ·have:j=rs.length:=by simp at hj;omega
   subst this
   have e1:gq (zs++[z]) rs.length=z:=by rw[←h.zl,BO]
   rw[uP,e1]
   exact L.grown new hgrow noff
 ·have hnb:(.slice (some ⟨g,0,none⟩) (rs.length+1) cap:Value).ownBlock=some g:=rfl
  rw[hnb]
  rcases Nat.lt_or_ge j rs.length with hlt|hge
  ·rw[jJ _ _ _ hlt]
   rcases hat with h1|h1
   ·rw[←h1];exact h.off j hlt
   ·refine Rq.j_ (L.lt (old j hlt)) fun b hb hq=>?_
    have:=Option.some.inj hq
    omega
  ·have:j=rs.length:=by simp at hj;omega
   subst this
   rw[uP]
   rcases hat with h1|h1
   ·rw[←h1];exact noff
   ·refine Rq.j_ (L.lt new) fun b hb hq=>?_
    have:=Option.some.inj hq
    omega
theorem kz{w:World}{B n:Nat}{t:TypeId}{v:Value}{xs:List Value}(h:w.ownsRow B t 4 v n xs):∃q cap,v=.slice q n cap∧n≤cap∧cap≤maxLen∧az B q∧(q=none→cap=0):=by
 rcases h.2 with ⟨h1,h2⟩|⟨g,cap,cur,h1,h2,h3,h4,h5,_⟩
 ·exact⟨none,0,by rw[h1,h2],by omega,Nat.zero_le _,nofun,fun _=>rfl⟩
 ·exact⟨_,cap,h1,h4,h5,fun a ha=>(by cases ha;exact h2),nofun⟩
theorem AE{w:World}{B cap:Nat}{t:TypeId}{q:Option Addr}{rs:List Rq}(h:w.ownsRow B t 4 (.slice q rs.length cap) rs.length (frl rs)):RL w q rs:=fun hx=>by
 obtain⟨g,cap',h1,h2,_⟩:=h.form hx
 cases h1
 refine⟨g,0,rfl,fun j hj=>?_⟩
 obtain⟨f0,f1,f2,f3⟩:=mj rs j hj
 have e0:=h.cells (g:=g) rfl (j*4) _ f0
 have e1:=h.cells (g:=g) rfl (j*4+1) _ f1
 have e2:=h.cells (g:=g) rfl (j*4+2) _ f2
 have e3:=h.cells (g:=g) rfl (j*4+3) _ f3
 rw[Addr.add_mid] at e0 e1 e2 e3
 exact⟨e0,e1,e2,e3⟩
structure WA(E:World→Rat→Rq→Prop)(w:World)(p:Option Addr)(n nc:Nat)(rs:List Rq)(zs:List Rat):Prop where
 el:rs.length=n
 zl:zs.length=n
 cap:n≤nc
 bnd:nc≤maxLen
 pn:p=none→nc=0
 rl:RL w p rs
 ev:∀j,j<n→E w (gq zs j) (gr rs j)
theorem WA.below{E:World→Rat→Rq→Prop}(L:gC E){w w':World}{p:Option Addr}{n nc:Nat}{rs:List Rq}{zs:List Rat}(h:WA E w p n nc rs zs)(hb:Below w.heap.size w w'):WA E w' p n nc rs zs:=
 ⟨h.el,h.zl,h.cap,h.bnd,h.pn,h.rl.below hb,fun j hj=>L.below (h.ev j hj) hb⟩
theorem LW.wa{base:Nat}{t:TypeId}{E:World→Rat→Rq→Prop}{w:World}{v:Value}{rs:List Rq}{zs:List Rat}(h:LW base t E w v rs zs):∃q cap,v=.slice q rs.length cap∧WA E w q rs.length cap rs zs:=by
 obtain⟨q,cap,h1,h2,h3,h4,h5⟩:=kz h.own
 have ho:=h.own
 rw[h1] at ho
 exact⟨q,cap,h1,rfl,h.zl,h2,h3,h5,AE ho,h.ev⟩
open Go.ChangeShapes Go.WideShapes Go.ChangeAt Go.RowKit Go.Joins
instance:Inhabited Rq:=⟨rqz⟩
def QCut(s t:Bool)(xs ys:List Int)(w:World)(e:Ending)(w':World):Prop:=
 ∃p n nc q m mc,e=.returned (.agg #[.bool s,.slice p n nc,.bool t,.slice q m mc])∧AI w' p n nc (xs.take 24)∧AI w' q m mc (ys.take 24)∧n≤24∧m≤24∧az w.heap.size p∧az w.heap.size q∧Below w.heap.size w w'
theorem AG(s t:Bool)(p q:Option Addr)(n nc m mc:Nat)(xs ys:List Int)(w:World)(hl:xs.length=n)(hnc:n≤nc)(hb:nc≤maxLen)(hX:Rd w p .u32 xs)(hU:U32 xs)(hp:p=none→nc=0)(hl':ys.length=m)(hnc':m≤mc)(hb':mc≤maxLen)(hX':Rd w q .u32 ys)(hU':U32 ys)(hp':q=none→mc=0):
  Calls Tryz.prog 6 #[.agg #[.bool s,.slice p n nc,.bool t,.slice q m mc]] w (QCut s t xs ys w):=by
 go_enter Tryz.func6,Tryz.ntmps6
 go_wp2_with fail
 have hA0:Bq ((w.alloc (.cells #[.bool s,.slice p n nc,.bool t,.slice q m mc] 26)).alloc (.cells #[.bool false,.slice none 0 0,.bool false,.slice none 0 0] 26)) w.heap.size (.bool s) (.slice p n nc) (.bool t) (.slice q m mc):=(Bq.new _ _ _ _ _ rfl).alloc _
 have hR:Bq ((w.alloc (.cells #[.bool s,.slice p n nc,.bool t,.slice q m mc] 26)).alloc (.cells #[.bool false,.slice none 0 0,.bool false,.slice none 0 0] 26)) (w.heap.size+1) (.bool false) (.slice none 0 0) (.bool false) (.slice none 0 0):=Bq.new _ _ _ _ _ (by simp)
 have hW:Below w.heap.size w ((w.alloc (.cells #[.bool s,.slice p n nc,.bool t,.slice q m mc] 26)).alloc (.cells #[.bool false,.slice none 0 0,.bool false,.slice none 0 0] 26)):=((Below.refl _ _).alloc (Nat.le_refl _) _).alloc (by simp) _
 generalize (w.alloc (.cells #[.bool s,.slice p n nc,.bool t,.slice q m mc] 26)).alloc (.cells #[.bool false,.slice none 0 0,.bool false,.slice none 0 0] 26)=W at *
 obtain⟨a0,a1,a2,a3,-,-,-,-⟩:=hA0
 go_region_held3 (fun w'=>w'.cell? ⟨w.heap.size,0,none⟩=some (.bool s)∧w'.cell? ⟨w.heap.size,1,none⟩=some (.slice p n nc)∧w'.cell? ⟨w.heap.size,2,none⟩=some (.bool t)∧w'.cell? ⟨w.heap.size,3,none⟩=some (.slice q m mc)) (first|with_reducible exact⟨a0,a1,a2,a3⟩|with_reducible exact bB ⟨a0,a1,a2,a3⟩ hV1|with_reducible exact bB ⟨a0,a1,a2,a3⟩ hV2|(simp[go_sem, *];done))
  (first
   |(go_at_call_of 25 (Value.agg #[.bool s,.slice p n nc]);refine(uF s p n nc xs _ hl hnc hb (hX.below hW).drew hU hp).mono ?_;rintro e v1 ⟨p1,n1,nc1,rfl,hA1,hn1,hF1,hv1⟩;have hV1:=aC hv1)
   |(go_at_call_of 25 (Value.agg #[.bool t,.slice q m mc]);refine(uF t q m mc ys _ hl' hnc' hb' ((hX'.below hW).below hV1) hU' hp').mono ?_;rintro e v2 ⟨p2,n2,nc2,rfl,hA2,hn2,hF2,hv2⟩;have hV2:=ae hV1 hv2;have hR2:=hR.later hV2;obtain⟨r0,r1,r2,r3,f0,f1,f2,f3⟩:=hR2))
 clear a0 a1 a2 a3
 go_wp2
 have sR:=hR.lt
 have sV:=hV1.size
 refine bodyPost_ret (v:=.agg #[.bool s,.slice p1 n1 nc1,.bool t,.slice p2 n2 nc2]) (by simp[results,Tryz.results6,go_sem,r0,r1,r2,r3]) rfl ⟨_,_,_,_,_,_,rfl,?_,?_,hn1,hn2,?_,?_,?_⟩
 ·exact(hA1.below hv2).bq (fun _=>aT hF1 sR) _ _ _ _
 ·exact hA2.bq (fun _=>aT hF2 (by omega)) _ _ _ _
 ·exact fun a ha=>Nat.le_trans hW.size (hF1 a ha)
 ·exact fun a ha=>Nat.le_trans (Nat.le_trans hW.size sV) (hF2 a ha)
 ·exact cL (ae hW hV2) (by omega) _ _ _ _
theorem vz{w:World}{K:Nat}{s:Bool}{p:Option Addr}{n nc:Nat}{xs:List Int}(h:AI w p n nc xs)(hn:n≤K):
  Calls Tryz.prog 50 #[.agg #[.bool s,.slice p n nc]] w (RVP (2*K) (ak s xs) w):=by
 refine(pW s p n nc xs w h).mono ?_
 rintro e w' ⟨s',p',n',ds',g1,g2,g3,g4,g5,g6⟩
 exact⟨s',p',n',g1,⟨ds',g2,g3,by omega⟩,g5,g6⟩
theorem vy{w:World}{K:Nat}{s t:Bool}{p q:Option Addr}{n nc m mc:Nat}{r:Rat}(h:AQ w K s p n nc t q m mc r)(hK:1≤K)(hK':K≤400):
  Calls Tryz.prog 13 #[.agg #[.bool s,.slice p n nc,.bool t,.slice q m mc]] w (MP r K w):=by
 have hs:Hid (Sz r K):=h.sz hK
 obtain⟨xs,ys,h1,h2,h3,h4,hr⟩:=h
 have hval:Hid (Rat.divInt (ak s xs) (ak t ys)=r):=hr
 clear hr
 go_enter Tryz.func13,Tryz.ntmps13
 go_wp2_with fail
 have hA0:Bq ((w.alloc (.cells #[.bool s,.slice p n nc,.bool t,.slice q m mc] 26)).alloc (.cells #[.bool false,.slice none 0 0,.bool false,.slice none 0 0] 45)) w.heap.size (.bool s) (.slice p n nc) (.bool t) (.slice q m mc):=(Bq.new _ _ _ _ _ rfl).alloc _
 have hR0:Bq ((w.alloc (.cells #[.bool s,.slice p n nc,.bool t,.slice q m mc] 26)).alloc (.cells #[.bool false,.slice none 0 0,.bool false,.slice none 0 0] 45)) (w.heap.size+1) (.bool false) (.slice none 0 0) (.bool false) (.slice none 0 0):=Bq.new _ _ _ _ _ (by simp)
 have hW:Below w.heap.size w ((w.alloc (.cells #[.bool s,.slice p n nc,.bool t,.slice q m mc] 26)).alloc (.cells #[.bool false,.slice none 0 0,.bool false,.slice none 0 0] 45)):=((Below.refl _ _).alloc (Nat.le_refl _) _).alloc (by simp) _
 generalize (w.alloc (.cells #[.bool s,.slice p n nc,.bool t,.slice q m mc] 26)).alloc (.cells #[.bool false,.slice none 0 0,.bool false,.slice none 0 0] 45)=W at *
 have k1:=h1.below hW
 have k2:=h2.below hW
 have nA:Hid (w.heap.size≠w.heap.size+1):=(by omega:w.heap.size≠w.heap.size+1)
 obtain⟨a0,a1,a2,a3,-,-,-,-⟩:=hA0
 go_region_held3 (fun w'=>w'.cell? ⟨w.heap.size,0,none⟩=some (.bool s)∧w'.cell? ⟨w.heap.size,1,none⟩=some (.slice p n nc)∧w'.cell? ⟨w.heap.size,2,none⟩=some (.bool t)∧w'.cell? ⟨w.heap.size,3,none⟩=some (.slice q m mc)) (first|with_reducible exact⟨a0,a1,a2,a3⟩|with_reducible exact bB ⟨a0,a1,a2,a3⟩ hV1|with_reducible exact bB ⟨a0,a1,a2,a3⟩ hV2|with_reducible exact bB ⟨a0,a1,a2,a3⟩ hV3|with_reducible exact sB ⟨a0,a1,a2,a3⟩ hV3 nA|(simp[go_sem, *];done))
  (first
   |(go_at_call_of 50 (Value.agg #[.bool s,.slice p n nc]);refine(vz (K:=K) k1.drew h3).mono ?_;rintro e v1 ⟨s1,p1,n1,rfl,hr1,hF1,hv1⟩;have hV1:=aC hv1)
   |(go_at_call_of 50 (Value.agg #[.bool t,.slice q m mc]);refine(vz (K:=K) (k2.below hV1) h4).mono ?_;rintro e v2 ⟨s2,p2,n2,rfl,hr2,hF2,hv2⟩;have hV2:=ae hV1 hv2)
   |(go_at_call 49;refine(nL (K:=K) (hr1.below hv2) hr2 (by omega) (by omega) (by rw[hval.out];exact hs.out)).mono ?_;rintro e v3 ⟨s3,p3,n3,t3,q3,m3,rfl,hm,hF3,hF3',hv3⟩;have hV3:=ae hV2 hv3;rw[hval.out] at hm;obtain⟨r0,r1,r2,r3,f0,f1,f2,f3⟩:=hR0.later hV3))
 clear a0 a1 a2 a3
 go_wp2
 refine bodyPost_ret (v:=.agg #[.bool s3,.slice p3 n3 n3,.bool t3,.slice q3 m3 m3]) (by simp[results,Tryz.results13,go_sem,r0,r1,r2,r3]) rfl ?_
 have sV:=hV2.size
 exact lg hW (by omega) hR0.lt hV3 hm (fun a ha=>Nat.le_trans sV (hF3 a ha)) (fun a ha=>Nat.le_trans sV (hF3' a ha))
end Go.Proofs.YtfnkomoickanfaaGreatDoor
