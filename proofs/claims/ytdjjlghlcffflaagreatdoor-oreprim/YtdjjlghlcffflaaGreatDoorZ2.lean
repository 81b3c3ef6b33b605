/- Own. -/
import Derived.Test.YtdjjlghlcffflaaGreatDoorY9
set_option linter.unusedVariables false
set_option linter.unusedSimpArgs false
set_option maxHeartbeats 8000000
set_option maxRecDepth 100000
namespace Go.Proofs.YtdjjlghlcffflaaGreatDoor
open Go.RowKit
theorem Md.Cop.swap{a b:Nat->Int}(h:Md.Cop a b):Md.Cop b a:=fun d N hN hI=>h d N hN fun I H hS hd=>(hI I H hS hd).symm
variable {A H a b:List Int}
theorem Md.GG.swap{B:List Int}(h:Md.GG A B H a b):Md.GG B A H b a:=⟨h.hl,h.h0,h.hP,h.bP,h.aP,h.hB,h.hA,h.cop.swap⟩
variable {B K n:Nat} {w:World} {p:Option Addr} {es:List Ent} {zs:List Int}
theorem uT(h:PB B w K p n es zs)(hn:n<=1000000)(hK:K<150)(hK1:1<=K):Calls Tryz.prog 70 #[.slice p n n] w (PtP zs K w):=by
 rcases Jw n with h0|h0
 ·have e:zs=[]:=JB (by rw[h.zl];exact h0)
  rw[e] at h ⊢
  subst h0;exact uW K hK hK1 (h.pa (by omega))
 ·exact uU h hn h0 hK hK1
variable {P:Int}
theorem zd(hP:0<P)(h:∀t,((gx zs t).natAbs:Int)<P):((aB zs:Nat):Int)<P:=by
 by_cases h0:∀t,gx zs t=0
 ·have h1:=Md.kj (zs:=zs) (d:=0) (fun t=>by rw[h0 t];exact Int.dvd_refl 0) zs.length (Jr _)
  rw[List.take_length] at h1
  have:=Int.zero_dvd.1 h1;omega
 ·obtain⟨t,ht⟩:=Classical.not_forall.1 h0
  have h1:=Int.natAbs_dvd_natAbs.2 (fj zs t);rw[Int.natAbs_natCast] at h1
  have h2:=Nat.le_of_dvd (by omega) h1
  have:=h t;omega
theorem DK{x y:Nat}(hx:(x:Int)<P)(hy:(y:Int)<P):((Int.gcd (x:Int) (y:Int):Nat):Int)<P:=by
 rcases Jw x with h0|h0
 ·subst h0
  have:Int.gcd ((0:Nat):Int) (y:Int)=y:=by simp
  omega
 ·have:=Nat.le_of_dvd h0 (Nat.gcd_dvd_left x y)
  have e:Int.gcd (x:Int) (y:Int)=Nat.gcd x y:=by simp[Int.gcd]
  omega
def PvP(HH:List Int)(w:World)(r:Ending)(w':World):Prop:=∃(p':Option Addr) (k:Nat) (es':List Ent),r=.returned (.slice p' k k)/\PA w' 70 p' k k es' HH/\Below w.heap.size w w'
variable {q:Option Addr} {nc m mc:Nat} {fs:List Ent} {ys:List Int}
theorem E9{HH:List Int}(h:PA w 5 p n nc es zs)(hb:PA w 5 q m mc fs ys)(hz:ad zs=n)(hy:ad ys=m)(hn12:n<=12)(hm12:m<=12)(hHl:HH.length<=12)(hT:TzT w)
  (h1:1<=n->1<=m->m<=n->∀(B C:Nat) (p q:Option Addr) (es fs:List Ent) (w:World),PN B w 5 p n es (aC zs)->PN C w 5 q m fs (aC ys)->TzT w->Calls Tryz.prog 72 #[.slice p n n,.slice q m m] w (PvP HH w))
  (h2:1<=n->1<=m->n<m->∀(B C:Nat) (p q:Option Addr) (es fs:List Ent) (w:World),PN B w 5 p m es (aC ys)->PN C w 5 q n fs (aC zs)->TzT w->Calls Tryz.prog 72 #[.slice p m m,.slice q n n] w (PvP HH w))
  (h3:m=0->HH=aC zs) (h4:n=0->1<=m->HH=aC ys):
  Calls Tryz.prog 33 #[.slice p n nc,.slice q m mc] w (PnP (tr ((tr HH).map (((Int.gcd ((aB zs:Nat):Int) ((aB ys:Nat):Int):Nat):Int) * ·))) (5+70) w):=by
 have HD:=(show Hid _ from h1)
 have HE:=(show Hid _ from h2)
 have HD0:=(show Hid _ from h3)
 have HE0:=(show Hid _ from h4)
 have HLE:Hid (HH.length<=12):=hHl;clear h1 h2 h3 h4 hHl;have ta:tr zs=zs:=je (by rw[hz,h.zl])
 have tb:tr ys=ys:=je (by rw[hy,hb.zl])
 have hra:=kB 5 p n nc es _ w h (by omega) (by omega)
 rw[ta] at hra
 have hgz:=zd (bu 5) h.gbd;have hgy:=zd (bu 5) hb.gbd;have HV:Hid (((Int.gcd ((aB zs:Nat):Int) ((aB ys:Nat):Int):Nat):Int)<pw 5):=DK hgz hgy;have HZ:Hid (zs.length=n/\ys.length=m/\TzT w):=⟨h.zl,hb.zl,hT⟩;clear hgz hgy hT;go_enter Tryz.func33,Tryz.ntmps33;go_wp2_with fail;refine hra.mono ?_;rintro r w1 ⟨p1,n1,es1,rfl,h1,hb1⟩;obtain rfl:n1=n:=by rw[<-h1.zl,HZ.out.1]
 clear hra;go_wp2_with fail;refine(uT h1 (by omega) (by omega) (by omega)).mono ?_
 rintro r w2 ⟨u2,p2,n2,es2,rfl,hu2,h2,hb2⟩;have hn2:n2=n1:=by rw[<-h2.zl,cW,List.length_map,HZ.out.1]
 subst hn2;have hal:=ag (o:=.cells #[.bool u2.s,.slice u2.p u2.n u2.c] 50) (Jt w2.heap.size w2);have hX2:Bx (w2.alloc (.cells #[.bool u2.s,.slice u2.p u2.n u2.c] 50)) w2.heap.size (.bool u2.s) (.slice u2.p u2.n u2.c):=Bx.new _ _ _ rfl;have hB2:=ae (ae hb1 hb2) hal;have hu3:=hu2.below hal;have h3:=h2.below hal;have hrb:=kB 5 q m mc fs _ (w2.alloc (.cells #[.bool u2.s,.slice u2.p u2.n u2.c] 50)) (hb.below hB2) (by omega) (by omega)
 rw[tb] at hrb
 clear h1 hb1 hb2 hal hu2 h2;go_wp2_with fail;generalize w2.alloc (.cells #[.bool u2.s,.slice u2.p u2.n u2.c] 50)=W2 at *
 refine hrb.mono ?_;rintro r w3 ⟨p4,n4,es4,rfl,h4,hb3⟩;obtain rfl:n4=m:=by rw[<-h4.zl,HZ.out.2.1]
 clear hrb;go_wp2_with fail;refine(uT h4 (by omega) (by omega) (by omega)).mono ?_
 rintro r w4 ⟨u5,p5,n5,es5,rfl,hu5,h5,hb4⟩;have hn5:n5=n4:=by rw[<-h5.zl,cW,List.length_map,HZ.out.2.1]
 subst hn5;have hb34:=ae hb3 hb4;have hal:=ag (o:=.cells #[.bool u5.s,.slice u5.p u5.n u5.c] 50) (Jt w4.heap.size w4);have hX5:Bx (w4.alloc (.cells #[.bool u5.s,.slice u5.p u5.n u5.c] 50)) w4.heap.size (.bool u5.s) (.slice u5.p u5.n u5.c):=Bx.new _ _ _ rfl;have hX6:=(hX2.later hb34).later hal;have hB6:=ae (ae hB2 hb34) hal;have hu6:=(hu3.below hb34).below hal;have hu7:=hu5.below hal;have h6:=(h3.below hb34).below hal;have h7:=h5.below hal;have HT2:Hid (TzT _):=HZ.out.2.2.below hB6;clear h3 hu3 hX2 hB2 h4 hb3 hb4 hb34 hal hu5 h5 ta tb hz hy h hb;rcases Ju n2 n5 with hlt|hge
 ·have i1:(n2:Int)<(n5:Int):=by omega
  have i1':0<n5:=by omega
  rcases Jw n2 with h0|h0
  ·have HH1:Hid (HH=aC ys):=HE0.out h0 (by omega)
   have h8:PA (w4.alloc (.cells #[.bool u5.s,.slice u5.p u5.n u5.c] 50)) 70 p5 n5 n5 es5 HH:=by rw[HH1.out];exact(h7.pa (by omega) (by omega)).up9 (by omega)
   clear hlt i1;subst h0;go_upto_region 6 with fail
   generalize w4.alloc (.cells #[.bool u5.s,.slice u5.p u5.n u5.c] 50)=W4 at *
   obtain⟨q0,q1,-,-⟩:=id hX6;obtain⟨q2,q3,-,-⟩:=id hX5;have hv2:=hu6.ev (by omega)
   have hv5:=hu7.ev (by omega)
   have hgb:(((Int.gcd ((aB zs:Nat):Int) ((aB ys:Nat):Int):Nat):Int).natAbs:Int)<pw 5:=by
    have h9:=HV.out;omega
   have HS:Hid (PA W4 70 _ _ _ _ HH):=h8;have HB8:=(show Hid _ from hB6)
   have HG2:Hid (Calls Tryz.prog 74 #[.agg #[.bool u2.s,.slice u2.p u2.n u2.c],.agg #[.bool u5.s,.slice u5.p u5.n u5.c]] _ _):=lJ hv2 hv5 (by omega) (by omega)
   clear hv2 hv5 h8 hX6 hX5 hu6 hu7 h6 h7 hB6 HT2;go_wp2_with fail;go_fit HG2.out;rintro r w6 ⟨v6,rfl,hv6,hb6⟩;have hv7:=(hv6.fit (M:=5) hgb).ev (by omega)
   have hs:=jS (HS.out.below hb6) hv7 (by have:=HS.out.zl;have:=HLE.out;omega) (by omega) (by omega)
   have HB:Hid (Below w.heap.size w w6):=ae HB8.out hb6;clear HG2 q0 q1 q2 q3 hv6 hgb hv7 HB8;go_wp2_with fail;go_fit hs;rintro r w7 ⟨p9,n9,e9,rfl,h9,hb7⟩;clear hs;have HF:Hid (PnP (tr ((tr HH).map (((Int.gcd ((aB zs:Nat):Int) ((aB ys:Nat):Int):Nat):Int) * ·))) (5+70) w (.returned (.slice p9 n9 n9)) w7):=PnP.from ⟨p9,n9,e9,rfl,h9,hb7⟩ HB.out;clear h9 hb7;go_wp2;go_ret;exact HF.out
  ·have hpd:=HE.out h0 (by omega) hlt _ _ p5 p2 es5 es2 _ h7 h6 HT2.out
   have i2:(0:Int)<(n2:Int):=by omega
   clear hlt;go_wp2_with fail;generalize w4.alloc (.cells #[.bool u5.s,.slice u5.p u5.n u5.c] 50)=W4 at *
   refine hpd.mono ?_;rintro r w5 ⟨p8,k8,e8,rfl,h8,hb5⟩;have hX8:=hX6.later hb5;have hX9:=hX5.later hb5;obtain⟨q0,q1,-,-⟩:=id hX8;obtain⟨q2,q3,-,-⟩:=id hX9;have hv2:=(hu6.below hb5).ev (by omega)
   have hv5:=(hu7.below hb5).ev (by omega)
   have hg:=lJ hv2 hv5 (by omega) (by omega)
   have hB8:=ae hB6 hb5;have hgb:(((Int.gcd ((aB zs:Nat):Int) ((aB ys:Nat):Int):Nat):Int).natAbs:Int)<pw 5:=by
    have h9:=HV.out;omega
   have HS:Hid (PA w5 70 p8 k8 k8 e8 HH):=h8;have HB8:=(show Hid _ from hB8)
   clear hX6 hX5 hu6 hu7 h6 h7 hb5 hB6 h8 hB8 HT2;go_wp2_with fail;go_fit hg;rintro r w6 ⟨v6,rfl,hv6,hb6⟩;have hv7:=(hv6.fit (M:=5) hgb).ev (by omega)
   have hs:=jS (HS.out.below hb6) hv7 (by have:=HS.out.zl;have:=HLE.out;omega) (by omega) (by omega)
   have HB:Hid (Below w.heap.size w w6):=ae HB8.out hb6;clear hg q0 q1 q2 q3 hX8 hX9 hv6 hv2 hv5 hgb hv7 HB8;go_wp2_with fail;go_fit hs;rintro r w7 ⟨p9,n9,e9,rfl,h9,hb7⟩;clear hs;have HF:Hid (PnP (tr ((tr HH).map (((Int.gcd ((aB zs:Nat):Int) ((aB ys:Nat):Int):Nat):Int) * ·))) (5+70) w (.returned (.slice p9 n9 n9)) w7):=PnP.from ⟨p9,n9,e9,rfl,h9,hb7⟩ HB.out;clear h9 hb7;go_wp2;go_ret;exact HF.out
 ·have i3:((n2:Int)<(n5:Int))=False:=by simp;omega
  have i4:decide ((n2:Int)<(n5:Int))=false:=by simp;omega
  rcases Jw n5 with h0|h0
  ·have HH1:Hid (HH=aC zs):=HD0.out h0
   have h8:PA (w4.alloc (.cells #[.bool u5.s,.slice u5.p u5.n u5.c] 50)) 70 p2 n2 n2 es2 HH:=by rw[HH1.out];exact(h6.pa (by omega) (by omega)).up9 (by omega)
   have i5:((n2:Int)<(0:Int))=False:=by simp
   have i6:decide ((n2:Int)<(0:Int))=false:=by simp
   clear hge i3 i4;subst h0;go_upto_region 6 with fail
   generalize w4.alloc (.cells #[.bool u5.s,.slice u5.p u5.n u5.c] 50)=W4 at *
   obtain⟨q0,q1,-,-⟩:=id hX6;obtain⟨q2,q3,-,-⟩:=id hX5;have hv2:=hu6.ev (by omega)
   have hv5:=hu7.ev (by omega)
   have hgb:(((Int.gcd ((aB zs:Nat):Int) ((aB ys:Nat):Int):Nat):Int).natAbs:Int)<pw 5:=by
    have h9:=HV.out;omega
   have HS:Hid (PA W4 70 _ _ _ _ HH):=h8;have HB8:=(show Hid _ from hB6)
   have HG2:Hid (Calls Tryz.prog 74 #[.agg #[.bool u2.s,.slice u2.p u2.n u2.c],.agg #[.bool u5.s,.slice u5.p u5.n u5.c]] _ _):=lJ hv2 hv5 (by omega) (by omega)
   clear hv2 hv5 h8 hX6 hX5 hu6 hu7 h6 h7 hB6 HT2;go_wp2_with fail;go_fit HG2.out;rintro r w6 ⟨v6,rfl,hv6,hb6⟩;have hv7:=(hv6.fit (M:=5) hgb).ev (by omega)
   have hs:=jS (HS.out.below hb6) hv7 (by have:=HS.out.zl;have:=HLE.out;omega) (by omega) (by omega)
   have HB:Hid (Below w.heap.size w w6):=ae HB8.out hb6;clear HG2 q0 q1 q2 q3 hv6 hgb hv7 HB8;go_wp2_with fail;go_fit hs;rintro r w7 ⟨p9,n9,e9,rfl,h9,hb7⟩;clear hs;have HF:Hid (PnP (tr ((tr HH).map (((Int.gcd ((aB zs:Nat):Int) ((aB ys:Nat):Int):Nat):Int) * ·))) (5+70) w (.returned (.slice p9 n9 n9)) w7):=PnP.from ⟨p9,n9,e9,rfl,h9,hb7⟩ HB.out;clear h9 hb7;go_wp2;go_ret;exact HF.out
  ·have hpd:=HD.out (by omega) h0 hge _ _ p2 p5 es2 es5 _ h6 h7 HT2.out
   have i2:(0:Int)<(n5:Int):=by omega
   clear hge;go_wp2_with fail;generalize w4.alloc (.cells #[.bool u5.s,.slice u5.p u5.n u5.c] 50)=W4 at *
   refine hpd.mono ?_;rintro r w5 ⟨p8,k8,e8,rfl,h8,hb5⟩;have hX8:=hX6.later hb5;have hX9:=hX5.later hb5;obtain⟨q0,q1,-,-⟩:=id hX8;obtain⟨q2,q3,-,-⟩:=id hX9;have hv2:=(hu6.below hb5).ev (by omega)
   have hv5:=(hu7.below hb5).ev (by omega)
   have hg:=lJ hv2 hv5 (by omega) (by omega)
   have hB8:=ae hB6 hb5;have hgb:(((Int.gcd ((aB zs:Nat):Int) ((aB ys:Nat):Int):Nat):Int).natAbs:Int)<pw 5:=by
    have h9:=HV.out;omega
   have HS:Hid (PA w5 70 p8 k8 k8 e8 HH):=h8;have HB8:=(show Hid _ from hB8)
   clear hX6 hX5 hu6 hu7 h6 h7 hb5 hB6 h8 hB8 HT2;go_wp2_with fail;go_fit hg;rintro r w6 ⟨v6,rfl,hv6,hb6⟩;have hv7:=(hv6.fit (M:=5) hgb).ev (by omega)
   have hs:=jS (HS.out.below hb6) hv7 (by have:=HS.out.zl;have:=HLE.out;omega) (by omega) (by omega)
   have HB:Hid (Below w.heap.size w w6):=ae HB8.out hb6;clear hg q0 q1 q2 q3 hX8 hX9 hv6 hv2 hv5 hgb hv7 HB8;go_wp2_with fail;go_fit hs;rintro r w7 ⟨p9,n9,e9,rfl,h9,hb7⟩;clear hs;have HF:Hid (PnP (tr ((tr HH).map (((Int.gcd ((aB zs:Nat):Int) ((aB ys:Nat):Int):Nat):Int) * ·))) (5+70) w (.returned (.slice p9 n9 n9)) w7):=PnP.from ⟨p9,n9,e9,rfl,h9,hb7⟩ HB.out;clear h9 hb7;go_wp2;go_ret;exact HF.out
end Go.Proofs.YtdjjlghlcffflaaGreatDoor
namespace Go.Proofs.YtdjjlghlcffflaaGreatDoor.Md
open Go.Proofs.YtdjjlghlcffflaaGreatDoor
theorem zP(l:List Int):∃s,∀t,(gx l t).natAbs<=2^s:=⟨pb l,fun t=>by
 rcases Ju t l.length with h|h
 ·have h1:=(lC (gx l t)).2.1
  have h2:(2:Int)^zb (gx l t)<=2^pb l:=eQ (FN l t h);have h3:(((2:Nat)^pb l:Nat):Int)=(2:Int)^pb l:=by rw[Int.natCast_pow];rfl
  omega
 ·rw[ak l _ (Jr _) t h]
  exact Jz _⟩
variable {x:Int} {K:Nat}
theorem x_(h:zb x<=K):x.natAbs<=2^K:=by
 have h1:=(lC x).2.1;have h2:(2:Int)^zb x<=2^K:=eQ h;have h3:(((2:Nat)^K:Nat):Int)=(2:Int)^K:=by rw[Int.natCast_pow];rfl
 omega
variable {z:Int}
theorem ya(h:(z.natAbs:Int)<pw K):zb z<=32*K:=by
 refine nG ?_;have h3:(2:Int)^(32*K)=pw K:=by rw[Int.pow_mul];rfl
 rw[h3];exact h
structure Two(x y H:List Int):Prop where
 n0:0<x.length
 m0:0<y.length
 hF:HF H
 st:GSt H (aC x) (aC y)
 PA:Gs.Prm (aC x)
 PB:Gs.Prm (aC y)
 tA:0<gx (aC x) (x.length-1)
 tB:0<gx (aC y) (y.length-1)
 lA:H.length<=x.length
 lB:H.length<=y.length
 ex:∃(a b:List Int) (R u:Int),GG (aC x) (aC y) H a b/\R≠0/\R.natAbs<=2^rb/\(∀I,Idl 0 I->I (gx a)->I (gx b)->I (cst R))/\((Int.gcd (gx (aC x) (x.length-1)) (gx (aC y) (y.length-1)):Nat):Int)=gx H (H.length-1)*u/\∀t,(u*gx H t).natAbs<=2^(160+gm)
variable {X Y Z:List Int}
theorem I2{x y:List Int}(hX:ad X<=5)(hY:ad Y<=5)(xb:∀t,((gx X t).natAbs:Int)<pw 2)(yb:∀t,((gx Y t).natAbs:Int)<pw 2)(hx:∀t,gx x t=gx (ax X Z) t)(hy:∀t,gx y t=gx (ax Y Z) t)
  (tx:ad x=x.length) (ty:ad y=y.length) (x0:0<x.length) (y0:0<y.length) (lx:x.length<=8) (ly:y.length<=8) (bx:∀t,((gx x t).natAbs:Int)<pw 5) (bY:∀t,((gx y t).natAbs:Int)<pw 5):∃H,Two x y H:=by
 obtain⟨s1,s2,s3,s4,s5,s6⟩:=c9 tx x0;obtain⟨v1,v2,v3,v4,v5,v6⟩:=c9 ty y0;obtain⟨H,a,b,G⟩:=DL s1 v1;have cX:∀t,prd x*gx (aC x) t=cvf (gx X) (gx Z) t:=fun t=>by rw[<-s6,hx,Sk.ao,b9]
 have cY:∀t,prd y*gx (aC y) t=cvf (gx Y) (gx Z) t:=fun t=>by rw[<-v6,hy,Sk.ao,b9]
 have nzero:∀{U W:List Int},0<ad W->(∀t,gx W t=gx (ax U Z) t)->0<ad U/\0<ad Z:=fun {U W} h1 h2=>by
  have h3:=aw W h1;rw[h2,Sk.ao] at h3
  refine⟨Nat.pos_of_ne_zero fun h4=>h3 (Sk.ji (fun i=>az U i (by omega)) _ _),Nat.pos_of_ne_zero fun h4=>h3 (Sk.Ad (fun i=>az Z i (by omega)) _ _)⟩
 obtain⟨X0,Z0⟩:=nzero (by omega) hx
 obtain⟨Y0,-⟩:=nzero (by omega) hy
 have pb0:=cM G.bP;obtain⟨sa,ha⟩:=zP a;obtain⟨sb,hb⟩:=zP b;obtain⟨R0,r0,-,r2⟩:=bez (ad b-1) (ad a) (ad b-1) sa sb (gx a) (gx b) (Jr _) (fun t ht=>az a t (by omega)) (fun t ht=>az b t (by omega)) (aw b pb0) ha hb G.cop
 have qZ:QM (gx Z) (gx H):=tC G.hA G.hB r0 r2 ⟨prd x,gx X,X.length,s5,fun t ht=>ak X _ (Jr _) t ht,cX⟩ ⟨prd y,gx Y,Y.length,v5,fun t ht=>ak Y _ (Jr _) t ht,cY⟩
 obtain⟨a72,ta5⟩:=wa (yW cX G.hA G.aP Z0 qZ) X0 hX fun t=>ya (xb t)
 obtain⟨b72,tb5⟩:=wa (yW cY G.hB G.bP Z0 qZ) Y0 hY fun t=>ya (yb t)
 obtain⟨R,R1,R2,R3⟩:=F3 a72 b72 ta5 tb5 pb0 G.cop;have lB:H.length<=y.length:=by
  have:=G.len (by rw[v3];exact y0)
  omega
 have lA:H.length<=x.length:=by
  have:=G.swap.len (by rw[s3];exact x0)
  omega
 have hpos:=cM G.hP;have hl:=G.hl;have less:∀{z:List Int} {c e:Int},c≠0->e=c*e->True:=fun _ _=>trivial
 have Ab:∀t,((gx (aC x) t).natAbs:Int)<pw 5:=fun t=>by
  have h1:=bx t;rw[s6,Int.natAbs_mul] at h1
  have h2:1*(gx (aC x) t).natAbs<=(prd x).natAbs*(gx (aC x) t).natAbs:=Nat.mul_le_mul_right _ (by omega)
  omega
 have Hb:∀t,(gx H t).natAbs<=2^gm:=fun t=>by
  have h1:=qQ (F:=aC x) (a:=H) (q:=a) (fun t=>by rw[G.hA,b9,Sk.ao]) (by omega) (by omega) t
  have h2:pb (tr (aC x))<=160:=xk fun t=>by rw[aN];exact ya (Ab t)
  have h3:∀n,n<=8->Lib.bitLen n<=4:=by decide
  have h4:=h3 (ad (aC x)) (by omega)
  exact x_ (by unfold gm;omega)
 have hFH:HF H:=⟨hl,G.h0,G.hP,by omega,Hb⟩
 obtain⟨g,hg⟩:∃g,H.length=g+1:=⟨H.length-1,by omega⟩
 have hH0:=G.h0;rw[hg,JD] at hH0
 have pa0:=cM G.aP;have ld:∀{c W:List Int},(∀t,gx W t=cvf (gx c) (gx H) t)->0<ad c->ad W=ad c+g/\gx W (ad W-1)=gx c (ad c-1)*gx H g:=fun {c W} hW hc=>by
  have h1:=jT (r:=gx c) (h:=gx H) (d:=ad c-1) (g:=g) (fun t ht=>az c t (by omega)) (fun t ht=>ak H (g+1) (by omega) t (by omega))
  have h2:=aX W (ad c+g) (fun j hj=>by rw[hW,qM (d:=ad c-1) (g:=g) (fun t ht=>az c t (by omega)) (fun t ht=>ak H (g+1) (by omega) t (by omega)) j (by omega)]) (.inr (by
   rw[show ad c+g-1=ad c-1+g by omega,hW,h1]
   exact Int.mul_ne_zero (aw c hc) (by omega)))
  exact⟨h2,by rw[h2,show ad c+g-1=ad c-1+g by omega,hW,h1]⟩
 obtain⟨la1,la2⟩:=ld G.hA pa0;obtain⟨lb1,lb2⟩:=ld G.hB pb0;rw[s3] at la2
 rw[v3] at lb2
 obtain⟨u,hu⟩:gx H g∣((Int.gcd (gx (aC x) (x.length-1)) (gx (aC y) (y.length-1)):Nat):Int):=Int.dvd_coe_gcd (by rw[la2];exact Int.dvd_mul_left _ _) (by rw[lb2];exact Int.dvd_mul_left _ _)
 have hub:u.natAbs<=2^160:=by
  have h1:Int.gcd (gx (aC x) (x.length-1)) (gx (aC y) (y.length-1))<=(gx (aC x) (x.length-1)).natAbs:=Nat.le_of_dvd (by omega) (Int.gcd_dvd_natAbs_left _ _)
  have h2:=Ab (x.length-1);have h4:pw 5=((2^160:Nat):Int):=by decide
  rw[h4] at h2
  have h3:=congrArg Int.natAbs hu;rw[Int.natAbs_natCast,Int.natAbs_mul] at h3
  have h5:1*u.natAbs<=(gx H g).natAbs*u.natAbs:=Nat.mul_le_mul_right _ (by omega)
  omega
 have bt:0<gx b (ad b-1):=by
  rw[lb2] at v2
  rcases Int.lt_trichotomy (gx b (ad b-1)) 0 with h1|h1|h1
  ·have:=Int.mul_neg_of_neg_of_pos h1 hH0
   omega
  ·rw[h1,Int.zero_mul] at v2;omega
  ·exact h1
 refine⟨H,x0,y0,hFH,.inr (.inr ⟨by rw[s4];exact x0,by rw[v4];exact y0,tr a,tr b,72,72,7,⟨?_,?_,?_,?_,?_,?_,?_,?_,?_,?_⟩,?_⟩),s1,v1,s2,v2,lA,lB,a,b,R,u,G,R1,R2,R3,by rw[hg,JD];exact hu,fun t=>?_⟩
 ·intro t
  rw[G.hA,show gx (tr a)=gx a from funext fun i=>aN a i]
 ·intro t
  rw[G.hB,show gx (tr b)=gx b from funext fun i=>aN b i]
 ·exact sJ (s:=1) G.bP fun t=>by rw[aN,Int.one_mul]
 ·rw[aM,af]
 ·rw[aM,af]
 ·rw[af];exact pa0
 ·rw[af,aN];exact bt
 ·rw[show gx (tr a)=gx a from funext fun i=>aN a i,show gx (tr b)=gx b from funext fun i=>aN b i];exact G.cop
 ·intro t;rw[aN];exact a72 t
 ·intro t;rw[aN];exact b72 t
 ·rw[af,af];exact Du _ (by omega) _ (by omega)
 ·rw[Int.natAbs_mul,Nat.pow_add]
  exact Nat.mul_le_mul hub (Hb t)
end Go.Proofs.YtdjjlghlcffflaaGreatDoor.Md
namespace Go.Proofs.YtdjjlghlcffflaaGreatDoor
open Go.RowKit
variable {W:World} {N M n nc:Nat} {p:Option Addr} {es:List Ent} {zs:List Int}
theorem PR.FK(h:PR W N p n nc es zs)(hM:N<=M):PR W M p n nc es zs:=⟨h.el,h.zl,h.cap,h.bnd,h.pl,fun j hj=>(h.ev j hj).wide hM⟩
structure LwF(x y H:List Int):Prop where
 tH:ad H=H.length
 l12:H.length<=12
 st:GSt H (aC x) (aC y)
 hF:0<y.length->HF H
 y0:y.length=0->H=aC x
 x0:x.length=0->1<=y.length->H=aC y
 two:1<=x.length->1<=y.length->Md.Two x y H
variable {X Y Z:List Int}
theorem B_{x y:List Int}(hX:ad X<=5)(hY:ad Y<=5)(xb:∀t,((gx X t).natAbs:Int)<pw 2)(yb:∀t,((gx Y t).natAbs:Int)<pw 2)(hx:∀t,gx x t=gx (ax X Z) t)(hy:∀t,gx y t=gx (ax Y Z) t)
  (tx:ad x=x.length) (ty:ad y=y.length) (lx:x.length<=8) (ly:y.length<=8) (bx:∀t,((gx x t).natAbs:Int)<pw 5) (bY:∀t,((gx y t).natAbs:Int)<pw 5):∃H,LwF x y H:=by
 have e0:∀z:List Int,z.length=0->aC z=[]:=fun z h=>by rw[JB h];rfl
 rcases Jw y.length with h1|h1
 ·have hl:ad (aC x)=(aC x).length/\(aC x).length<=12:=by
   rcases Jw x.length with h2|h2
   ·rw[e0 x h2];exact⟨rfl,by decide⟩
   ·obtain⟨s1,s2,s3,s4,s5,s6⟩:=Md.c9 tx h2
    exact⟨by omega,by omega⟩
  exact⟨aC x,hl.1,hl.2,.inl ⟨by rw[e0 y h1];rfl,rfl⟩,fun h=>by omega,fun _=>rfl,fun _ h=>by omega,fun _ h=>by omega⟩
 ·rcases Jw x.length with h2|h2
  ·obtain⟨s1,s2,s3,s4,s5,s6⟩:=Md.c9 ty h1
   refine⟨aC y,by omega,by omega,.inr (.inl ⟨by rw[e0 x h2];rfl,by omega,rfl⟩),fun _=>⟨by omega,by rw[s4];exact s2,s1,by omega,fun t=>?_⟩,fun h=>by omega,fun _ _=>rfl,fun h=>by omega⟩
   have h3:=bY t;rw[s6,Int.natAbs_mul] at h3
   have h4:1*(gx (aC y) t).natAbs<=(prd y).natAbs*(gx (aC y) t).natAbs:=Nat.mul_le_mul_right _ (by omega)
   have h5:pw 5=((2^160:Nat):Int):=by decide
   rw[h5] at h3
   have h6:(2:Nat)^160<=2^Md.gm:=Nat.pow_le_pow_right (by decide) (by decide)
   omega
  ·obtain⟨H,T⟩:=Md.I2 hX hY xb yb hx hy tx ty h2 h1 lx ly bx bY
   exact⟨H,T.hF.hl,by have:=T.hF.h8;omega,T.st,fun _=>T.hF,fun h=>by omega,fun h=>by omega,fun _ _=>T⟩
end Go.Proofs.YtdjjlghlcffflaaGreatDoor
namespace Go.Proofs.YtdjjlghlcffflaaGreatDoor.Md
open Go.Proofs.YtdjjlghlcffflaaGreatDoor
def gcr(x y H:List Int):List Int:=tr (H.map (((Int.gcd ((aB x:Nat):Int) ((aB y:Nat):Int):Nat):Int) * ·))
theorem fV(x y H:List Int)(t:Nat):gx (gcr x y H) t=((Int.gcd ((aB x:Nat):Int) ((aB y:Nat):Int):Nat):Int)*gx H t:=by
 unfold gcr;rw[aN,Gs.eM _ (JC _)]
theorem BZ(k:Int)(l:List Int)(t:Nat):gx (l.map (k * ·)) t=k*gx l t:=Gs.eM _ (JC k) l t
theorem mY(k:Int)(a b:List Int)(t:Nat):gx (ax (a.map (k * ·)) b) t=k*gx (ax a b) t:=by
 rw[Sk.ao,Sk.ao,<-b9,<-b9,<-eY];unfold cvf;refine Cp.cU _ fun i _=>?_
 show gx (a.map (k * ·)) i*_=(k*gx a i)*_
 rw[BZ]
variable {a b:List Int} {c:Int}
theorem kY{z:List Int}(hz:∀t,gx z t=c*gx b t)(t:Nat):gx (ax a z) t=c*gx (ax a b) t:=by
 rw[Sk.ao,Sk.ao,Sk.a_ (a:=gx a) (b:=gx a) (g:=gx z) (h:=fun i=>c*gx b i+0*gx b i) (fun _=>rfl) (fun i=>by rw[hz i];omega),Sk.tD]
 omega
variable {H:List Int}
theorem zk{x y:List Int}(h:LwF x y H):(0<x.length->Dvd (aC x) H)/\(0<y.length->Dvd (aC y) H):=by
 rcases Jw x.length with h1|h1
 ·refine⟨fun h2=>by omega,fun h2=>?_⟩
  rw[h.x0 h1 h2];exact mK _
 ·rcases Jw y.length with h2|h2
  ·refine⟨fun _=>?_,fun h3=>by omega⟩
   rw[h.y0 h2];exact mK _
  ·obtain⟨a,b,R,u,G,-⟩:=(h.two h1 h2).ex
   exact⟨fun _=>G.dvd.1,fun _=>G.dvd.2⟩
theorem y6{x z:List Int}(h:∀t,gx x t=0):Dvd x z:=⟨[],fun t=>by rw[h t,Sk.ao,Sk.ji fun i=>Sk.cS i]⟩
theorem ze{x:List Int}(tx:ad x=x.length)(hd:0<x.length->Dvd (aC x) H)(hc:c∣((aB x:Nat):Int)){z:List Int}(hz:∀t,gx z t=c*gx H t):Dvd x z:=by
 rcases Jw x.length with h1|h1
 ·exact y6 fun t=>ak x 0 (by omega) t (Jz _)
 ·obtain⟨q,hq⟩:=hd h1
  obtain⟨s1,s2,s3,s4,s5,s6⟩:=c9 tx h1;have h2:c∣prd x:=by
   unfold prd;split
   ·exact Int.dvd_neg.2 hc
   ·exact hc
  obtain⟨k,hk⟩:=h2;refine⟨q.map (k * ·),fun t=>?_⟩
  rw[mY,kY hz,s6 t,hq t,hk,JG,JH]
theorem tO{x y:List Int}(h:LwF x y H)(tx:ad x=x.length)(ty:ad y=y.length):Dvd x (gcr x y H)/\Dvd y (gcr x y H):=
 ⟨ze tx (zk h).1 (Int.gcd_dvd_left ..) (fV x y H),ze ty (zk h).2 (Int.gcd_dvd_right ..) (fV x y H)⟩
variable {X Y Z:List Int}
theorem DN{x y:List Int}(h:LwF x y H)(tx:ad x=x.length)(ty:ad y=y.length)(hx:∀t,gx x t=gx (ax X Z) t)(hy:∀t,gx y t=gx (ax Y Z) t)(Z0:0<ad Z):Dvd (gcr x y H) Z:=by
 have zl:ad (tr Z)=(tr Z).length:=by rw[aM,af]
 obtain⟨z1,z2,z3,z4,z5,z6⟩:=c9 zl (by rw[af];exact Z0)
 have hZ:∀t,gx Z t=prd (tr Z)*gx (aC (tr Z)) t:=fun t=>by rw[<-aN Z t,z6]
 have qm:∀{w W:List Int},ad w=w.length->0<w.length->(∀t,gx w t=gx (ax W Z) t)->QM (gx Z) (gx (aC w)):=fun {w W} tw w0 hw=>by
  obtain⟨s1,s2,s3,s4,s5,s6⟩:=c9 tw w0;exact⟨prd w,gx W,W.length,s5,fun t ht=>ak W _ (Jr _) t ht,fun t=>by rw[<-s6,hw,Sk.ao,b9]⟩
 rcases Jw H.length with h0|h0
 ·exact y6 fun t=>by rw[fV,ak H 0 (by omega) t (Jz _),JC]
 ·have hq:QM (gx Z) (gx H):=by
   rcases Jw y.length with h2|h2
   ·have e:=h.y0 h2
    have x0:0<x.length:=by rw[e,cW,List.length_map] at h0;exact h0
    rw[e];exact qm tx x0 hx
   ·rcases Jw x.length with h1|h1
    ·rw[h.x0 h1 h2]
     exact qm ty h2 hy
    ·obtain⟨a,b,R,u,G,r1,-,r3,-⟩:=(h.two h1 h2).ex
     exact tC G.hA G.hB r1 r3 (qm tx h1 hx) (qm ty h2 hy)
  obtain⟨q,hqq⟩:=kS z1 hZ hq;have hc:∀{w W:List Int},(∀t,gx w t=gx (ax W Z) t)->prd (tr Z)∣((aB w:Nat):Int):=fun {w W} hw=>by
   have h1:∀t,prd (tr Z)∣gx w t:=fun t=>by
    rw[hw,Sk.ao,<-b9];exact Cp.fB _ fun i _=>Int.dvd_mul_of_dvd_right (by rw[hZ];exact Int.dvd_mul_right _ _)
   have h2:=kj h1 w.length (Jr _);rwa [List.take_length] at h2
  obtain⟨k,hk⟩:=Int.dvd_coe_gcd (hc hx) (hc hy);refine⟨q.map (k * ·),fun t=>?_⟩
  rw[fV,hk,hqq t,mY,kY hZ,JG,JH]
theorem As{h x z:List Int}(hx:∀t,gx x t=gx (ax X Z) t)(hz:∀t,gx z t=gx (ax h Z) t)(Z0:0<ad Z)(hd:Dvd x z):Dvd X h:=by
 obtain⟨s,hs⟩:=hd;refine⟨s,?_⟩;obtain⟨m,hm⟩:∃m,ad Z=m+1:=⟨ad Z-1,by omega⟩
 have htop:gx (tr Z) m≠0:=by
  have:=aw Z Z0;rwa [hm,JD,<-aN Z m] at this
 obtain⟨D,hD⟩:∃D:List Int,∀t,gx D t=1*gx X t+(-1)*gx (ax s h) t:=⟨Sk.lof (X.length+(ax s h).length) fun t=>1*gx X t+(-1)*gx (ax s h) t,Sk.BX _ _ fun t ht=>by
  rw[ak X _ (Jr _) t (by omega),ak (ax s h) _ (Jr _) t (by omega)];omega⟩
 have hz0:∀t,gx (ax D (tr Z)) t=0:=fun t=>by
  have e1:Sk.cv (gx (ax s h)) (gx Z) t=gx x t:=by
   rw[hs t,Sk.ao,Sk.a_ (a:=gx s) (b:=gx s) (g:=gx z) (h:=Sk.cv (gx h) (gx Z)) (fun _=>rfl) (fun i=>by rw[hz i,Sk.ao]),Sk.kg]
   exact Sk.a_ (fun i=>Sk.ao s h i) (fun _=>rfl) t
  rw[Sk.ao,Sk.a_ hD (fun i=>aN Z i),Sk.iM,e1,hx t,Sk.ao]
  omega
 have hD0:=jD (by rw[af,hm]) htop hz0
 intro t;have h1:=hD t;rw[az D t (by omega)] at h1
 omega
structure GL(yss:List (List Int))(n:Nat)(gl Hl:Nat->List Int):Prop where
 z:gl 0=[]
 s:∀i,i<n->LwF (gl i) (gt yss i) (Hl i)/\gl (i+1)=gcr (gl i) (gt yss i) (Hl i)
 t:∀i,i<=n->ad (gl i)=(gl i).length/\(gl i).length<=8/\∀t,((gx (gl i) t).natAbs:Int)<pw 4
theorem gk{h:List Int}(hd:Dvd X h)(h0:0<ad X):ad h<=ad X/\0<ad h:=by
 obtain⟨q,hq⟩:=hd;have h1:0<ad h:=by
  rcases Jw (ad h) with h1|h1
  ·exfalso
   have h2:=aw X h0;rw[hq,Sk.ao,Sk.Ad fun i=>az h i (by omega)] at h2
   exact h2 rfl
  ·exact h1
 obtain⟨m,hm⟩:∃m,ad h=m+1:=⟨ad h-1,by omega⟩
 have htop:gx (tr h) m≠0:=by
  have:=aw h h1;rwa [hm,JD,<-aN h m] at this
 have h2:∀t,gx X t=gx (ax q (tr h)) t:=fun t=>by
  rw[hq t,Sk.ao,Sk.ao];exact Sk.a_ (fun _=>rfl) (fun i=>(aN h i).symm) t
 rcases dV (by rw[af,hm]) htop h2 with h3|⟨c,h3,h4,-⟩
 ·omega
 ·exact⟨by omega,h1⟩
theorem D8{x h:List Int}(hx:∀t,gx x t=gx (ax h Z) t):ad x<=ad h+ad Z-1:=by
 refine fC fun t ht=>?_
 rw[hx,Sk.ao,<-b9];unfold cvf;refine fM _ fun i _=>?_
 show gx h i*gx Z (t-i)=0
 rcases Ju i (ad h) with h1|h1
 ·rcases Jw (ad Z) with h2|h2
  ·rw[az Z _ (by omega),JC]
  ·rw[az Z _ (by omega),JC]
 ·rw[az h i h1,Int.zero_mul]
variable {yss:List (List Int)} {N:Nat}
theorem FB{ass:List (List Int)}(Z0:0<ad Z)(Z3:Z.length<=3)(Zb:∀t,zb (gx Z t)<=32)(hN:N<=6)(hy:∀i,i<N->∀t,gx (gt yss i) t=gx (ax (gt ass i) Z) t)(ty:∀i,i<N->ad (gt yss i)=(gt yss i).length)(ly:∀i,i<N->(gt yss i).length<=8)(yb:∀i,i<N->∀t,((gx (gt yss i) t).natAbs:Int)<pw 5)(ta:∀i,i<N->ad (gt ass i)<=3)(ab:∀i,i<N->∀t,zb (gx (gt ass i) t)<=32):
  ∀n,n<=N->∃(gl Hl:Nat->List Int) (h:List Int),GL yss n gl Hl/\(∀t,gx (gl n) t=gx (ax h Z) t)/\ad h<=3/\∀t,zb (gx h t)<=32+5*n
 |0,_=>⟨fun _=>[],fun _=>[],[],⟨rfl,fun i hi=>by omega,fun i hi=>⟨rfl,by decide,fun t=>by simpa [gx] using bu 4⟩⟩,fun t=>by rw[Sk.ao,Sk.ji fun i=>Sk.cS i,Sk.cS],by decide,fun t=>by rw[Sk.cS,pY];omega⟩
 |n+1,hn=>by
  obtain⟨gl,Hl,h,hG,hg,h3,hb⟩:=FB Z0 Z3 Zb hN hy ty ly yb ta ab n (by omega)
  obtain⟨g1,g2,g3⟩:=hG.t n (Jr _);have b2:∀{z:Int},zb z<=64->((z.natAbs:Int)<pw 2):=fun {z} hz=>Ba hz (by decide)
  obtain⟨H,LW⟩:=B_ (X:=h) (Y:=gt ass n) (Z:=Z) (x:=gl n) (y:=gt yss n) (by omega) (by have:=ta n (by omega);omega) (fun t=>b2 (by have:=hb t;omega)) (fun t=>b2 (by have:=ab n (by omega) t;omega)) hg (hy n (by omega)) g1 (ty n (by omega)) g2 (ly n (by omega)) (fun t=>Int.lt_of_lt_of_le (g3 t) (aW (by decide))) (yb n (by omega))
  obtain⟨h',hh'⟩:=DN LW g1 (ty n (by omega)) hg (hy n (by omega)) Z0
  obtain⟨d1,d2⟩:=tO LW g1 (ty n (by omega))
  have size:∀{X x:List Int},(∀t,gx x t=gx (ax X Z) t)->Dvd x (gcr (gl n) (gt yss n) H)->0<ad X->ad X<=3->(∀t,zb (gx X t)<=32+5*n)->ad h'<=3/\∀t,zb (gx h' t)<=32+5*(n+1):=fun {X x} hx hd hX h3 hXb=>by
   have hc:=As hx hh' Z0 hd;obtain⟨e1,e2⟩:=gk hc hX;obtain⟨q,hq⟩:=hc;refine⟨by omega,fun t=>?_⟩
   have f1:=qQ hq hX (by omega) t
   have f2:pb (tr X)<=32+5*n:=xk fun t=>by rw[aN];exact hXb t
   have f3:∀n,n<=3->Lib.bitLen n<=2:=by decide
   have f4:=f3 (ad X) h3;omega
  have hsz:ad h'<=3/\∀t,zb (gx h' t)<=32+5*(n+1):=by
   rcases Jw (ad h) with e1|e1
   ·rcases Jw (ad (gt ass n)) with e2|e2
    ·have z0:∀t,gx (gl n) t=0:=fun t=>by rw[hg,Sk.ao,Sk.ji fun i=>az h i (by omega)]
     have z1:∀t,gx (gt yss n) t=0:=fun t=>by rw[hy n (by omega),Sk.ao,Sk.ji fun i=>az (gt ass n) i (by omega)]
     have l0:(gl n).length=0:=by
      have:=fC (k:=0) fun t _=>z0 t
      omega
     have l1:(gt yss n).length=0:=by
      have:=fC (k:=0) fun t _=>z1 t
      have:=ty n (by omega)
      omega
     have hH:H=[]:=by rw[LW.y0 l1,cW,JB l0];rfl
     have hz:∀t,gx (gcr (gl n) (gt yss n) H) t=0:=fun t=>by rw[fV,hH,Sk.cS,JC]
     obtain⟨m,hm⟩:∃m,ad Z=m+1:=⟨ad Z-1,by omega⟩
     have htop:gx (tr Z) m≠0:=by
      have:=aw Z Z0;rwa [hm,JD,<-aN Z m] at this
     have hh0:=jD (p:=h') (ys:=tr Z) (by rw[af,hm]) htop fun t=>by
      rw[<-hz t,hh' t,Sk.ao,Sk.ao];exact Sk.a_ (fun _=>rfl) (fun i=>aN Z i) t
     exact⟨by omega,fun t=>by rw[az h' t (by omega),pY];omega⟩
    ·exact size (hy n (by omega)) d2 e2 (ta n (by omega)) fun t=>by have:=ab n (by omega) t;omega
   ·exact size hg d1 e1 h3 hb
  have hgt:ad (gcr (gl n) (gt yss n) H)=(gcr (gl n) (gt yss n) H).length:=by unfold gcr;rw[aM,af]
  have hlen:(gcr (gl n) (gt yss n) H).length<=8:=by
   have e1:=D8 hh';have e2:=aj Z;omega
  have hbd:∀t,((gx (gcr (gl n) (gt yss n) H) t).natAbs:Int)<pw 4:=fun t=>by
   have e1:=rY (r:=gx h') (H:=Z) (x:=32+5*(n+1)) (y:=32) (fun t=>x_ (hsz.2 t)) (fun t=>x_ (Zb t)) (by omega) t
   rw[hh' t,Sk.ao,<-b9];exact mV e1 (by omega)
  refine⟨fun i=>if i<=n then gl i else gcr (gl n) (gt yss n) H,fun i=>if i<n then Hl i else H,h',⟨?_,fun i hi=>?_,fun i hi=>?_⟩,fun t=>?_,hsz.1,hsz.2⟩
  ·show(if 0<=n then gl 0 else _)=[]
   rw[if_pos (Jz _)];exact hG.z
  ·show LwF (if i<=n then gl i else _) _ (if i<n then Hl i else H)/\(if i+1<=n then gl (i+1) else _)=gcr (if i<=n then gl i else _) _ (if i<n then Hl i else H)
   rw[if_pos (show i<=n by omega)]
   rcases Ju i n with e1|e1
   ·rw[if_pos e1,if_pos (show i+1<=n by omega)]
    exact hG.s i e1
   ·obtain rfl:i=n:=by omega
    rw[if_neg (by omega),if_neg (by omega)]
    exact⟨LW,rfl⟩
  ·show ad (if i<=n then gl i else _)=_/\_
   by_cases e1:i<=n
   ·simp only[if_pos e1]
    exact hG.t i e1
   ·simp only[if_neg e1]
    exact⟨hgt,hlen,hbd⟩
  ·show gx (if n+1<=n then gl (n+1) else _) t=_
   rw[if_neg (by omega)]
   exact hh' t
end Go.Proofs.YtdjjlghlcffflaaGreatDoor.Md
namespace Go.Proofs.YtdjjlghlcffflaaGreatDoor
open Go.RowKit
variable {w:World} {p q:Option Addr} {n nc m mc:Nat} {es fs:List Ent} {H:List Int}
theorem G9{x y:List Int}(LW:LwF x y H)(h:PA w 5 p n nc es x)(k:PA w 5 q m mc fs y)(tx:ad x=n)(ty:ad y=m)(hn:n<=12)(hm:m<=12)(hT:TzT w):
  Calls Tryz.prog 33 #[.slice p n nc,.slice q m mc] w (PnP (Md.gcr x y H) (5+70) w):=by
 have lxn:=h.zl;have lyn:=k.zl;have hgc:=E9 (HH:=H) h k tx ty hn hm LW.l12 hT
  (fun h1 h2 h3 B C p q es fs v hp hq hTv=>by
   have T:=LW.two (by omega) (by omega)
   obtain⟨a,b,R,u,G,r1,r2,r3,r4,r5⟩:=T.ex;rw[lxn,lyn] at r4
   exact nL hp hq h2 h3 (by omega) G T.PA T.PB (by have:=T.tB;rwa [lyn] at this) (by have:=T.lB;omega) r1 r2 r3 r4 (by decide) r5 hTv)
  (fun h1 h2 h3 B C p q es fs v hp hq hTv=>by
   have T:=LW.two (by omega) (by omega)
   obtain⟨a,b,R,u,G,r1,r2,r3,r4,r5⟩:=T.ex;rw[lxn,lyn,Int.gcd_comm] at r4
   exact nL hp hq h1 (by omega) (by omega) G.swap T.PB T.PA (by have:=T.tA;rwa [lxn] at this) (by have:=T.lA;omega) r1 r2 (fun I hI i1 i2=>r3 I hI i2 i1) r4 (by decide) r5 hTv)
  (fun h1=>LW.y0 (by omega)) (fun h1 h2=>LW.x0 (by omega) (by omega))
 rw[je LW.tH] at hgc
 exact hgc
theorem GN{x y:List Int}(LW:LwF x y H)(h:PR w 170 p n n es x)(k:PR w 170 q m m fs y)(tx:ad x=n)(ty:ad y=m)(hn:n<=12)(hm:m<=12):
  Calls Tryz.prog 43 #[.slice p n n,.slice q m m] w (PrP (Md.gcr x y H) 341 w):=
 CQ h k tx ty hn hm LW.st fun h1=>LW.hF (by have:=k.zl;omega)
theorem DO{y:List Int}(h:LwF [1] y H)(ty:ad y=y.length):Md.gcr [1] y H=[1]:=by
 obtain⟨d1,-⟩:=Md.tO h rfl ty;obtain⟨e1,e2⟩:=Md.gk d1 (by decide)
 have e3:ad (Md.gcr [1] y H)=(Md.gcr [1] y H).length:=by unfold Md.gcr;rw[aM,af]
 have e4:ad ([1]:List Int)=1:=rfl;obtain⟨r,hr⟩:=List.length_eq_one_iff.1 (show(Md.gcr [1] y H).length=1 by omega)
 obtain⟨q,hq⟩:=d1;have h0:=hq 0;rw[hr,Sk.ao,<-Md.b9] at h0
 have h1:gx q 0*r=1:=by
  have:Md.cvf (gx q) (gx [r]) 0=gx q 0*r:=by simp[Md.cvf,Cp.su,gx]
  rw[this] at h0
  exact h0.symm
 have h2:r.natAbs=1:=by
  have:=congrArg Int.natAbs h1;rw[Int.natAbs_mul] at this
  exact Nat.dvd_one.1 ⟨(gx q 0).natAbs,by rw[Nat.mul_comm];exact this.symm⟩
 have h3:=Md.fV [1] y H 0;rw[hr] at h3
 have h4:gx [r] 0=r:=rfl;rw[h4] at h3
 generalize hc:Int.gcd ((aB [1]:Nat):Int) ((aB y:Nat):Int)=c at h3
 have hHp:0<gx H 0:=by
  rcases Jw y.length with h5|h5
  ·rw[h.y0 h5]
   exact(Md.c9 (zs:=[1]) rfl (by decide)).2.1
  ·have hF:=h.hF h5
   have h6:ad H<=1:=fC fun t ht=>by
    have h7:=Md.fV [1] y H t;rw[hr,ak [r] 1 (by simp) t ht,hc] at h7
    rcases Int.mul_eq_zero.1 h7.symm with h8|h8
    ·exfalso
     rw[h8,Int.zero_mul] at h3
     omega
    ·exact h8
   have h7:=hF.pos;have h8:=hF.h0;have h9:=hF.hl;rwa [show H.length-1=0 by omega] at h8
 have h10:0<=r:=by
  rw[h3];exact JJ (by omega) (by omega)
 rw[hr];congr 1;omega
variable {yss:List (List Int)} {j:Nat}
theorem Md.GL.ones{gl Hl:Nat->List Int}(h:Md.GL yss n gl Hl)(ty:∀i,i<n->ad (gt yss i)=(gt yss i).length)(hj:gl j=[1]):∀i,j+i<=n->gl (j+i)=[1]
 |0,_=>hj
 |i+1,hi=>by
  have ih:=h.ones ty hj i (by omega)
  obtain⟨LW,e⟩:=h.s (j+i) (by omega)
  rw[<-Nat.add_assoc,e];rw[ih] at LW ⊢
  exact DO LW (ty _ (by omega))
structure CtI(w wr:World)(gl:Nat->List Int)(i:Nat)(p:Option Addr)(k:Nat)(es:List Ent)(po:Option Addr)(ko:Nat)(eo:List Ent):Prop where
 g:PN 0 wr (5+70) p k es (gl i)
 one:PA wr 4 po ko ko eo [1]
 bw:Below w.heap.size w wr
variable {B K:Nat} {zs:List Int}
theorem pL(h:PN B w K p n es zs)(hz:∀t,((gx zs t).natAbs:Int)<pw 4)(hn:n<=1000000):PA w 4 p n n es zs:=
 PN.pa ⟨h.el,h.zl,h.nrm,h.pl,h.fr,fun j hj=>(h.ev j hj).fit (hz j)⟩ (by decide) hn
variable {T D:Nat} {h:Hdr}
theorem oB{gl Hl:Nat->List Int}(H:HR D (EZ 5 8) w B T yss h)(hT:T<=w.heap.size)(hD:D<=1000)(G:Md.GL yss h.n gl Hl)(ty:∀i,i<h.n->ad (gt yss i)=(gt yss i).length)(hTz:TzT w):
  Calls Tryz.prog 11 #[.slice h.p h.n h.c] w fun r w'=>∃(p:Option Addr) (k:Nat) (es:List Ent),r=.returned (.slice p k k)/\PN 0 w' (5+70) p k es (gl h.n)/\Below w.heap.size w w':=by
 obtain⟨hs,k⟩:=H;have HX:Hid (ew D (EZ 5 8) w B T yss h hs/\T<=w.heap.size/\Md.GL yss h.n gl Hl/\(∀i,i<h.n->ad (gt yss i)=(gt yss i).length)/\TzT w):=⟨k,hT,G,ty,hTz⟩;have hn:h.n<=D:=k.few;obtain⟨p,n,nc⟩:=h;simp only at hn HX ⊢
 clear k hT G ty hTz;go_enter Tryz.func11,Tryz.ntmps11;go_wp2_with fail;have hal:=ag (o:=.cells #[.int .i64 1] 2) (Jt w.heap.size w);have h1of:=zU (some ⟨w.heap.size,0,none⟩) 1 1 [1] (w.alloc (.cells #[.int .i64 1] 2)) rfl (by decide) (xH _ _ _) (fun j=>by
  rcases j with _|j
  ·exact⟨by decide,by decide⟩
  ·exact⟨by simp[gx],by simp[gx]⟩)
 go_fit h1of;rintro r w1 ⟨po,ko,eo,rfl,hP1,hb1⟩;have HI:Hid (CtI w w1 gl 0 none 0 [] po ko eo):=by
  refine⟨?_,?_,ae hal hb1⟩
  ·rw[HX.out.2.2.1.z]
   exact⟨rfl,rfl,rfl,PL.nil,fun a ha=>(by cases ha),fun j hj=>by omega⟩
  ·have h6:=hP1.pa (by decide) (by have:=hP1.zl;simp[tr,ad] at this;omega)
   rw[show tr [1]=[1] from rfl] at h6
   exact h6.up9 (by decide)
 clear h1of hP1 hb1 hal;go_wp2_with fail;go_loopw [4,6,11] (fun gv _ iv wr=>∃(i:Nat) (q:Option Addr) (k:Nat) (es:List Ent),i<=n/\k<=8/\gv=.slice q k k/\iv=.int .i64 i/\Hid (CtI w wr gl i q k es po ko eo)) (fun _ _ iv _=>n-(intOf iv).toNat)
 case atStart=>exact⟨0,none,0,[],Jz _,by decide,rfl,by go_num,HI.out⟩
 case round=>
  clear HI;obtain⟨i,q,k,es,hi,hk,rfl,rfl,HR⟩:=hrel;rcases Ju i n with hlt|hge
  ·have i1:(i:Int)<(n:Int):=by omega
   obtain⟨b,o,hp,hc⟩:=HX.out.1.hl (by rw[HX.out.1.el];show 0<n;omega)
   simp only at hp;subst hp
   have c0:=hc i (by rw[HX.out.1.el];exact hlt)
   have c1:wr.cell? ⟨b,o+i,none⟩=some (gh hs i).val:=by rw[HR.out.bw.cell (block_lt_of_cell c0)];exact c0
   have hE2:=(df 5 8).below (HX.out.1.ev i hlt) HX.out.2.1 HR.out.bw;generalize gh hs i=hd at c1 hE2
   obtain⟨p2,n2,nc2⟩:=hd;simp only[Hdr.val] at c1
   obtain⟨es2,hP2,hd3,-,-⟩:=hE2;simp only at hP2 hd3
   obtain⟨LW,hg⟩:=HX.out.2.2.1.s i hlt;have ht2:=HX.out.2.2.2.1 i hlt;have hgt:=HX.out.2.2.1.t i (by omega)
   have hgn:=HX.out.2.2.1.t (i+1) (by omega)
   have hgc:=G9 LW ((pL HR.out.g hgt.2.2 (by omega)).up9 (by decide)) hP2 (by rw[hgt.1,HR.out.g.zl]) (by rw[ht2,hP2.zl]) (by omega) (by omega) (HX.out.2.2.2.2.below HR.out.bw)
   have HGN:Hid (Md.gcr (gl i) (gt yss i) (Hl i)=gl (i+1)/\ad (gl (i+1))=(gl (i+1)).length/\(gl (i+1)).length<=8/\∀t,((gx (gl (i+1)) t).natAbs:Int)<pw 4):=⟨hg.symm,hgn⟩;clear hc c0 hP2 LW hg ht2 hgt hgn hlt;go_wp2_with fail;go_fit hgc;rintro r w2 ⟨p3,n3,es3,rfl,hP3,hb2⟩;clear hgc c1;rw[HGN.out.1] at hP3
   have hn3:n3<=8:=by have:=hP3.zl;have:=HGN.out.2.2.1;omega
   have hP5:=pL hP3 HGN.out.2.2.2 (by omega)
   have HN:Hid (CtI w w2 gl (i+1) p3 n3 es3 po ko eo):=⟨hP3.mono (Jz _),HR.out.one.below hb2,ae HR.out.bw hb2⟩;have hko:ko<=1000000:=by have:=HR.out.one.zl;simp at this;omega
   have heq:=G8 hP5 HN.out.one (by omega) hko
   rw[je HGN.out.2.1,show tr [1]=[1] from rfl] at heq
   clear hP3 hP5 hb2 HR;go_wp2_with fail;go_fit heq;rintro r w3 ⟨rfl,hb3⟩;clear heq;have v2:IntKind.i64.wrap ((i:Int)+1)=((i+1:Nat):Int):=by rw[IntKind.wrap_i64];omega
   have HN3:Hid (CtI w w3 gl (i+1) p3 n3 es3 po ko eo):=⟨HN.out.g.below hb3,HN.out.one.below hb3,ae HN.out.bw hb3⟩;clear HN hb3;by_cases he:gl (i+1)=[1]
   ·have hF:Hid (PN 0 w3 (5+70) p3 n3 es3 (gl n)):=by
     have h1:=HX.out.2.2.1.ones HX.out.2.2.2.1 he (n-(i+1)) (by omega)
     rw[show i+1+(n-(i+1))=n by omega] at h1
     have h2:=HN3.out.g;rw[he] at h2
     rw[h1];exact h2
    have hB:Hid (Below w.heap.size w w3):=HN3.out.bw;rw[decide_eq_true he];clear he HN3 HGN;go_wp2;go_ret;exact⟨p3,n3,es3,rfl,hF.out,hB.out⟩
   ·rw[decide_eq_false he]
    clear he HGN;go_wp2;go_round
    case rel=>exact⟨i+1,p3,n3,es3,by omega,hn3,rfl,by go_num,HN3.out⟩
    case measure=>simp[intOf];omega
  ·obtain rfl:i=n:=by omega
   have i1:¬(i:Int)<(i:Int):=by omega
   have hF:Hid (PN 0 wr (5+70) q k es (gl i)/\Below w.heap.size w wr):=⟨HR.out.g,HR.out.bw⟩;clear HR;go_wp2;go_ret;exact⟨q,k,rfl,⟨es,hF.out.1⟩,hF.out.2⟩
theorem w_{gl Hl:Nat->List Int}(H:HR D (EZ 5 8) w B T yss h)(hT:T<=w.heap.size)(hD:D<=1000)(G:Md.GL yss h.n gl Hl)(ty:∀i,i<h.n->ad (gt yss i)=(gt yss i).length)(hTz:TzT w):
  Calls Tryz.prog 11 #[.slice h.p h.n h.c] w fun r w'=>∃(p:Option Addr) (k:Nat) (es:List Ent),r=.returned (.slice p k k)/\PA w' 4 p k k es (gl h.n)/\Below w.heap.size w w':=by
 refine(oB H hT hD G ty hTz).mono ?_;rintro r w' ⟨p,k,es,rfl,h1,h2⟩;have h3:=G.t h.n (Jr _);exact⟨p,k,es,rfl,pL h1 h3.2.2 (by have:=h1.zl;omega),h2⟩
structure RtI(w wr:World)(gl:Nat->List Int)(i:Nat)(p:Option Addr)(k:Nat)(es:List Ent):Prop where
 g:PR wr 8 p k k es (gl i)
 bw:Below w.heap.size w wr
variable {N:Nat}
theorem nM{gl Hl:Nat->List Int}(H:HR D (EY N 8) w B T yss h)(hN:N<=170)(hT:T<=w.heap.size)(hD:D<=1000)(G:Md.GL yss h.n gl Hl):
  Calls Tryz.prog 14 #[.slice h.p h.n h.c] w fun r w'=>∃(p:Option Addr) (k:Nat) (es:List Ent),r=.returned (.slice p k k)/\PR w' 8 p k k es (gl h.n)/\Below w.heap.size w w':=by
 obtain⟨hs,k⟩:=H;have HX:Hid (ew D (EY N 8) w B T yss h hs/\T<=w.heap.size/\Md.GL yss h.n gl Hl):=⟨k,hT,G⟩;have hn:h.n<=D:=k.few;obtain⟨p,n,nc⟩:=h;simp only at hn HX ⊢
 have HI:Hid (RtI w w gl 0 none 0 []):=⟨by rw[G.z];exact⟨rfl,rfl,Jr _,Jz _,PL.nil,fun j hj=>by omega⟩,Jt _ _⟩
 clear k hT G;go_enter Tryz.func14,Tryz.ntmps14;go_wp2_with fail;go_loopw [3,4] (fun gv iv wr=>∃(i:Nat) (q:Option Addr) (k:Nat) (es:List Ent),i<=n/\k<=8/\gv=.slice q k k/\iv=.int .i64 i/\Hid (RtI w wr gl i q k es)) (fun _ iv _=>n-(intOf iv).toNat)
 case atStart=>exact⟨0,none,0,[],Jz _,by decide,rfl,by go_num,HI.out⟩
 case round=>
  clear HI;obtain⟨i,q,k,es,hi,hk,rfl,rfl,HR⟩:=hrel;rcases Ju i n with hlt|hge
  ·have i1:(i:Int)<(n:Int):=by omega
   obtain⟨b,o,hp,hc⟩:=HX.out.1.hl (by rw[HX.out.1.el];show 0<n;omega)
   simp only at hp;subst hp
   have c0:=hc i (by rw[HX.out.1.el];exact hlt)
   have c1:wr.cell? ⟨b,o+i,none⟩=some (gh hs i).val:=by rw[HR.out.bw.cell (block_lt_of_cell c0)];exact c0
   have hE2:=(bO N 8).below (HX.out.1.ev i hlt) HX.out.2.1 HR.out.bw;generalize gh hs i=hd at c1 hE2
   obtain⟨p2,n2,nc2⟩:=hd;simp only[Hdr.val] at c1
   obtain⟨es2,hP2,hc2,ht2,hd3,-,-⟩:=hE2;simp only at hP2 hc2 ht2 hd3
   subst hc2;obtain⟨LW,hg⟩:=HX.out.2.2.s i hlt;have hgt:=HX.out.2.2.t i (by omega)
   have hgn:=HX.out.2.2.t (i+1) (by omega)
   have hgc:=GN LW (HR.out.g.FK (by decide)) (hP2.FK hN) (by rw[hgt.1,HR.out.g.zl]) ht2 (by omega) (by omega)
   have HGN:Hid (Md.gcr (gl i) (gt yss i) (Hl i)=gl (i+1)/\ad (gl (i+1))=(gl (i+1)).length/\(gl (i+1)).length<=8/\∀t,((gx (gl (i+1)) t).natAbs:Int)<pw 4):=⟨hg.symm,hgn⟩;clear hc c0 hP2 LW hg ht2 hgt hgn hlt;go_wp2_with fail;go_fit hgc;rintro r w2 ⟨p3,n3,es3,rfl,hP3,-,-,hb2⟩;clear hgc c1;rw[HGN.out.1] at hP3
   have hn3:n3<=8:=by have:=hP3.zl;have:=HGN.out.2.2.1;omega
   have HN:Hid (RtI w w2 gl (i+1) p3 n3 es3):=⟨hP3.fit (M:=4) HGN.out.2.2.2,ae HR.out.bw hb2⟩;have v2:IntKind.i64.wrap ((i:Int)+1)=((i+1:Nat):Int):=by rw[IntKind.wrap_i64];omega
   clear hP3 hb2 HR HGN;go_wp2;go_round
   case rel=>exact⟨i+1,p3,n3,es3,by omega,hn3,rfl,by go_num,HN.out⟩
   case measure=>simp[intOf];omega
  ·obtain rfl:i=n:=by omega
   have i1:¬(i:Int)<(i:Int):=by omega
   have hF:Hid (PR wr 8 q k k es (gl i)/\Below w.heap.size w wr):=⟨HR.out.g,HR.out.bw⟩;clear HR;go_wp2;go_ret;exact⟨q,k,rfl,⟨es,hF.out.1⟩,hF.out.2⟩
end Go.Proofs.YtdjjlghlcffflaaGreatDoor
