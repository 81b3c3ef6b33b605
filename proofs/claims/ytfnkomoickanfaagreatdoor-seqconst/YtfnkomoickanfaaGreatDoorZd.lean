/- Own. -/
import Derived.Test.YtfnkomoickanfaaGreatDoorZb
import Derived.Test.YtfnkomoickanfaaGreatDoorD7
set_option linter.unusedVariables false
set_option linter.unusedSimpArgs false
set_option maxHeartbeats 8000000
set_option maxRecDepth 100000
namespace Go.Proofs.YtfnkomoickanfaaGreatDoor
open Go.RowKit
theorem xC{w:World}{g:Nat}{a0 a1 a2 a3 u v x y:Value}(h:Bq w g a0 a1 a2 a3):Bq ((((w.setCell ⟨g,0,none⟩ u).setCell ⟨g,1,none⟩ v).setCell ⟨g,2,none⟩ x).setCell ⟨g,3,none⟩ y) g u v x y:=by
 obtain⟨c0,c1,c2,c3,f0,f1,f2,f3⟩:=h
 have e0:=World.cell?_setCell_same w ⟨g,0,none⟩ u c0
 have e1:(w.setCell ⟨g,0,none⟩ u).cell? ⟨g,1,none⟩=some a1:=by rw[World.cell?_setCell_other _ _ _ _ (by simp)];exact c1
 have e2:((w.setCell ⟨g,0,none⟩ u).setCell ⟨g,1,none⟩ v).cell? ⟨g,2,none⟩=some a2:=by rw[World.cell?_setCell_other _ _ _ _ (by simp),World.cell?_setCell_other _ _ _ _ (by simp)];exact c2
 have e3:(((w.setCell ⟨g,0,none⟩ u).setCell ⟨g,1,none⟩ v).setCell ⟨g,2,none⟩ x).cell? ⟨g,3,none⟩=some a3:=by rw[World.cell?_setCell_other _ _ _ _ (by simp),World.cell?_setCell_other _ _ _ _ (by simp),World.cell?_setCell_other _ _ _ _ (by simp)];exact c3
 refine⟨?_,?_,?_,World.cell?_setCell_same _ _ _ e3,?_,?_,?_,?_⟩
 ·rw[World.cell?_setCell_other _ _ _ _ (by simp),World.cell?_setCell_other _ _ _ _ (by simp),World.cell?_setCell_other _ _ _ _ (by simp)];exact e0
 ·rw[World.cell?_setCell_other _ _ _ _ (by simp),World.cell?_setCell_other _ _ _ _ (by simp)];exact World.cell?_setCell_same _ _ _ e1
 ·rw[World.cell?_setCell_other _ _ _ _ (by simp)];exact World.cell?_setCell_same _ _ _ e2
 all_goals (rw[World.frozen?_setCell,World.frozen?_setCell,World.frozen?_setCell,World.frozen?_setCell];assumption)
theorem CF{w:World}{r g:Nat}{a0 a1 a2 a3 u v x y:Value}(h:Bq w r a0 a1 a2 a3)(hne:r≠g):Bq ((((w.setCell ⟨g,0,none⟩ u).setCell ⟨g,1,none⟩ v).setCell ⟨g,2,none⟩ x).setCell ⟨g,3,none⟩ y) r a0 a1 a2 a3:=by
 have e:((((w.setCell ⟨g,0,none⟩ u).setCell ⟨g,1,none⟩ v).setCell ⟨g,2,none⟩ x).setCell ⟨g,3,none⟩ y).heap[r]?=w.heap[r]?:=(heap_setCell_other _ _ r y hne).trans ((heap_setCell_other _ _ r x hne).trans ((heap_setCell_other _ _ r v hne).trans (heap_setCell_other _ _ r u hne)))
 exact⟨(World.cell?_of_block (a:=⟨r,0,none⟩) e).trans h.c0,(World.cell?_of_block (a:=⟨r,1,none⟩) e).trans h.c1,(World.cell?_of_block (a:=⟨r,2,none⟩) e).trans h.c2,(World.cell?_of_block (a:=⟨r,3,none⟩) e).trans h.c3,(World.frozen?_of_block (a:=⟨r,0,none⟩) e).trans h.f0,(World.frozen?_of_block (a:=⟨r,1,none⟩) e).trans h.f1,(World.frozen?_of_block (a:=⟨r,2,none⟩) e).trans h.f2,(World.frozen?_of_block (a:=⟨r,3,none⟩) e).trans h.f3⟩
theorem C2{w W w1:World}{r:Nat}{s:Bool}{p:Option Addr}{n:Nat}{xs:List Int}{t:Bool}{q:Option Addr}{m:Nat}{ys:List Int}{z:Rat}{u v x y:Value}(hw:Below w.heap.size w W)(hr:w.heap.size≤r)(hr':r<W.heap.size)
  (hN:NR W.heap.size w1 s p n xs t q m ys z) (hb:Below W.heap.size W w1):
  nP z w (.returned (.agg #[.bool s,.slice p n n,.bool t,.slice q m m])) ((((w1.setCell ⟨r,0,none⟩ u).setCell ⟨r,1,none⟩ v).setCell ⟨r,2,none⟩ x).setCell ⟨r,3,none⟩ y):=
 ⟨_,_,_,xs,_,_,_,ys,rfl,⟨(hN.num.bq hr' _ _ _ _).mono hw.size,(hN.den.bq hr' _ _ _ _).mono hw.size⟩,cL (ae hw hb) hr _ _ _ _⟩
theorem zF(s t:Bool)(p q:Option Addr)(n nc m mc:Nat)(xs ys:List Int)(w:World)(hA:AI w p n nc xs)(hB:AI w q m mc ys)(hn:n<150)(hm:m<150):
  Calls Tryz.prog 28 #[.agg #[.bool s,.slice p n nc,.bool t,.slice q m mc]] w (nP (Rat.divInt (ak s xs) (ak t ys)) w):=by
 generalize hQ:Rat.divInt (ak s xs) (ak t ys)=Q
 have HQ:Hid (Rat.divInt (ak s xs) (ak t ys)=Q):=hQ
 clear hQ
 go_enter Tryz.func28,Tryz.ntmps28
 go_wp2_with fail
 have hA0:Bq ((w.alloc (.cells #[.bool s,.slice p n nc,.bool t,.slice q m mc] 26)).alloc (.cells #[.bool false,.slice none 0 0,.bool false,.slice none 0 0] 26)) w.heap.size (.bool s) (.slice p n nc) (.bool t) (.slice q m mc):=(Bq.new _ _ _ _ _ rfl).alloc _
 have hR:Bq ((w.alloc (.cells #[.bool s,.slice p n nc,.bool t,.slice q m mc] 26)).alloc (.cells #[.bool false,.slice none 0 0,.bool false,.slice none 0 0] 26)) (w.heap.size+1) (.bool false) (.slice none 0 0) (.bool false) (.slice none 0 0):=Bq.new _ _ _ _ _ (by simp)
 have hW:Below w.heap.size w ((w.alloc (.cells #[.bool s,.slice p n nc,.bool t,.slice q m mc] 26)).alloc (.cells #[.bool false,.slice none 0 0,.bool false,.slice none 0 0] 26)):=((Below.refl _ _).alloc (Nat.le_refl _) _).alloc (by simp) _
 generalize (w.alloc (.cells #[.bool s,.slice p n nc,.bool t,.slice q m mc] 26)).alloc (.cells #[.bool false,.slice none 0 0,.bool false,.slice none 0 0] 26)=W at *
 have hs:=hR.lt
 refine(uD s t p q n nc m mc xs ys _ (hA.below hW) (hB.below hW) 149 (by omega) (by omega) (by omega)).mono ?_
 rintro e w1 ⟨s1,p1,n1,nc1,x1,t1,q1,m1,mc1,y1,rfl,hA1,hB1,hp,hv,hn1,hm1,hof,hb1⟩
 have ho:=hof w.heap.size (by omega) (hA.off (Nat.le_refl _)) (hB.off (Nat.le_refl _))
 have hA2:=hA1.bq ho.1 (.bool s1) (.slice p1 n1 nc1) (.bool t1) (.slice q1 m1 mc1)
 have hB2:=hB1.bq ho.2 (.bool s1) (.slice p1 n1 nc1) (.bool t1) (.slice q1 m1 mc1)
 have hBa:=xC (u:=.bool s1) (v:=.slice p1 n1 nc1) (x:=.bool t1) (y:=.slice q1 m1 mc1) (hA0.later hb1)
 have hBr:=CF (g:=w.heap.size) (u:=.bool s1) (v:=.slice p1 n1 nc1) (x:=.bool t1) (y:=.slice q1 m1 mc1) (hR.later hb1) (by omega)
 have hW2:=cL (g:=w.heap.size) (ae hW hb1) (Nat.le_refl _) (.bool s1) (.slice p1 n1 nc1) (.bool t1) (.slice q1 m1 mc1)
 obtain⟨a0,a1,a2,a3,f0,f1,f2,f3⟩:=hA0.later hb1
 obtain⟨c0,c1,c2,c3,-,-,-,-⟩:=hBa
 clear hof ho hA0 hR hA1 hB1 hW
 have HV:Hid (Rat.divInt (ak s1 x1) (ak t1 y1)=Q):=hv.trans HQ.out
 clear hv
 go_wp2_with fail
 generalize (((w1.setCell ⟨w.heap.size,0,none⟩ (.bool s1)).setCell ⟨w.heap.size,1,none⟩ (.slice p1 n1 nc1)).setCell ⟨w.heap.size,2,none⟩ (.bool t1)).setCell ⟨w.heap.size,3,none⟩ (.slice q1 m1 mc1)=W2 at *
 have h3:=wI s1 t1 p1 q1 n1 nc1 m1 mc1 x1 y1 W2 hA2 hB2 (by omega) (by omega) (by omega)
 rw[HV.out] at h3
 refine h3.mono ?_
 rintro e w3 ⟨s3,p3,n3,x3,t3,q3,m3,y3,rfl,hN3,hb3⟩
 have hs2:=hBr.lt
 clear c0 c1 c2 c3 a0 a1 a2 a3 f0 f1 f2 f3
 obtain⟨r0,r1,r2,r3,f0,f1,f2,f3⟩:=hBr.later hb3
 go_wp2
 exact bodyPost_ret (v:=.agg #[.bool s3,.slice p3 n3 n3,.bool t3,.slice q3 m3 m3]) (by simp[results,Tryz.results28,go_sem,r0,r1,r2,r3]) rfl (C2 hW2 (by omega) hs2 hN3 hb3)
structure RQ(w:World)(s:Bool)(p:Option Addr)(n:Nat)(ds:List Int)(t:Bool)(q:Option Addr)(m:Nat)(es:List Int)(r:Rat):Prop where
 num:RN w s p n ds
 den:RN w t q m es
 nv:ag s ds=r.num
 dv:ag t es=(r.den:Int)
def nM(r:Rat)(w:World)(e:Ending)(w':World):Prop:=
 ∃s p n ds t q m es,e=.returned (.agg #[.bool s,.slice p n n,.bool t,.slice q m m])∧RQ w' s p n ds t q m es r∧az w.heap.size p∧az w.heap.size q∧Below w.heap.size w w'
theorem RN.bq{w:World}{s:Bool}{p:Option Addr}{n:Nat}{ds:List Int}(h:RN w s p n ds){g:Nat}(hg:0<n→Off g p)(u v x y:Value):RN ((((w.setCell ⟨g,0,none⟩ u).setCell ⟨g,1,none⟩ v).setCell ⟨g,2,none⟩ x).setCell ⟨g,3,none⟩ y) s p n ds:=
 (((h.set (a:=⟨g,0,none⟩) hg u).set (a:=⟨g,1,none⟩) hg v).set (a:=⟨g,2,none⟩) hg x).set (a:=⟨g,3,none⟩) hg y
theorem zD(s t:Bool)(p q:Option Addr)(n m:Nat)(ds es:List Int)(w:World)(hA:RN w s p n ds)(hB:RN w t q m es)(h0:ag t es=0):
  Calls Tryz.prog 49 #[.agg #[.bool s,.slice p n n],.agg #[.bool t,.slice q m m]] w (nM 0 w):=by
 have H0:=(show Hid _ from h0)
 clear h0
 go_enter Tryz.func49,Tryz.ntmps49
 go_wp2_with fail
 have hA0:Bx (((w.alloc (.cells #[.bool s,.slice p n n] 43)).alloc (.cells #[.bool t,.slice q m m] 43)).alloc (.cells #[.bool false,.slice none 0 0,.bool false,.slice none 0 0] 45)) w.heap.size (.bool s) (.slice p n n):=((Bx.new _ _ _ rfl).alloc _).alloc _
 have hB0:Bx (((w.alloc (.cells #[.bool s,.slice p n n] 43)).alloc (.cells #[.bool t,.slice q m m] 43)).alloc (.cells #[.bool false,.slice none 0 0,.bool false,.slice none 0 0] 45)) (w.heap.size+1) (.bool t) (.slice q m m):=(Bx.new _ _ _ (by simp)).alloc _
 have hR0:Bq (((w.alloc (.cells #[.bool s,.slice p n n] 43)).alloc (.cells #[.bool t,.slice q m m] 43)).alloc (.cells #[.bool false,.slice none 0 0,.bool false,.slice none 0 0] 45)) (w.heap.size+1+1) (.bool false) (.slice none 0 0) (.bool false) (.slice none 0 0):=Bq.new _ _ _ _ _ (by simp)
 have hW:Below w.heap.size w (((w.alloc (.cells #[.bool s,.slice p n n] 43)).alloc (.cells #[.bool t,.slice q m m] 43)).alloc (.cells #[.bool false,.slice none 0 0,.bool false,.slice none 0 0] 45)):=(((Below.refl _ _).alloc (Nat.le_refl _) _).alloc (by simp) _).alloc (by simp;omega) _
 generalize ((w.alloc (.cells #[.bool s,.slice p n n] 43)).alloc (.cells #[.bool t,.slice q m m] 43)).alloc (.cells #[.bool false,.slice none 0 0,.bool false,.slice none 0 0] 45)=W at *
 have hA1:=hA.below hW
 have hB1:=hB.below hW
 refine(c_ t q m m es _ hB1.u hB1.nrm).mono ?_
 rintro e w1 ⟨rfl,hb1⟩
 rw[H0.out,gH rfl]
 have hBX:=hb1
 go_wp2_with fail
 refine(eg 0 _ (by decide) (by decide)).mono ?_
 rintro e w2 ⟨s2,p2,n2,d2,rfl,hR2,hv2,hn2,hF2,hb2⟩
 go_wp2_with fail
 refine(eg 1 _ (by decide) (by decide)).mono ?_
 rintro e w3 ⟨s3,p3,n3,d3,rfl,hR3,hv3,hn3,hF3,hb3⟩
 have hbx:=ae hBX hb2
 have hby:=ae hbx hb3
 obtain⟨r0,r1,r2,r3,f0,f1,f2,f3⟩:=hR0.later hby
 have sR:=hR0.lt
 have sX:=hBX.size
 have sY:=hbx.size
 have sW:=hW.size
 go_wp2
 refine bodyPost_ret (v:=.agg #[.bool s2,.slice p2 n2 n2,.bool s3,.slice p3 n3 n3]) (by simp[results,Tryz.results49,go_sem,r0,r1,r2,r3]) rfl ⟨s2,p2,n2,d2,s3,p3,n3,d3,rfl,⟨?_,?_,by rw[hv2];rfl,by rw[hv3];rfl⟩,fun a ha=>?_,fun a ha=>?_,?_⟩
 ·exact(hR2.below hb3).bq (fun _=>aT hF2 (by omega)) _ _ _ _
 ·exact hR3.bq (fun _=>aT hF3 (by omega)) _ _ _ _
 ·have:=hF2 a ha;omega
 ·have:=hF3 a ha;omega
 ·exact cL (ae hW hby) (by omega) _ _ _ _
theorem zE(s t:Bool)(p q:Option Addr)(n m:Nat)(ds es:List Int)(w:World)(hA:RN w s p n ds)(hB:RN w t q m es)(h0:ag t es≠0)(h1:ag s ds=0):
  Calls Tryz.prog 49 #[.agg #[.bool s,.slice p n n],.agg #[.bool t,.slice q m m]] w (nM 0 w):=by
 obtain⟨vt,hvt,hv0⟩:∃v,aG (ag t es)=v∧¬v=0:=by
  rcases(show 0<ag t es∨ag t es<0 by omega) with h|h
  ·exact⟨1,eI h,by decide⟩
  ·exact⟨-1,eH h,by decide⟩
 have HV:=(show Hid _ from hvt)
 have H1:=(show Hid _ from h1)
 clear h0 h1 hvt
 go_enter Tryz.func49,Tryz.ntmps49
 go_wp2_with fail
 have hA0:Bx (((w.alloc (.cells #[.bool s,.slice p n n] 43)).alloc (.cells #[.bool t,.slice q m m] 43)).alloc (.cells #[.bool false,.slice none 0 0,.bool false,.slice none 0 0] 45)) w.heap.size (.bool s) (.slice p n n):=((Bx.new _ _ _ rfl).alloc _).alloc _
 have hB0:Bx (((w.alloc (.cells #[.bool s,.slice p n n] 43)).alloc (.cells #[.bool t,.slice q m m] 43)).alloc (.cells #[.bool false,.slice none 0 0,.bool false,.slice none 0 0] 45)) (w.heap.size+1) (.bool t) (.slice q m m):=(Bx.new _ _ _ (by simp)).alloc _
 have hR0:Bq (((w.alloc (.cells #[.bool s,.slice p n n] 43)).alloc (.cells #[.bool t,.slice q m m] 43)).alloc (.cells #[.bool false,.slice none 0 0,.bool false,.slice none 0 0] 45)) (w.heap.size+1+1) (.bool false) (.slice none 0 0) (.bool false) (.slice none 0 0):=Bq.new _ _ _ _ _ (by simp)
 have hW:Below w.heap.size w (((w.alloc (.cells #[.bool s,.slice p n n] 43)).alloc (.cells #[.bool t,.slice q m m] 43)).alloc (.cells #[.bool false,.slice none 0 0,.bool false,.slice none 0 0] 45)):=(((Below.refl _ _).alloc (Nat.le_refl _) _).alloc (by simp) _).alloc (by simp;omega) _
 generalize ((w.alloc (.cells #[.bool s,.slice p n n] 43)).alloc (.cells #[.bool t,.slice q m m] 43)).alloc (.cells #[.bool false,.slice none 0 0,.bool false,.slice none 0 0] 45)=W at *
 have hA1:=hA.below hW
 have hB1:=hB.below hW
 refine(c_ t q m m es _ hB1.u hB1.nrm).mono ?_
 rintro e w1 ⟨rfl,hb1⟩
 rw[HV.out]
 have a0:=(hA0.later hb1).c0
 have a1:=(hA0.later hb1).c1
 go_wp2_with fail
 have hA2:=hA1.below hb1
 refine(c_ s p n n ds _ hA2.u hA2.nrm).mono ?_
 rintro e w1' ⟨rfl,hb1'⟩
 rw[H1.out,gH rfl]
 have hBX:=ae hb1 hb1'
 clear a0 a1
 go_wp2_with fail
 refine(eg 0 _ (by decide) (by decide)).mono ?_
 rintro e w2 ⟨s2,p2,n2,d2,rfl,hR2,hv2,hn2,hF2,hb2⟩
 go_wp2_with fail
 refine(eg 1 _ (by decide) (by decide)).mono ?_
 rintro e w3 ⟨s3,p3,n3,d3,rfl,hR3,hv3,hn3,hF3,hb3⟩
 have hbx:=ae hBX hb2
 have hby:=ae hbx hb3
 obtain⟨r0,r1,r2,r3,f0,f1,f2,f3⟩:=hR0.later hby
 have sR:=hR0.lt
 have sX:=hBX.size
 have sY:=hbx.size
 have sW:=hW.size
 go_wp2
 refine bodyPost_ret (v:=.agg #[.bool s2,.slice p2 n2 n2,.bool s3,.slice p3 n3 n3]) (by simp[results,Tryz.results49,go_sem,r0,r1,r2,r3]) rfl ⟨s2,p2,n2,d2,s3,p3,n3,d3,rfl,⟨?_,?_,by rw[hv2];rfl,by rw[hv3];rfl⟩,fun a ha=>?_,fun a ha=>?_,?_⟩
 ·exact(hR2.below hb3).bq (fun _=>aT hF2 (by omega)) _ _ _ _
 ·exact hR3.bq (fun _=>aT hF3 (by omega)) _ _ _ _
 ·have:=hF2 a ha;omega
 ·have:=hF3 a ha;omega
 ·exact cL (ae hW hby) (by omega) _ _ _ _
theorem yf(s t:Bool)(xs ys:List Int):Int.gcd (ag s xs) (ag t ys)=Int.gcd (vd xs) (vd ys):=by
 cases s<;>cases t<;>simp[ag,Int.gcd_neg,Int.neg_gcd]
theorem tF{s:Bool}{ds:List Int}(hU:U16 ds)(h:ag s ds≠0):s=decide (ag s ds<0):=by
 have hv:=ay hU
 cases s with
 |false=>
  have e:ag false ds=vd ds:=rfl
  have h2:¬ag false ds<0:=by rw[e];omega
  simp[h2]
 |true=>
  have e:ag true ds = -vd ds:=rfl
  have h2:ag true ds<0:=by rw[e] at h ⊢;omega
  simp[h2]
theorem B3{a b x y G:Int}{g:Nat}{R:Rat}(hg:0<g)(hG:G=if b<0 then -(g:Int) else (g:Int))(ha:a=R.num*G)(hb:b=R.den*G)(hx:x*g=a)(hy:y*g=b):(0<b→x=R.num∧y=(R.den:Int))∧(b<0→-x=R.num∧-y=(R.den:Int)):=by
 have g0:(g:Int)≠0:=by omega
 refine⟨fun h=>?_,fun h=>?_⟩
 ·rw[if_neg (by omega)] at hG
  subst hG
  exact⟨Int.eq_of_mul_eq_mul_right g0 (hx.trans ha),Int.eq_of_mul_eq_mul_right g0 (hy.trans hb)⟩
 ·rw[if_pos h] at hG
  subst hG
  refine⟨Int.eq_of_mul_eq_mul_right g0 ?_,Int.eq_of_mul_eq_mul_right g0 ?_⟩
  ·rw[Int.neg_mul,hx,ha,Int.mul_neg,Int.neg_neg]
  ·rw[Int.neg_mul,hy,hb,Int.mul_neg,Int.neg_neg]
theorem zr{s:Bool}{ds:List Int}{g:Int}(h:g∣vd ds):∃c,vd ds=c*g:=by
 obtain⟨c,hc⟩:=h
 exact⟨c,by rw[hc,Int.mul_comm]⟩
theorem xI(s t:Bool)(p q:Option Addr)(n m:Nat)(ds es:List Int)(w:World)(hA:RN w s p n ds)(hB:RN w t q m es)(h0:ag t es≠0)(h1:ag s ds≠0)(hn:n≤1000)(hm:m≤1000):
  Calls Tryz.prog 49 #[.agg #[.bool s,.slice p n n],.agg #[.bool t,.slice q m m]] w (nM (Rat.divInt (ag s ds) (ag t es)) w):=by
 obtain⟨G,hG,hG0,hGa,hGb⟩:=mz (ag s ds) (ag t es) h0
 rw[yf] at hG
 have HG:=(show Hid _ from(And.intro hG (And.intro hG0 (And.intro hGa hGb))))
 clear hG hG0 hGa hGb
 have hgp:0<Int.gcd (vd ds) (vd es):=by
  rcases Nat.eq_zero_or_pos (Int.gcd (vd ds) (vd es)) with h|h
  ·rw[Int.gcd_eq_zero_iff] at h
   exfalso
   apply h0
   cases t<;>simp[ag,h.2]
  ·exact h
 obtain⟨gg,hgg⟩:∃g,g=Int.gcd (vd ds) (vd es):=⟨_,rfl⟩
 have HGG:=(show Hid _ from hgg)
 rw[←hgg] at hgp
 clear hgg
 obtain⟨vs,hvs,hvs0⟩:∃v,aG (ag s ds)=v∧¬v=0:=by
  rcases(show 0<ag s ds∨ag s ds<0 by omega) with h|h
  ·exact⟨1,eI h,by decide⟩
  ·exact⟨-1,eH h,by decide⟩
 obtain⟨vt,hvt,hvt0⟩:∃v,aG (ag t es)=v∧¬v=0:=by
  rcases(show 0<ag t es∨ag t es<0 by omega) with h|h
  ·exact⟨1,eI h,by decide⟩
  ·exact⟨-1,eH h,by decide⟩
 have HVs:=(show Hid _ from hvs)
 have HVt:=(show Hid _ from hvt)
 have H0:=(show Hid _ from h0)
 have H1:=(show Hid _ from h1)
 have hvs1:(vs==0)=false:=by simpa using hvs0
 have hvt1:(vt==0)=false:=by simpa using hvt0
 clear h0 h1 hvs hvt
 generalize Rat.divInt (ag s ds) (ag t es)=R at *
 go_enter Tryz.func49,Tryz.ntmps49
 go_wp2_with fail
 have hA0:Bx (((w.alloc (.cells #[.bool s,.slice p n n] 43)).alloc (.cells #[.bool t,.slice q m m] 43)).alloc (.cells #[.bool false,.slice none 0 0,.bool false,.slice none 0 0] 45)) w.heap.size (.bool s) (.slice p n n):=((Bx.new _ _ _ rfl).alloc _).alloc _
 have hB0:Bx (((w.alloc (.cells #[.bool s,.slice p n n] 43)).alloc (.cells #[.bool t,.slice q m m] 43)).alloc (.cells #[.bool false,.slice none 0 0,.bool false,.slice none 0 0] 45)) (w.heap.size+1) (.bool t) (.slice q m m):=(Bx.new _ _ _ (by simp)).alloc _
 have hR0:Bq (((w.alloc (.cells #[.bool s,.slice p n n] 43)).alloc (.cells #[.bool t,.slice q m m] 43)).alloc (.cells #[.bool false,.slice none 0 0,.bool false,.slice none 0 0] 45)) (w.heap.size+1+1) (.bool false) (.slice none 0 0) (.bool false) (.slice none 0 0):=Bq.new _ _ _ _ _ (by simp)
 have hW:Below w.heap.size w (((w.alloc (.cells #[.bool s,.slice p n n] 43)).alloc (.cells #[.bool t,.slice q m m] 43)).alloc (.cells #[.bool false,.slice none 0 0,.bool false,.slice none 0 0] 45)):=(((Below.refl _ _).alloc (Nat.le_refl _) _).alloc (by simp) _).alloc (by simp;omega) _
 generalize ((w.alloc (.cells #[.bool s,.slice p n n] 43)).alloc (.cells #[.bool t,.slice q m m] 43)).alloc (.cells #[.bool false,.slice none 0 0,.bool false,.slice none 0 0] 45)=W at *
 have hA1:=hA.below hW
 have hB1:=hB.below hW
 refine(c_ t q m m es _ hB1.u hB1.nrm).mono ?_
 rintro e w1 ⟨rfl,hb1⟩
 rw[HVt.out]
 have a0:=(hA0.later hb1).c0
 have a1:=(hA0.later hb1).c1
 go_wp2_with fail
 have hA2:=hA1.below hb1
 refine(c_ s p n n ds _ hA2.u hA2.nrm).mono ?_
 rintro e w2 ⟨rfl,hb2⟩
 rw[HVs.out]
 have hb12:=ae hb1 hb2
 clear a0 a1 hA2
 have a0:=(hA0.later hb12).c0
 have a1:=(hA0.later hb12).c1
 have b0:=(hB0.later hb12).c0
 have b1:=(hB0.later hb12).c1
 go_wp2_with fail
 refine(AM s t p q n m 1000 ds es _ (hA1.below hb12) (hB1.below hb12) hn hm (by decide)).mono ?_
 rintro e w3 ⟨p3,n3,d3,rfl,hR3,hv3,hn3,hb3⟩
 rw[←HGG.out] at hv3
 have hb13:=ae hb12 hb3
 have hal:=af (o:=.cells #[.bool false,.slice p3 n3 n3] 43) hb13
 have hA4:=hA0.later hal
 have hB4:=hB0.later hal
 have hR4:=hR0.later hal
 have hg4:Bx (w3.alloc (.cells #[.bool false,.slice p3 n3 n3] 43)) w3.heap.size (.bool false) (.slice p3 n3 n3):=Bx.new _ _ _ rfl
 have hX4:=hA1.below hal
 have hY4:=hB1.below hal
 have hD4:=j9 (o:=.cells #[.bool false,.slice p3 n3 n3] 43) hR3
 have hW4:=ae hW hal
 have HV3:=(show Hid _ from hv3)
 have sW:=hR0.lt
 have sWW:=hal.size
 clear a0 a1 b0 b1 hb1 hb2 hb12 hb3 hb13 hal hv3 hR3 hA0 hB0 hR0 hA1 hB1
 have a0:=hA4.c0
 have a1:=hA4.c1
 go_wp2_with fail
 have hnp:0<n3:=by
  rcases Nat.eq_zero_or_pos n3 with h|h
  ·exfalso
   have h2:=hD4.len
   have h3:d3=[]:=List.eq_nil_of_length_eq_zero (by omega)
   have h4:=HV3.out
   rw[h3] at h4
   have h5:ag false []=0:=rfl
   omega
  ·exact h
 have hvd:Hid (vd d3=(gg:Int)):=HV3.out
 generalize w3.alloc (.cells #[.bool false,.slice p3 n3 n3] 43)=W4 at *
 generalize w3.heap.size=g at *
 refine(yY s p p3 n n3 ds d3 W4 hX4 hD4 hn hn3 hnp (by rw[hvd.out,HGG.out];exact zr (s:=s) (Int.gcd_dvd_left ..))).mono ?_
 rintro e w5 ⟨s5,p5,n5,d5,p6,rfl,hR5,hv5,hF5,hb5⟩
 have hL5:=(show Hid _ from hR5.lt)
 have hal:=af (o:=.cells #[.bool false,.slice p6 0 0] 43) (af (o:=.cells #[.bool s5,.slice p5 n5 n5] 43) hb5)
 have hB6:=hB4.later hal
 have hR6:=hR4.later hal
 have hg6:=hg4.later hal
 have hY6:=hY4.below hal
 have hD6:=hD4.below hal
 have hn6:Bx ((w5.alloc (.cells #[.bool s5,.slice p5 n5 n5] 43)).alloc (.cells #[.bool false,.slice p6 0 0] 43)) w5.heap.size (.bool s5) (.slice p5 n5 n5):=(Bx.new _ _ _ rfl).alloc _
 have hE6:=j9 (o:=.cells #[.bool false,.slice p6 0 0] 43) (j9 (o:=.cells #[.bool s5,.slice p5 n5 n5] 43) hR5)
 have hW6:=ae hW4 hal
 have s46:=hal.size
 have s45:=hb5.size
 have HV5:=(show Hid _ from hv5)
 clear a0 a1 hA4 hB4 hR4 hg4 hX4 hY4 hD4 hW4 hb5 hal hv5 hR5
 have b0:=hB6.c0
 have b1:=hB6.c1
 have g0:=hg6.c0
 have g1:=hg6.c1
 go_wp2_with fail
 generalize (w5.alloc (.cells #[.bool s5,.slice p5 n5 n5] 43)).alloc (.cells #[.bool false,.slice p6 0 0] 43)=W6 at *
 generalize w5.heap.size=gn at *
 refine(yY t q p3 m n3 es d3 W6 hY6 hD6 hm hn3 hnp (by rw[hvd.out,HGG.out];exact zr (s:=t) (Int.gcd_dvd_right ..))).mono ?_
 rintro e w7 ⟨s7,p7,n7,d7,p8,rfl,hR7,hv7,hF7,hb7⟩
 have hL7:=(show Hid _ from hR7.lt)
 have hal:=af (o:=.cells #[.bool false,.slice p8 0 0] 43) (af (o:=.cells #[.bool s7,.slice p7 n7 n7] 43) hb7)
 have hR8:=hR6.later hal
 have hn8:=hn6.later hal
 have hd8:Bx ((w7.alloc (.cells #[.bool s7,.slice p7 n7 n7] 43)).alloc (.cells #[.bool false,.slice p8 0 0] 43)) w7.heap.size (.bool s7) (.slice p7 n7 n7):=(Bx.new _ _ _ rfl).alloc _
 have hE8:=hE6.below hal
 have hF8:=j9 (o:=.cells #[.bool false,.slice p8 0 0] 43) (j9 (o:=.cells #[.bool s7,.slice p7 n7 n7] 43) hR7)
 have hW8:=ae hW6 hal
 have hvals:=B3 (x:=ag s5 d5) (y:=ag s7 d7) hgp (by have:=HG.out.1;rw[←HGG.out] at this;exact this) HG.out.2.2.1 HG.out.2.2.2 (by rw[←hvd.out];exact HV5.out) (by rw[←hvd.out];exact hv7)
 have hb7s:=hb7.size
 have ln:gn<W6.heap.size:=block_lt_of_cell hn6.c0
 have hne7:ag s7 d7≠0:=by
  intro h
  rw[h,Int.zero_mul] at hv7
  exact H0.out hv7.symm
 have hsg:=tF hR7.u hne7
 have hsb:ag t es<0↔ag s7 d7<0:=by
  rw[←hv7,hvd.out]
  constructor
  ·intro h
   rcases Int.lt_or_le (ag s7 d7) 0 with h2|h2
   ·exact h2
   ·have:=Int.mul_nonneg h2 (show(0:Int)≤gg by omega)
    omega
  ·intro h
   exact Int.mul_neg_of_neg_of_pos h (by omega)
 have HVV:=(show Hid _ from hvals)
 have HSB:=(show Hid _ from hsb)
 have HSG:=(show Hid _ from hsg)
 clear hvals hsb hsg hne7 b0 b1 g0 g1 hB6 hR6 hg6 hY6 hD6 hn6 hE6 hW6 hR7 hv7 hal
 have sR:=hR8.lt
 have hW6s:W4.heap.size≤W6.heap.size:=s46
 have d0:=hd8.c0
 have d1:=hd8.c1
 have n0:=hn8.c0
 have n1:=hn8.c1
 cases s7 with
 |false=>
  have hpos:0<ag t es:=by
   have h1:=HSB.out
   have h2:=ay hF8.u
   have h3:ag false d7=vd d7:=rfl
   have h4:ag t es≠0:=H0.out
   have h5:¬ag t es<0:=fun h=>by have:=h1.1 h;omega
   omega
  have HVAL:=(show Hid _ from HVV.out.1 hpos)
  clear hpos HVV
  obtain⟨r0,r1,r2,r3,f0,f1,f2,f3⟩:=hR8
  go_wp2
  refine bodyPost_ret (v:=.agg #[.bool s5,.slice p5 n5 n5,.bool false,.slice p7 n7 n7]) (by simp[results,Tryz.results49,go_sem,r0,r1,r2,r3]) rfl ⟨s5,p5,n5,d5,false,p7,n7,d7,rfl,⟨?_,?_,HVAL.out.1,HVAL.out.2⟩,fun a ha=>?_,fun a ha=>?_,?_⟩
  ·exact hE8.bq (fun _=>aT hF5 (by omega)) _ _ _ _
  ·exact hF8.bq (fun _=>aT hF7 (by omega)) _ _ _ _
  ·have:=hF5 a ha;omega
  ·have:=hF7 a ha;omega
  ·exact cL hW8 (by omega) _ _ _ _
 |true=>
  have hneg:ag t es<0:=by
   have h1:=HSB.out
   have h3:=HSG.out
   exact h1.2 (of_decide_eq_true h3.symm)
  have HVAL:=(show Hid _ from HVV.out.2 hneg)
  clear hneg HVV
  go_wp2_with fail
  generalize (w7.alloc (.cells #[.bool true,.slice p7 n7 n7] 43)).alloc (.cells #[.bool false,.slice p8 0 0] 43)=W8 at *
  have ld:w7.heap.size<W8.heap.size:=block_lt_of_cell hd8.c0
  have sW8:=hW8.size
  have hgn:w.heap.size+1+1≠gn:=by omega
  have hgd:w7.heap.size≠gn:=by omega
  have hgr:w.heap.size+1+1≠w7.heap.size:=by omega
  have hO5n:0<n5→Off gn p5:=fun h a ha e=>by have:=hL5.out h a ha;omega
  have hO5d:0<n5→Off w7.heap.size p5:=fun h a ha e=>by have:=hL5.out h a ha;omega
  have hO7n:0<n7→Off gn p7:=fun _=>aT hF7 ln
  have hO7d:0<n7→Off w7.heap.size p7:=fun h a ha e=>by have:=hL7.out h a ha;omega
  clear hL5 hL7
  have lgn:w.heap.size≤gn:=by omega
  have lgd:w.heap.size≤w7.heap.size:=by omega
  generalize w7.heap.size=gd at *
  refine(my hE8).mono ?_
  rintro e w9 ⟨s9,rfl,hN9,hv9,hb9⟩
  have hn9:=hn8.later hb9
  have hn10:=dI (x:=.bool s9) (y:=.slice p5 n5 n5) hn9
  have hd10:=cS (g:=gn) (x:=.bool s9) (y:=.slice p5 n5 n5) (hd8.later hb9) hgd
  have hR10:=oW (g:=gn) (x:=.bool s9) (y:=.slice p5 n5 n5) (hR8.later hb9) hgn
  have hE10:=(hN9.set (a:=⟨gn,0,none⟩) hO5n (.bool s9)).set (a:=⟨gn,1,none⟩) hO5n (.slice p5 n5 n5)
  have hF10:=((hF8.below hb9).set (a:=⟨gn,0,none⟩) hO7n (.bool s9)).set (a:=⟨gn,1,none⟩) hO7n (.slice p5 n5 n5)
  have hW10:=c8 (g:=gn) (ae hW8 hb9) lgn (.bool s9) (.slice p5 n5 n5)
  obtain⟨n0',n1',nf0,nf1⟩:=hn9
  clear d0 d1 n0 n1 hE8 hF8 hn8 hd8 hR8 hW8 hb9 hN9
  have d0:=hd10.c0
  have d1:=hd10.c1
  go_wp2_with fail
  generalize (w9.setCell ⟨gn,0,none⟩ (.bool s9)).setCell ⟨gn,1,none⟩ (.slice p5 n5 n5)=W10 at *
  clear n0' n1' nf0 nf1
  refine(my hF10).mono ?_
  rintro e w11 ⟨s11,rfl,hN11,hv11,hb11⟩
  have hd11:=hd10.later hb11
  have hd12:=dI (x:=.bool s11) (y:=.slice p7 n7 n7) hd11
  have hn12:=cS (g:=gd) (x:=.bool s11) (y:=.slice p7 n7 n7) (hn10.later hb11) (Ne.symm hgd)
  have hR12:=oW (g:=gd) (x:=.bool s11) (y:=.slice p7 n7 n7) (hR10.later hb11) hgr
  have hE12:=((hE10.below hb11).set (a:=⟨gd,0,none⟩) hO5d (.bool s11)).set (a:=⟨gd,1,none⟩) hO5d (.slice p7 n7 n7)
  have hF12:=(hN11.set (a:=⟨gd,0,none⟩) hO7d (.bool s11)).set (a:=⟨gd,1,none⟩) hO7d (.slice p7 n7 n7)
  have hW12:=c8 (g:=gd) (ae hW10 hb11) lgd (.bool s11) (.slice p7 n7 n7)
  obtain⟨d0',d1',df0,df1⟩:=hd11
  clear d0 d1 hE10 hF10 hn10 hd10 hR10 hW10 hb11 hN11
  have d0:=hd12.c0
  have d1:=hd12.c1
  have n0:=hn12.c0
  have n1:=hn12.c1
  obtain⟨r0,r1,r2,r3,f0,f1,f2,f3⟩:=hR12
  go_wp2
  generalize (w11.setCell ⟨gd,0,none⟩ (.bool s11)).setCell ⟨gd,1,none⟩ (.slice p7 n7 n7)=W12 at *
  refine bodyPost_ret (v:=.agg #[.bool s9,.slice p5 n5 n5,.bool s11,.slice p7 n7 n7]) (by simp[results,Tryz.results49,go_sem,r0,r1,r2,r3]) rfl ⟨s9,p5,n5,d5,s11,p7,n7,d7,rfl,⟨?_,?_,hv9.out.trans HVAL.out.1,hv11.out.trans HVAL.out.2⟩,fun a ha=>?_,fun a ha=>?_,?_⟩
  ·exact hE12.bq (fun _=>aT hF5 (by omega)) _ _ _ _
  ·exact hF12.bq (fun _=>aT hF7 (by omega)) _ _ _ _
  ·have:=hF5 a ha;omega
  ·have:=hF7 a ha;omega
  ·exact cL hW12 (by omega) _ _ _ _
theorem zC(s t:Bool)(p q:Option Addr)(n m:Nat)(ds es:List Int)(w:World)(hA:RN w s p n ds)(hB:RN w t q m es)(hn:n≤1000)(hm:m≤1000):
  Calls Tryz.prog 49 #[.agg #[.bool s,.slice p n n],.agg #[.bool t,.slice q m m]] w (nM (Rat.divInt (ag s ds) (ag t es)) w):=by
 by_cases h0:ag t es=0
 ·have:=zD s t p q n m ds es w hA hB h0
  rwa [h0,Rat.divInt_zero]
 ·by_cases h1:ag s ds=0
  ·have:=zE s t p q n m ds es w hA hB h0 h1
   rwa [h1,Rat.zero_divInt]
  ·exact xI s t p q n m ds es w hA hB h0 h1 hn hm
end Go.Proofs.YtfnkomoickanfaaGreatDoor
