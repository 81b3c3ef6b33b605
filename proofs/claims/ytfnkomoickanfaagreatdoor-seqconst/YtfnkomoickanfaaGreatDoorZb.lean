/- Own. -/
import Derived.Test.YtfnkomoickanfaaGreatDoorRv
set_option linter.unusedVariables false
set_option linter.unusedSimpArgs false
set_option maxHeartbeats 8000000
set_option maxRecDepth 100000
namespace Go.Proofs.YtfnkomoickanfaaGreatDoor
open Go.RowKit
structure Bq(w:World)(r:Nat)(a0 a1 a2 a3:Value):Prop where
 c0:w.cell? ⟨r,0,none⟩=some a0
 c1:w.cell? ⟨r,1,none⟩=some a1
 c2:w.cell? ⟨r,2,none⟩=some a2
 c3:w.cell? ⟨r,3,none⟩=some a3
 f0:w.frozen? ⟨r,0,none⟩=false
 f1:w.frozen? ⟨r,1,none⟩=false
 f2:w.frozen? ⟨r,2,none⟩=false
 f3:w.frozen? ⟨r,3,none⟩=false
theorem Bq.lt{w:World}{r:Nat}{a0 a1 a2 a3:Value}(h:Bq w r a0 a1 a2 a3):r<w.heap.size:=block_lt_of_cell h.c0
theorem Bq.later{w w':World}{r:Nat}{a0 a1 a2 a3:Value}(h:Bq w r a0 a1 a2 a3)(hb:Below w.heap.size w w'):Bq w' r a0 a1 a2 a3:=by
 have hr:=h.lt
 exact⟨cell_later hb h.c0,cell_later hb h.c1,cell_later hb h.c2,cell_later hb h.c3,by rw[hb.frozen (p:=⟨r,0,none⟩) hr];exact h.f0,by rw[hb.frozen (p:=⟨r,1,none⟩) hr];exact h.f1,by rw[hb.frozen (p:=⟨r,2,none⟩) hr];exact h.f2,by rw[hb.frozen (p:=⟨r,3,none⟩) hr];exact h.f3⟩
theorem Bq.alloc{w:World}{r:Nat}{a0 a1 a2 a3:Value}(h:Bq w r a0 a1 a2 a3)(o:Obj):Bq (w.alloc o) r a0 a1 a2 a3:=h.later ((Below.refl _ _).alloc (Nat.le_refl _) o)
theorem Bq.new{w:World}{r:Nat}(a0 a1 a2 a3:Value)(t:Nat)(hr:r=w.heap.size):Bq (w.alloc (.cells #[a0,a1,a2,a3] t)) r a0 a1 a2 a3:=by
 subst hr
 refine⟨?_,?_,?_,?_,?_,?_,?_,?_⟩<;>simp[go_sem,World.cell?_alloc_past,World.frozen?_alloc_past]
theorem cL{B g:Nat}{a b:World}(h:Below B a b)(hg:B≤g)(u v x y:Value):Below B a ((((b.setCell ⟨g,0,none⟩ u).setCell ⟨g,1,none⟩ v).setCell ⟨g,2,none⟩ x).setCell ⟨g,3,none⟩ y):=
 (((h.setCell (p:=⟨g,0,none⟩) hg u).setCell (p:=⟨g,1,none⟩) hg v).setCell (p:=⟨g,2,none⟩) hg x).setCell (p:=⟨g,3,none⟩) hg y
theorem NI.bq{B:Nat}{w:World}{s:Bool}{p:Option Addr}{n:Nat}{xs:List Int}{z:Int}(h:NI B w s p n xs z){g:Nat}(hg:g<B)(u v x y:Value):NI B ((((w.setCell ⟨g,0,none⟩ u).setCell ⟨g,1,none⟩ v).setCell ⟨g,2,none⟩ x).setCell ⟨g,3,none⟩ y) s p n xs z:=
 (((h.set (a:=⟨g,0,none⟩) hg u).set (a:=⟨g,1,none⟩) hg v).set (a:=⟨g,2,none⟩) hg x).set (a:=⟨g,3,none⟩) hg y
theorem AI.oM{w:World}{p:Option Addr}{n nc:Nat}{xs:List Int}(h:AI w p n nc xs){a:Addr}(hne:0<n→Off a.block p)(v:Value):AI (w.setCell a v) p n nc xs:=
 ⟨h.len,h.cap,h.bnd,h.sml,fun hx=>h.rd.ah a v (hne (by rw[←h.len];exact hx)) hx,h.u⟩
theorem AI.bq{w:World}{p:Option Addr}{n nc:Nat}{xs:List Int}(h:AI w p n nc xs){g:Nat}(hg:0<n→Off g p)(u v x y:Value):AI ((((w.setCell ⟨g,0,none⟩ u).setCell ⟨g,1,none⟩ v).setCell ⟨g,2,none⟩ x).setCell ⟨g,3,none⟩ y) p n nc xs:=
 (((h.oM (a:=⟨g,0,none⟩) hg u).oM (a:=⟨g,1,none⟩) hg v).oM (a:=⟨g,2,none⟩) hg x).oM (a:=⟨g,3,none⟩) hg y
theorem AI.nil(w:World):AI w none 0 0 []:=⟨rfl,Nat.le_refl _,by unfold maxLen;omega,by omega,Rd.nil,fun j=>by simp[gx]⟩
theorem tV(a b:Int):Rat.divInt (-a) (-b)=Rat.divInt a b:=by
 have:=Rat.divInt_mul_right (n:=a) (d:=b) (a := -1) (by decide)
 rwa [Int.mul_neg_one,Int.mul_neg_one] at this
theorem Bb(w:World):Calls Tryz.prog 111 #[] w fun e w'=>∃t q m ys,e=.returned (.agg #[.bool false,.slice none 0 0,.bool t,.slice q m m])∧NI w.heap.size w' t q m ys 1∧m≤1∧Below w.heap.size w w':=by
 go_enter Tryz.func111,Tryz.ntmps111
 go_wp2_with fail
 have hR:Bq (w.alloc (.cells #[.bool false,.slice none 0 0,.bool false,.slice none 0 0] 26)) w.heap.size (.bool false) (.slice none 0 0) (.bool false) (.slice none 0 0):=Bq.new _ _ _ _ _ rfl
 have hW:Below w.heap.size w (w.alloc (.cells #[.bool false,.slice none 0 0,.bool false,.slice none 0 0] 26)):=(Below.refl _ _).alloc (Nat.le_refl _) _
 generalize w.alloc (.cells #[.bool false,.slice none 0 0,.bool false,.slice none 0 0] 26)=W at *
 refine(xK 1 _ (by decide) (by decide)).mono ?_
 rintro e w1 ⟨t,q,m,ys,rfl,hN,hn,hb⟩
 have hR1:=hR.later hb
 obtain⟨r0,r1,r2,r3,f0,f1,f2,f3⟩:=hR1
 have hs:=hR.lt
 go_wp2
 refine bodyPost_ret (v:=.agg #[.bool false,.slice none 0 0,.bool t,.slice q m m]) (by simp[results,Tryz.results111,go_sem,r0,r1,r2,r3]) rfl ⟨t,q,m,ys,rfl,?_,hN.le (by decide),?_⟩
 ·exact(hN.bq hs _ _ _ _).mono hW.size
 ·exact cL (ae hW hb) (Nat.le_refl _) _ _ _ _
def CU(K:Nat)(Q:Rat)(n0 m0:Nat)(p0 q0:Option Addr)(w:World)(e:Ending)(w':World):Prop:=
 ∃s p n nc xs t q m mc ys,e=.returned (.agg #[.bool s,.slice p n nc,.bool t,.slice q m mc])∧AI w' p n nc xs∧AI w' q m mc ys∧0<ak t ys∧Rat.divInt (ak s xs) (ak t ys)=Q∧n≤K∧m≤K∧
  (∀g,g<w.heap.size→(0<n0→Off g p0)→(0<m0→Off g q0)→(0<n→Off g p)∧(0<m→Off g q))∧Below w.heap.size w w'
theorem uD(s t:Bool)(p q:Option Addr)(n nc m mc:Nat)(xs ys:List Int)(w:World)(hA:AI w p n nc xs)(hB:AI w q m mc ys)(K:Nat)(hK:1≤K)(hn:n≤K)(hm:m≤K):
  Calls Tryz.prog 67 #[.agg #[.bool s,.slice p n nc,.bool t,.slice q m mc]] w (CU K (Rat.divInt (ak s xs) (ak t ys)) n m p q w):=by
 have hc:Hid (0<ak t ys∨ak t ys=0∨ak t ys<0):=(show 0<ak t ys∨ak t ys=0∨ak t ys<0 from by omega)
 go_enter Tryz.func67,Tryz.ntmps67
 go_wp2_with fail
 have hA0:Bq ((w.alloc (.cells #[.bool s,.slice p n nc,.bool t,.slice q m mc] 26)).alloc (.cells #[.bool false,.slice none 0 0,.bool false,.slice none 0 0] 26)) w.heap.size (.bool s) (.slice p n nc) (.bool t) (.slice q m mc):=(Bq.new _ _ _ _ _ rfl).alloc _
 have hR:Bq ((w.alloc (.cells #[.bool s,.slice p n nc,.bool t,.slice q m mc] 26)).alloc (.cells #[.bool false,.slice none 0 0,.bool false,.slice none 0 0] 26)) (w.heap.size+1) (.bool false) (.slice none 0 0) (.bool false) (.slice none 0 0):=Bq.new _ _ _ _ _ (by simp)
 have hW:Below w.heap.size w ((w.alloc (.cells #[.bool s,.slice p n nc,.bool t,.slice q m mc] 26)).alloc (.cells #[.bool false,.slice none 0 0,.bool false,.slice none 0 0] 26)):=((Below.refl _ _).alloc (Nat.le_refl _) _).alloc (by simp) _
 generalize (w.alloc (.cells #[.bool s,.slice p n nc,.bool t,.slice q m mc] 26)).alloc (.cells #[.bool false,.slice none 0 0,.bool false,.slice none 0 0] 26)=W at *
 refine(mT t q m mc ys _ (hB.below hW)).mono ?_
 rintro e w1 ⟨rfl,hb⟩
 have hA1:=hA0.later hb
 have hR1:=hR.later hb
 obtain⟨a0,a1,a2,a3,-,-,-,-⟩:=hA1
 obtain⟨r0,r1,r2,r3,f0,f1,f2,f3⟩:=hR1
 rcases hc.out with h0|h0|h0
 ·have hi:aG (ak t ys)=1:=eI h0
  rw[hi]
  go_wp2
  have hB':=cL (ae hW hb) (g:=w.heap.size+1) (by omega) (.bool s) (.slice p n nc) (.bool t) (.slice q m mc)
  exact bodyPost_ret (v:=.agg #[.bool s,.slice p n nc,.bool t,.slice q m mc]) (by simp[results,Tryz.results67,go_sem,r0,r1,r2,r3]) rfl ⟨_,_,_,_,xs,_,_,_,_,ys,rfl,hA.below hB',hB.below hB',h0,rfl,hn,hm,fun g _ h1 h2=>⟨h1,h2⟩,hB'⟩
 ·have hi:aG (ak t ys)=0:=gH h0
  rw[hi]
  go_wp2_with fail
  refine(Bb w1).mono ?_
  rintro e w2 ⟨t',q',m',ys',rfl,hN,hm',hb2⟩
  have hR2:=(hR.later hb).later hb2
  clear r0 r1 r2 r3 f0 f1 f2 f3
  obtain⟨r0,r1,r2,r3,f0,f1,f2,f3⟩:=hR2
  have hs:=hR.lt
  have hs1:=hb.size
  have hB':=cL (ae (ae hW hb) hb2) (g:=w.heap.size+1) (by omega) (.bool false) (.slice none 0 0) (.bool t') (.slice q' m' m')
  have hN':=hN.bq (g:=w.heap.size+1) (by omega) (.bool false) (.slice none 0 0) (.bool t') (.slice q' m' m')
  have H0:Hid (ak t ys=0):=h0
  clear h0
  go_wp2
  exact bodyPost_ret (v:=.agg #[.bool false,.slice none 0 0,.bool t',.slice q' m' m']) (by simp[results,Tryz.results67,go_sem,r0,r1,r2,r3]) rfl ⟨_,_,_,_,[],_,_,_,_,ys',rfl,AI.nil _,hN'.ai (by omega),by rw[hN'.v];decide,by rw[hN'.v,H0.out,Rat.divInt_zero];rfl,by omega,by omega,fun g hg _ _=>⟨fun h=>absurd h (Nat.lt_irrefl 0),fun _=>aT hN'.fr (by have:=hW.size;omega)⟩,hB'⟩
 ·have hi:aG (ak t ys) = -1:=eH h0
  rw[hi]
  have H0:Hid (ak t ys<0):=h0
  clear h0
  go_wp2_with fail
  go_region_held3 (fun w'=>w'.cell? ⟨w.heap.size,0,none⟩=some (.bool s)∧w'.cell? ⟨w.heap.size,1,none⟩=some (.slice p n nc)∧w'.cell? ⟨w.heap.size,2,none⟩=some (.bool t)∧w'.cell? ⟨w.heap.size,3,none⟩=some (.slice q m mc)) (first|with_reducible exact⟨a0,a1,a2,a3⟩|with_reducible exact bB ⟨a0,a1,a2,a3⟩ (aC hb2)|with_reducible exact bB ⟨a0,a1,a2,a3⟩ hB3|(simp[go_sem, *];done))
   (first
    |(go_at_call_of 112 (Value.agg #[.bool s,.slice p n nc]);refine(oY s p n nc xs _ (hA.below (ae hW hb)).drew).mono ?_;rintro e w2 ⟨s1,p1,n1,x1,rfl,hN1,hn1,hb2⟩)
    |(go_at_call_of 112 (Value.agg #[.bool t,.slice q m mc]);refine(oY t q m mc ys _ (hB.below (ae (ae hW hb) (aC hb2)))).mono ?_;rintro e w3 ⟨s2,p2,n2,x2,rfl,hN2,hn2,hb3⟩;have hB3:=ae (aC hb2) hb3;have hR3:=(hR.later hb).later hB3;obtain⟨r0,r1,r2,r3,f0,f1,f2,f3⟩:=hR3))
  have hs:=hR.lt
  have hs1:=hb.size
  have hs2:w1.heap.size≤w2.heap.size:=hb2.size
  have hB':=cL (ae (ae hW hb) hB3) (g:=w.heap.size+1) (by omega) (.bool s1) (.slice p1 n1 n1) (.bool s2) (.slice p2 n2 n2)
  have hN1':=(hN1.below hb3).bq (g:=w.heap.size+1) (show w.heap.size+1<w1.heap.size by omega) (.bool s1) (.slice p1 n1 n1) (.bool s2) (.slice p2 n2 n2)
  have hN2':=hN2.bq (g:=w.heap.size+1) (by omega) (.bool s1) (.slice p1 n1 n1) (.bool s2) (.slice p2 n2 n2)
  clear a0 a1 a2 a3
  go_wp2
  have l1:=hA.sml
  have l2:=hB.sml
  exact bodyPost_ret (v:=.agg #[.bool s1,.slice p1 n1 n1,.bool s2,.slice p2 n2 n2]) (by simp[results,Tryz.results67,go_sem,r0,r1,r2,r3]) rfl ⟨_,_,_,_,x1,_,_,_,_,x2,rfl,hN1'.ai (by omega),hN2'.ai (by omega),by rw[hN2'.v,kr];have:=H0.out;omega,by rw[hN1'.v,hN2'.v,kr,kr,tV],by omega,by omega,fun g hg _ _=>⟨fun _=>aT hN1'.fr (show g<w1.heap.size by have:=hW.size;omega),fun _=>aT hN2'.fr (by have:=hW.size;omega)⟩,hB'⟩
theorem oW{w:World}{r g:Nat}{a0 a1 a2 a3 x y:Value}(h:Bq w r a0 a1 a2 a3)(hne:r≠g):Bq ((w.setCell ⟨g,0,none⟩ x).setCell ⟨g,1,none⟩ y) r a0 a1 a2 a3:=by
 have e:((w.setCell ⟨g,0,none⟩ x).setCell ⟨g,1,none⟩ y).heap[r]?=w.heap[r]?:=by rw[heap_setCell_other _ _ _ _ hne,heap_setCell_other _ _ _ _ hne]
 exact⟨by rw[World.cell?_of_block e];exact h.c0,by rw[World.cell?_of_block e];exact h.c1,by rw[World.cell?_of_block e];exact h.c2,by rw[World.cell?_of_block e];exact h.c3,by rw[World.frozen?_of_block e];exact h.f0,by rw[World.frozen?_of_block e];exact h.f1,by rw[World.frozen?_of_block e];exact h.f2,by rw[World.frozen?_of_block e];exact h.f3⟩
structure NR(B:Nat)(w:World)(s:Bool)(p:Option Addr)(n:Nat)(xs:List Int)(t:Bool)(q:Option Addr)(m:Nat)(ys:List Int)(r:Rat):Prop where
 num:NI B w s p n xs r.num
 den:NI B w t q m ys (r.den:Int)
def nP(r:Rat)(w:World)(e:Ending)(w':World):Prop:=
 ∃s p n xs t q m ys,e=.returned (.agg #[.bool s,.slice p n n,.bool t,.slice q m m])∧NR w.heap.size w' s p n xs t q m ys r∧Below w.heap.size w w'
theorem wI(s t:Bool)(p q:Option Addr)(n nc m mc:Nat)(xs ys:List Int)(w:World)(hA:AI w p n nc xs)(hB:AI w q m mc ys)(hd:ak t ys≠0)(hn:n<150)(hm:m<150):
  Calls Tryz.prog 68 #[.agg #[.bool s,.slice p n nc],.agg #[.bool t,.slice q m mc]] w (nP (Rat.divInt (ak s xs) (ak t ys)) w):=by
 obtain⟨G,hG,hG0,hGa,hGb⟩:=mz (ak s xs) (ak t ys) hd
 have HG:Hid (G=(if ak t ys<0 then -(Int.gcd (ak s xs) (ak t ys):Int) else (Int.gcd (ak s xs) (ak t ys):Int))∧G≠0∧ak s xs=(Rat.divInt (ak s xs) (ak t ys)).num*G∧ak t ys=(Rat.divInt (ak s xs) (ak t ys)).den*G):=⟨hG,hG0,hGa,hGb⟩
 clear hG hG0 hGa hGb
 generalize Rat.divInt (ak s xs) (ak t ys)=R at *
 go_enter Tryz.func68,Tryz.ntmps68
 go_wp2_with fail
 have hA0:Bx (((w.alloc (.cells #[.bool s,.slice p n nc] 24)).alloc (.cells #[.bool t,.slice q m mc] 24)).alloc (.cells #[.bool false,.slice none 0 0,.bool false,.slice none 0 0] 26)) w.heap.size (.bool s) (.slice p n nc):=((Bx.new _ _ _ rfl).alloc _).alloc _
 have hB0:Bx (((w.alloc (.cells #[.bool s,.slice p n nc] 24)).alloc (.cells #[.bool t,.slice q m mc] 24)).alloc (.cells #[.bool false,.slice none 0 0,.bool false,.slice none 0 0] 26)) (w.heap.size+1) (.bool t) (.slice q m mc):=(Bx.new _ _ _ (by simp)).alloc _
 have hR:Bq (((w.alloc (.cells #[.bool s,.slice p n nc] 24)).alloc (.cells #[.bool t,.slice q m mc] 24)).alloc (.cells #[.bool false,.slice none 0 0,.bool false,.slice none 0 0] 26)) (w.heap.size+1+1) (.bool false) (.slice none 0 0) (.bool false) (.slice none 0 0):=Bq.new _ _ _ _ _ (by simp)
 have hW:Below w.heap.size w (((w.alloc (.cells #[.bool s,.slice p n nc] 24)).alloc (.cells #[.bool t,.slice q m mc] 24)).alloc (.cells #[.bool false,.slice none 0 0,.bool false,.slice none 0 0] 26)):=(((Below.refl _ _).alloc (Nat.le_refl _) _).alloc (by simp) _).alloc (by simp;omega) _
 generalize ((w.alloc (.cells #[.bool s,.slice p n nc] 24)).alloc (.cells #[.bool t,.slice q m mc] 24)).alloc (.cells #[.bool false,.slice none 0 0,.bool false,.slice none 0 0] 26)=W at *
 refine(Bz s t p q n nc m mc xs ys _ (hA.below hW) (hB.below hW) 150 (by decide) (by decide) hn hm).mono ?_
 rintro e w1 ⟨s1,p1,n1,z1,rfl,hN1,hn1,hb1⟩
 have hA2:=(hA0.later hb1).alloc (.cells #[.bool s1,.slice p1 n1 n1] 24)
 have hB2:=(hB0.later hb1).alloc (.cells #[.bool s1,.slice p1 n1 n1] 24)
 have hR2:=(hR.later hb1).alloc (.cells #[.bool s1,.slice p1 n1 n1] 24)
 have hg2:Bx (w1.alloc (.cells #[.bool s1,.slice p1 n1 n1] 24)) w1.heap.size (.bool s1) (.slice p1 n1 n1):=Bx.new _ _ _ rfl
 have hN2:=nO (o:=.cells #[.bool s1,.slice p1 n1 n1] 24) hN1
 have hW2:=ae hW (af (o:=.cells #[.bool s1,.slice p1 n1 n1] 24) hb1)
 have sW:=hb1.size
 have sR:=hR.lt
 clear hA0 hB0 hR hb1 hN1 hW
 have b0:=hB2.c0
 have b1:=hB2.c1
 have sr:=hR2.lt
 have hn1':n1≤m:=hN2.le (by have:=hB.lt t;have h2:=Int.gcd_le_natAbs_right (a:=ak s xs) hd;omega)
 go_wp2_with fail
 generalize w1.alloc (.cells #[.bool s1,.slice p1 n1 n1] 24)=W2 at *
 generalize w1.heap.size=g at *
 refine(mT t q m mc ys _ (hB.below hW2)).mono ?_
 rintro e w3 ⟨rfl,hb3⟩
 have hA3:=hA2.later hb3
 have hB3:=hB2.later hb3
 have hR3:=hR2.later hb3
 have hg3:=hg2.later hb3
 have hN3:=hN2.below hb3
 have hW3:=ae hW2 hb3
 clear hA2 hB2 hR2 hg2 hN2 hW2 hb3 b0 b1 sr
 rcases(show ak t ys<0∨0<ak t ys by omega) with h0|h0
 ·rw[eH h0]
  have HG4:Hid (G = -(Int.gcd (ak s xs) (ak t ys):Int)):=by have:=HG.out.1;rw[if_pos h0] at this;exact this
  clear h0
  have g0:=hg3.c0
  have g1:=hg3.c1
  go_wp2_with fail
  refine(oY s1 p1 n1 n1 z1 _ (hN3.ai (by omega))).mono ?_
  rintro e w4 ⟨s4,p4,n4,z4,rfl,hN4,hn4,hb4⟩
  have hg4:=hg3.later hb4
  have hv4:ak (!s1) z1=G:=by rw[kr,hN3.v,HG4.out]
  rw[hv4] at hN4
  have sl:g<w3.heap.size:=block_lt_of_cell g0
  have sl2:=hW3.size
  have hA5:=cS (g:=g) (x:=.bool s4) (y:=.slice p4 n4 n4) (hA3.later hb4) (by omega)
  have hB5:=cS (g:=g) (x:=.bool s4) (y:=.slice p4 n4 n4) (hB3.later hb4) (by omega)
  have hR5:=oW (g:=g) (x:=.bool s4) (y:=.slice p4 n4 n4) (hR3.later hb4) (by omega)
  have hg5:=dI (x:=.bool s4) (y:=.slice p4 n4 n4) hg4
  have hN5:=(((hN4.set (a:=⟨g,0,none⟩) sl (.bool s4)).set (a:=⟨g,1,none⟩) sl (.slice p4 n4 n4))).mono (B':=W.heap.size) (by omega)
  have hW5:=c8 (g:=g) (ae hW3 hb4) (by omega) (.bool s4) (.slice p4 n4 n4)
  obtain⟨-,-,gf0,gf1⟩:=hg4
  have g0':=(hg3.later hb4).c0
  have g1':=(hg3.later hb4).c1
  clear hA3 hB3 hR3 hg3 hN3 hW3 hv4 HG4 g0 g1 hN4
  have a0:=hA5.c0
  have a1:=hA5.c1
  have g0:=hg5.c0
  have g1:=hg5.c1
  go_wp2_with fail
  have hG0:val z4≠0:=by
   intro h
   have h2:=hN5.v
   have h3:=HG.out.2.1
   rw[ak,h] at h2
   simp at h2
   exact h3 h2.symm
  refine(jx s s4 p p4 n nc n4 n4 xs z4 _ (hA.below hW5) (hN5.ai (by omega)) (by omega) hG0).mono ?_
  rintro e w6 ⟨s6,p6,n6,z6,s7,p7,n7,z7,Q,R7,rfl,hN6,hN7,h1,h2,h3,hn6,hn7,hb6⟩
  have hB6:=hB5.later hb6
  have hR6:=hR5.later hb6
  have hg6:=hg5.later hb6
  have hN6':=hN5.below hb6
  have hW6:=ae hW5 hb6
  obtain⟨rfl,rfl⟩:Q=R.num∧R7=0:=by
   rw[hN5.v] at h1 h3
   exact ediv_one _ _ _ _ _ h1.symm h2 h3 HG.out.2.2.1
  have sV:=(show _<_ from block_lt_of_cell hg5.c0)
  have hM6:=hN6.mono (B':=W.heap.size) (Nat.le_of_lt (Nat.lt_of_le_of_lt sW sV))
  clear a0 a1 g0 g1 hN6 hN7 h1 h2 h3 hn7
  have hal:=af (o:=.cells #[.bool s7,.slice p7 n7 n7] 24) (af (o:=.cells #[.bool s6,.slice p6 n6 n6] 24) (Below.refl w6.heap.size w6))
  have hB8:=hB6.later hal
  have hR8:=hR6.later hal
  have hg8:=hg6.later hal
  have hM8:=hM6.below hal
  have hN8:=hN6'.below hal
  have hW8:=ae hW6 hal
  have hn8:Bx ((w6.alloc (.cells #[.bool s6,.slice p6 n6 n6] 24)).alloc (.cells #[.bool s7,.slice p7 n7 n7] 24)) w6.heap.size (.bool s6) (.slice p6 n6 n6):=(Bx.new _ _ _ rfl).alloc _
  clear hal hB6 hR6 hg6 hM6 hN6' hW6 hA5 hB5 hR5 hg5 hN5 hW5 hb6
  have b0:=hB8.c0
  have b1:=hB8.c1
  have g0:=hg8.c0
  have g1:=hg8.c1
  go_wp2_with fail
  generalize (w6.alloc (.cells #[.bool s6,.slice p6 n6 n6] 24)).alloc (.cells #[.bool s7,.slice p7 n7 n7] 24)=W8 at *
  generalize w6.heap.size=gn at *
  refine(jx t s4 q p4 m mc n4 n4 ys z4 _ (hB.below hW8) (hN8.ai (by omega)) (by omega) hG0).mono ?_
  rintro e w9 ⟨s9,p9,n9,z9,s10,p10,n10,z10,Q,R7,rfl,hN9,hN10,h1,h2,h3,hn9,hn10,hb9⟩
  obtain⟨rfl,rfl⟩:Q=R.den∧R7=0:=by
   rw[hN8.v] at h1 h3
   exact ediv_one _ _ _ _ _ h1.symm h2 h3 HG.out.2.2.2
  have sV2:=(show _<_ from block_lt_of_cell g0)
  have hal:=af (o:=.cells #[.bool s10,.slice p10 n10 n10] 24) (af (o:=.cells #[.bool s9,.slice p9 n9 n9] 24) hb9)
  have hR11:=hR8.later hal
  have hn11:=hn8.later hal
  have hd11:Bx ((w9.alloc (.cells #[.bool s9,.slice p9 n9 n9] 24)).alloc (.cells #[.bool s10,.slice p10 n10 n10] 24)) w9.heap.size (.bool s9) (.slice p9 n9 n9):=(Bx.new _ _ _ rfl).alloc _
  have hM11:=hM8.below hal
  have hW11:=ae hW8 hal
  have hE11:=(nO (o:=.cells #[.bool s10,.slice p10 n10 n10] 24) (nO (o:=.cells #[.bool s9,.slice p9 n9 n9] 24) hN9)).mono (B':=W.heap.size) (Nat.le_of_lt (Nat.lt_of_le_of_lt sW sV2))
  clear b0 b1 g0 g1 hB8 hR8 hg8 hM8 hN8 hW8 hn8 hal hN9 hN10 h1 h2 h3 hb9
  obtain⟨r0,r1,r2,r3,f0,f1,f2,f3⟩:=hR11
  obtain⟨n0,n1',-,-⟩:=hn11
  obtain⟨d0,d1,-,-⟩:=hd11
  go_wp2
  generalize (w9.alloc (.cells #[.bool s9,.slice p9 n9 n9] 24)).alloc (.cells #[.bool s10,.slice p10 n10 n10] 24)=W11 at *
  refine bodyPost_ret (v:=.agg #[.bool s6,.slice p6 n6 n6,.bool s9,.slice p9 n9 n9]) (by simp[results,Tryz.results68,go_sem,r0,r1,r2,r3]) rfl ⟨_,_,_,z6,_,_,_,z9,rfl,⟨?_,?_⟩,?_⟩
  ·exact(hM11.bq sR _ _ _ _).mono (by omega)
  ·exact(hE11.bq sR _ _ _ _).mono (by omega)
  ·exact cL hW11 (by omega) _ _ _ _
 ·rw[eI h0]
  have HG4:Hid (G=(Int.gcd (ak s xs) (ak t ys):Int)):=by have:=HG.out.1;rw[if_neg (by omega)] at this;exact this
  clear h0
  rw[←HG4.out] at hN3
  obtain⟨s4,hs4⟩:∃x,x=s1:=⟨_,rfl⟩
  obtain⟨p4,hp4⟩:∃x,x=p1:=⟨_,rfl⟩
  obtain⟨n4,hn4⟩:∃x,x=n1:=⟨_,rfl⟩
  obtain⟨z4,hz4⟩:∃x,x=z1:=⟨_,rfl⟩
  subst hs4 hp4 hn4 hz4
  have hA5:=hA3
  have hB5:=hB3
  have hR5:=hR3
  have hg5:=hg3
  have hN5:=hN3
  have hW5:=hW3
  clear hA3 hB3 hR3 hg3 hN3 hW3 HG4
  have a0:=hA5.c0
  have a1:=hA5.c1
  have g0:=hg5.c0
  have g1:=hg5.c1
  go_wp2_with fail
  have hG0:val z4≠0:=by
   intro h
   have h2:=hN5.v
   have h3:=HG.out.2.1
   rw[ak,h] at h2
   simp at h2
   exact h3 h2.symm
  refine(jx s s4 p p4 n nc n4 n4 xs z4 _ (hA.below hW5) (hN5.ai (by omega)) (by omega) hG0).mono ?_
  rintro e w6 ⟨s6,p6,n6,z6,s7,p7,n7,z7,Q,R7,rfl,hN6,hN7,h1,h2,h3,hn6,hn7,hb6⟩
  have hB6:=hB5.later hb6
  have hR6:=hR5.later hb6
  have hg6:=hg5.later hb6
  have hN6':=hN5.below hb6
  have hW6:=ae hW5 hb6
  obtain⟨rfl,rfl⟩:Q=R.num∧R7=0:=by
   rw[hN5.v] at h1 h3
   exact ediv_one _ _ _ _ _ h1.symm h2 h3 HG.out.2.2.1
  have sV:=(show _<_ from block_lt_of_cell hg5.c0)
  have hM6:=hN6.mono (B':=W.heap.size) (Nat.le_of_lt (Nat.lt_of_le_of_lt sW sV))
  clear a0 a1 g0 g1 hN6 hN7 h1 h2 h3 hn7
  have hal:=af (o:=.cells #[.bool s7,.slice p7 n7 n7] 24) (af (o:=.cells #[.bool s6,.slice p6 n6 n6] 24) (Below.refl w6.heap.size w6))
  have hB8:=hB6.later hal
  have hR8:=hR6.later hal
  have hg8:=hg6.later hal
  have hM8:=hM6.below hal
  have hN8:=hN6'.below hal
  have hW8:=ae hW6 hal
  have hn8:Bx ((w6.alloc (.cells #[.bool s6,.slice p6 n6 n6] 24)).alloc (.cells #[.bool s7,.slice p7 n7 n7] 24)) w6.heap.size (.bool s6) (.slice p6 n6 n6):=(Bx.new _ _ _ rfl).alloc _
  clear hal hB6 hR6 hg6 hM6 hN6' hW6 hA5 hB5 hR5 hg5 hN5 hW5 hb6
  have b0:=hB8.c0
  have b1:=hB8.c1
  have g0:=hg8.c0
  have g1:=hg8.c1
  go_wp2_with fail
  generalize (w6.alloc (.cells #[.bool s6,.slice p6 n6 n6] 24)).alloc (.cells #[.bool s7,.slice p7 n7 n7] 24)=W8 at *
  generalize w6.heap.size=gn at *
  refine(jx t s4 q p4 m mc n4 n4 ys z4 _ (hB.below hW8) (hN8.ai (by omega)) (by omega) hG0).mono ?_
  rintro e w9 ⟨s9,p9,n9,z9,s10,p10,n10,z10,Q,R7,rfl,hN9,hN10,h1,h2,h3,hn9,hn10,hb9⟩
  obtain⟨rfl,rfl⟩:Q=R.den∧R7=0:=by
   rw[hN8.v] at h1 h3
   exact ediv_one _ _ _ _ _ h1.symm h2 h3 HG.out.2.2.2
  have sV2:=(show _<_ from block_lt_of_cell g0)
  have hal:=af (o:=.cells #[.bool s10,.slice p10 n10 n10] 24) (af (o:=.cells #[.bool s9,.slice p9 n9 n9] 24) hb9)
  have hR11:=hR8.later hal
  have hn11:=hn8.later hal
  have hd11:Bx ((w9.alloc (.cells #[.bool s9,.slice p9 n9 n9] 24)).alloc (.cells #[.bool s10,.slice p10 n10 n10] 24)) w9.heap.size (.bool s9) (.slice p9 n9 n9):=(Bx.new _ _ _ rfl).alloc _
  have hM11:=hM8.below hal
  have hW11:=ae hW8 hal
  have hE11:=(nO (o:=.cells #[.bool s10,.slice p10 n10 n10] 24) (nO (o:=.cells #[.bool s9,.slice p9 n9 n9] 24) hN9)).mono (B':=W.heap.size) (Nat.le_of_lt (Nat.lt_of_le_of_lt sW sV2))
  clear b0 b1 g0 g1 hB8 hR8 hg8 hM8 hN8 hW8 hn8 hal hN9 hN10 h1 h2 h3 hb9
  obtain⟨r0,r1,r2,r3,f0,f1,f2,f3⟩:=hR11
  obtain⟨n0,n1',-,-⟩:=hn11
  obtain⟨d0,d1,-,-⟩:=hd11
  go_wp2
  generalize (w9.alloc (.cells #[.bool s9,.slice p9 n9 n9] 24)).alloc (.cells #[.bool s10,.slice p10 n10 n10] 24)=W11 at *
  refine bodyPost_ret (v:=.agg #[.bool s6,.slice p6 n6 n6,.bool s9,.slice p9 n9 n9]) (by simp[results,Tryz.results68,go_sem,r0,r1,r2,r3]) rfl ⟨_,_,_,z6,_,_,_,z9,rfl,⟨?_,?_⟩,?_⟩
  ·exact(hM11.bq sR _ _ _ _).mono (by omega)
  ·exact(hE11.bq sR _ _ _ _).mono (by omega)
  ·exact cL hW11 (by omega) _ _ _ _
end Go.Proofs.YtfnkomoickanfaaGreatDoor
