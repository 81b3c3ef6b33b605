/- Own. -/
import Derived.Test.YtfnkomoickanfaaGreatDoorRv
set_option linter.unusedVariables false
set_option linter.unusedSimpArgs false
set_option maxHeartbeats 8000000
set_option maxRecDepth 100000
namespace Go.Proofs.YtfnkomoickanfaaGreatDoor
open Go.RowKit
def rH(V g:Int)(w:World)(e:Ending)(w':World):Prop:=
 ∃s1 p1 n1 d1 p2,e=.returned (.tuple #[.agg #[.bool s1,.slice p1 n1 n1],.agg #[.bool false,.slice p2 0 0]])∧RN w' s1 p1 n1 d1∧ag s1 d1*g=V∧az w.heap.size p1∧Below w.heap.size w w'
theorem tu{w:World}{q:Option Addr}{xs:List Int}(s:Bool)(hX:Rd w q .i64 xs)(hU:U16 xs)(hl:xs.length≤1000000):RN w (nsg s xs) q (ad xs) (tr xs):=
 ⟨au xs,hX.tr,j6 hU,aZ xs,fun h=>by rw[nsg,if_pos h],by have:=ao xs;omega⟩
theorem uX{a q g r:Int}(h:q*g+r=a)(h0:0≤r)(h1:r<g)(hx:∃c,a=c*g):r=0:=by
 obtain⟨c,hc⟩:=hx
 exact(ediv_one a q g r c h.symm h0 (by omega) hc).2
theorem uf(p q:Option Addr)(n m:Nat)(ds es:List Int)(w:World)(hA:RN w true p n ds)(hB:RN w false q m es)(hn:n≤1000)(hm:m≤1000)(hm0:0<m)(hx:∃c,vd ds=c*vd es):
  Calls Tryz.prog 87 #[.agg #[.bool true,.slice p n n],.agg #[.bool false,.slice q m m]] w (rH (ag true ds) (vd es) w):=by
 have HX:=(show Hid _ from hx)
 clear hx
 go_enter Tryz.func87,Tryz.ntmps87
 go_upto_region 1 with fail
 have b1:Bx (((((w.alloc (.cells #[.bool true,.slice p n n] 43)).alloc (.cells #[.bool false,.slice q m m] 43)).alloc (.cells #[.bool false,.slice none 0 0] 43)).alloc (.cells #[.bool false,.slice none 0 0] 43))) w.heap.size (.bool true) (.slice p n n):=(((Bx.new _ _ _ rfl).alloc _).alloc _).alloc _
 have b2:Bx (((((w.alloc (.cells #[.bool true,.slice p n n] 43)).alloc (.cells #[.bool false,.slice q m m] 43)).alloc (.cells #[.bool false,.slice none 0 0] 43)).alloc (.cells #[.bool false,.slice none 0 0] 43))) (w.heap.size+1) (.bool false) (.slice q m m):=((Bx.new _ _ _ (World.size_alloc ..).symm).alloc _).alloc _
 have b3:Bx (((((w.alloc (.cells #[.bool true,.slice p n n] 43)).alloc (.cells #[.bool false,.slice q m m] 43)).alloc (.cells #[.bool false,.slice none 0 0] 43)).alloc (.cells #[.bool false,.slice none 0 0] 43))) (w.heap.size+1+1) (.bool false) (.slice none 0 0):=(Bx.new _ _ _ (by rw[World.size_alloc,World.size_alloc])).alloc _
 have b4:Bx (((((w.alloc (.cells #[.bool true,.slice p n n] 43)).alloc (.cells #[.bool false,.slice q m m] 43)).alloc (.cells #[.bool false,.slice none 0 0] 43)).alloc (.cells #[.bool false,.slice none 0 0] 43))) (w.heap.size+1+1+1) (.bool false) (.slice none 0 0):=Bx.new _ _ _ (by rw[World.size_alloc,World.size_alloc,World.size_alloc])
 have hbw:Below w.heap.size w (((((w.alloc (.cells #[.bool true,.slice p n n] 43)).alloc (.cells #[.bool false,.slice q m m] 43)).alloc (.cells #[.bool false,.slice none 0 0] 43)).alloc (.cells #[.bool false,.slice none 0 0] 43))):=af (af (af (af (Below.refl _ _))))
 generalize ((((w.alloc (.cells #[.bool true,.slice p n n] 43)).alloc (.cells #[.bool false,.slice q m m] 43)).alloc (.cells #[.bool false,.slice none 0 0] 43)).alloc (.cells #[.bool false,.slice none 0 0] 43))=W at *
 have hA1:=hA.below hbw
 have hB1:=hB.below hbw
 have k1:=b1.c1
 have k2:=b2.c1
 go_wp2_with fail
 refine(jt p q n n m m ds es _ hA1.len hn (Nat.le_refl _) (by unfold maxLen;omega) hA1.rd hA1.u hA1.nrm hB1.len hm0 hm hB1.rd hB1.u hB1.nrm).mono ?_
 rintro e w1 ⟨qa,qn,qc,qs,ra,rn,rc,rs,rfl,q1,q2,q3,q4,q5,q6,r1,r2,r3,r4,r5,r6,eq,lt,hb1,qf,rf⟩
 have c1:=b1.later hb1
 have c2:=b2.later hb1
 have c3:=b3.later hb1
 have c4:=b4.later hb1
 have hbw1:=aW hbw (Nat.le_refl _) hb1
 have hWs:w.heap.size+1+1+1<W.heap.size:=block_lt_of_cell b4.c0
 have HW:Hid (w.heap.size+1+1+1<W.heap.size∧W.heap.size≤w1.heap.size):=⟨hWs,hb1.size⟩
 have hr0:vd rs=0:=uX eq (ay r2) lt HX.out
 have HT:Hid (ad rs=0):=(bg r2).2 hr0
 have HQ:Hid (U16 qs∧ag true qs*vd es=ag true ds∧az W.heap.size qa):=by
  refine⟨q2,?_,qf⟩
  rw[hr0,Int.add_zero] at eq
  show -vd qs*vd es = -vd ds
  rw[Int.neg_mul,eq]
 clear rf hWs eq lt hr0 b1 b2 b3 b4 hbw k1 k2 hA1 hB1 q2 r2 qf
 have k0:=c1.c0
 have k1:=c2.c0
 go_wp2_with fail
 refine(bE true qa qn qc qs _ q3 q4 q5 q1).mono ?_
 rintro e w2 ⟨rfl,hb2⟩
 generalize hs1:nsg true qs=s1
 have HS1:=(show Hid _ from hs1)
 clear hs1
 have hal2:Below w2.heap.size w2 (w2.alloc (.cells #[.bool s1,.slice qa (ad qs) (ad qs)] 43)):=af (Below.refl _ _)
 have x2:Bx (w2.alloc (.cells #[.bool s1,.slice qa (ad qs) (ad qs)] 43)) w2.heap.size (.bool s1) (.slice qa (ad qs) (ad qs)):=Bx.new _ _ _ rfl
 have d1:=(c1.later hb2).later hal2
 have d3:=(c3.later hb2).later hal2
 have d4:=(c4.later hb2).later hal2
 have e1:=(q1.below hb2).below hal2
 have e2:=(r1.below hb2).below hal2
 have hbw2:=aW (aW hbw1 (Nat.le_refl _) hb2) (Nat.le_refl _) hal2
 have HB2:Hid (w1.heap.size≤w2.heap.size):=hb2.size
 clear c1 c2 c3 c4 k0 k1 q1 r1 hbw1 hb2 hal2
 have k0:=d1.c0
 go_wp2_with fail
 have HG2:Hid (w1.heap.size≤w2.heap.size∧w2.heap.size≤(w2.alloc (.cells #[.bool s1,.slice qa (ad qs) (ad qs)] 43)).heap.size):=⟨HB2.out,by simp⟩
 generalize (w2.alloc (.cells #[.bool s1,.slice qa (ad qs) (ad qs)] 43))=W2 at *
 generalize w2.heap.size=gx2 at *
 refine(bE true ra rn rc rs _ r3 r4 r5 e2).mono ?_
 rintro e w3 ⟨rfl,hb3⟩
 have hns:nsg true rs=false:=by rw[nsg,if_pos HT.out]
 rw[hns,HT.out]
 clear hns
 have hal3:Below w3.heap.size w3 (w3.alloc (.cells #[.bool false,.slice ra 0 0] 43)):=af (Below.refl _ _)
 have y3:Bx (w3.alloc (.cells #[.bool false,.slice ra 0 0] 43)) w3.heap.size (.bool false) (.slice ra 0 0):=Bx.new _ _ _ rfl
 have x3:=(x2.later hb3).later hal3
 have f3:=(d3.later hb3).later hal3
 have f4:=(d4.later hb3).later hal3
 have g1:=(e1.below hb3).below hal3
 have hbw3:=aW (aW hbw2 (Nat.le_refl _) hb3) (Nat.le_refl _) hal3
 have HG:Hid (gx2≠w.heap.size+1+1∧gx2≠w.heap.size+1+1+1∧w3.heap.size≠w.heap.size+1+1∧w3.heap.size≠w.heap.size+1+1+1):=by
  have h1:=HG2.out
  have h2:=HW.out
  have h3:=hb3.size
  exact⟨by omega,by omega,by omega,by omega⟩
 clear d1 d3 d4 k0 x2 e1 e2 hbw2 hb3 hal3
 have k0:=y3.c0
 have k1:=y3.c1
 have k2:=x3.c0
 have k3:=x3.c1
 have z0:=f3.c0
 have z1:=f3.c1
 have z2:=f4.c0
 have z3:=f4.c1
 have v0:=f3.f0
 have v1:=f3.f1
 have v2:=f4.f0
 have v3:=f4.f1
 go_wp2_with fail
 generalize (w3.alloc (.cells #[.bool false,.slice ra 0 0] 43))=W3 at *
 generalize w3.heap.size=gx3 at *
 have hg2:gx2≠w.heap.size+1+1∧gx2≠w.heap.size+1+1+1∧gx3≠w.heap.size+1+1∧gx3≠w.heap.size+1+1+1:=HG.out
 obtain⟨o1,o2,o3,o4⟩:=hg2
 go_region
 all_goals go_wp2
 have hN1:=tu true g1 HQ.out.1 (by omega)
 have hO1:0<ad qs→Off (w.heap.size+1+1) qa:=fun _ a ha e=>by have:=HQ.out.2.2 a ha;have:=HW.out;omega
 have hO2:0<ad qs→Off (w.heap.size+1+1+1) qa:=fun _ a ha e=>by have:=HQ.out.2.2 a ha;have:=HW.out;omega
 have hv:=iK true HQ.out.1
 rw[HS1.out] at hN1 hv
 refine bodyPost_ret (v:=.tuple #[.agg #[.bool s1,.slice qa (ad qs) (ad qs)],.agg #[.bool false,.slice ra 0 0]]) (by simp[results,Tryz.results87,go_sem,z0,z1,z2,z3]) rfl ⟨s1,qa,ad qs,tr qs,ra,rfl,?_,by rw[hv];exact HQ.out.2.1,fun a ha=>by have:=HQ.out.2.2 a ha;have:=HW.out;omega,?_⟩
 ·exact((((hN1.drew.set (a:=⟨w.heap.size+1+1,0,none⟩) hO1 _).set (a:=⟨w.heap.size+1+1,1,none⟩) hO1 _).set (a:=⟨w.heap.size+1+1+1,0,none⟩) hO2 _).set (a:=⟨w.heap.size+1+1+1,1,none⟩) hO2 _)
 ·exact(((hbw3.drew.setCell (p:=⟨w.heap.size+1+1,0,none⟩) (by simp;omega) _).setCell (p:=⟨w.heap.size+1+1,1,none⟩) (by simp;omega) _).setCell (p:=⟨w.heap.size+1+1+1,0,none⟩) (by simp;omega) _).setCell (p:=⟨w.heap.size+1+1+1,1,none⟩) (by simp;omega) _
theorem te(p q:Option Addr)(n m:Nat)(ds es:List Int)(w:World)(hA:RN w false p n ds)(hB:RN w false q m es)(hn:n≤1000)(hm:m≤1000)(hm0:0<m)(hx:∃c,vd ds=c*vd es):
  Calls Tryz.prog 87 #[.agg #[.bool false,.slice p n n],.agg #[.bool false,.slice q m m]] w (rH (ag false ds) (vd es) w):=by
 have HX:=(show Hid _ from hx)
 clear hx
 go_enter Tryz.func87,Tryz.ntmps87
 go_upto_region 1 with fail
 have b1:Bx (((((w.alloc (.cells #[.bool false,.slice p n n] 43)).alloc (.cells #[.bool false,.slice q m m] 43)).alloc (.cells #[.bool false,.slice none 0 0] 43)).alloc (.cells #[.bool false,.slice none 0 0] 43))) w.heap.size (.bool false) (.slice p n n):=(((Bx.new _ _ _ rfl).alloc _).alloc _).alloc _
 have b2:Bx (((((w.alloc (.cells #[.bool false,.slice p n n] 43)).alloc (.cells #[.bool false,.slice q m m] 43)).alloc (.cells #[.bool false,.slice none 0 0] 43)).alloc (.cells #[.bool false,.slice none 0 0] 43))) (w.heap.size+1) (.bool false) (.slice q m m):=((Bx.new _ _ _ (World.size_alloc ..).symm).alloc _).alloc _
 have b3:Bx (((((w.alloc (.cells #[.bool false,.slice p n n] 43)).alloc (.cells #[.bool false,.slice q m m] 43)).alloc (.cells #[.bool false,.slice none 0 0] 43)).alloc (.cells #[.bool false,.slice none 0 0] 43))) (w.heap.size+1+1) (.bool false) (.slice none 0 0):=(Bx.new _ _ _ (by rw[World.size_alloc,World.size_alloc])).alloc _
 have b4:Bx (((((w.alloc (.cells #[.bool false,.slice p n n] 43)).alloc (.cells #[.bool false,.slice q m m] 43)).alloc (.cells #[.bool false,.slice none 0 0] 43)).alloc (.cells #[.bool false,.slice none 0 0] 43))) (w.heap.size+1+1+1) (.bool false) (.slice none 0 0):=Bx.new _ _ _ (by rw[World.size_alloc,World.size_alloc,World.size_alloc])
 have hbw:Below w.heap.size w (((((w.alloc (.cells #[.bool false,.slice p n n] 43)).alloc (.cells #[.bool false,.slice q m m] 43)).alloc (.cells #[.bool false,.slice none 0 0] 43)).alloc (.cells #[.bool false,.slice none 0 0] 43))):=af (af (af (af (Below.refl _ _))))
 generalize ((((w.alloc (.cells #[.bool false,.slice p n n] 43)).alloc (.cells #[.bool false,.slice q m m] 43)).alloc (.cells #[.bool false,.slice none 0 0] 43)).alloc (.cells #[.bool false,.slice none 0 0] 43))=W at *
 have hA1:=hA.below hbw
 have hB1:=hB.below hbw
 have k1:=b1.c1
 have k2:=b2.c1
 go_wp2_with fail
 refine(jt p q n n m m ds es _ hA1.len hn (Nat.le_refl _) (by unfold maxLen;omega) hA1.rd hA1.u hA1.nrm hB1.len hm0 hm hB1.rd hB1.u hB1.nrm).mono ?_
 rintro e w1 ⟨qa,qn,qc,qs,ra,rn,rc,rs,rfl,q1,q2,q3,q4,q5,q6,r1,r2,r3,r4,r5,r6,eq,lt,hb1,qf,rf⟩
 have c1:=b1.later hb1
 have c2:=b2.later hb1
 have c3:=b3.later hb1
 have c4:=b4.later hb1
 have hbw1:=aW hbw (Nat.le_refl _) hb1
 have hWs:w.heap.size+1+1+1<W.heap.size:=block_lt_of_cell b4.c0
 have HW:Hid (w.heap.size+1+1+1<W.heap.size∧W.heap.size≤w1.heap.size):=⟨hWs,hb1.size⟩
 have hr0:vd rs=0:=uX eq (ay r2) lt HX.out
 have HT:Hid (ad rs=0):=(bg r2).2 hr0
 have HQ:Hid (U16 qs∧ag false qs*vd es=ag false ds∧az W.heap.size qa):=by
  refine⟨q2,?_,qf⟩
  rw[hr0,Int.add_zero] at eq
  show vd qs*vd es=vd ds
  exact eq
 clear rf hWs eq lt hr0 b1 b2 b3 b4 hbw k1 k2 hA1 hB1 q2 r2 qf
 have k0:=c1.c0
 have k1:=c2.c0
 go_wp2_with fail
 refine(bE false qa qn qc qs _ q3 q4 q5 q1).mono ?_
 rintro e w2 ⟨rfl,hb2⟩
 generalize hs1:nsg false qs=s1
 have HS1:=(show Hid _ from hs1)
 clear hs1
 have hal2:Below w2.heap.size w2 (w2.alloc (.cells #[.bool s1,.slice qa (ad qs) (ad qs)] 43)):=af (Below.refl _ _)
 have x2:Bx (w2.alloc (.cells #[.bool s1,.slice qa (ad qs) (ad qs)] 43)) w2.heap.size (.bool s1) (.slice qa (ad qs) (ad qs)):=Bx.new _ _ _ rfl
 have d1:=(c1.later hb2).later hal2
 have d3:=(c3.later hb2).later hal2
 have d4:=(c4.later hb2).later hal2
 have e1:=(q1.below hb2).below hal2
 have e2:=(r1.below hb2).below hal2
 have hbw2:=aW (aW hbw1 (Nat.le_refl _) hb2) (Nat.le_refl _) hal2
 have HB2:Hid (w1.heap.size≤w2.heap.size):=hb2.size
 clear c1 c2 c3 c4 k0 k1 q1 r1 hbw1 hb2 hal2
 have k0:=d1.c0
 go_wp2_with fail
 have HG2:Hid (w1.heap.size≤w2.heap.size∧w2.heap.size≤(w2.alloc (.cells #[.bool s1,.slice qa (ad qs) (ad qs)] 43)).heap.size):=⟨HB2.out,by simp⟩
 generalize (w2.alloc (.cells #[.bool s1,.slice qa (ad qs) (ad qs)] 43))=W2 at *
 generalize w2.heap.size=gx2 at *
 refine(bE false ra rn rc rs _ r3 r4 r5 e2).mono ?_
 rintro e w3 ⟨rfl,hb3⟩
 have hns:nsg false rs=false:=by rw[nsg,if_pos HT.out]
 rw[hns,HT.out]
 clear hns
 have hal3:Below w3.heap.size w3 (w3.alloc (.cells #[.bool false,.slice ra 0 0] 43)):=af (Below.refl _ _)
 have y3:Bx (w3.alloc (.cells #[.bool false,.slice ra 0 0] 43)) w3.heap.size (.bool false) (.slice ra 0 0):=Bx.new _ _ _ rfl
 have x3:=(x2.later hb3).later hal3
 have f3:=(d3.later hb3).later hal3
 have f4:=(d4.later hb3).later hal3
 have g1:=(e1.below hb3).below hal3
 have hbw3:=aW (aW hbw2 (Nat.le_refl _) hb3) (Nat.le_refl _) hal3
 have HG:Hid (gx2≠w.heap.size+1+1∧gx2≠w.heap.size+1+1+1∧w3.heap.size≠w.heap.size+1+1∧w3.heap.size≠w.heap.size+1+1+1):=by
  have h1:=HG2.out
  have h2:=HW.out
  have h3:=hb3.size
  exact⟨by omega,by omega,by omega,by omega⟩
 clear d1 d3 d4 k0 x2 e1 e2 hbw2 hb3 hal3
 have k0:=y3.c0
 have k1:=y3.c1
 have k2:=x3.c0
 have k3:=x3.c1
 have z0:=f3.c0
 have z1:=f3.c1
 have z2:=f4.c0
 have z3:=f4.c1
 have v0:=f3.f0
 have v1:=f3.f1
 have v2:=f4.f0
 have v3:=f4.f1
 go_wp2_with fail
 generalize (w3.alloc (.cells #[.bool false,.slice ra 0 0] 43))=W3 at *
 generalize w3.heap.size=gx3 at *
 have hg2:gx2≠w.heap.size+1+1∧gx2≠w.heap.size+1+1+1∧gx3≠w.heap.size+1+1∧gx3≠w.heap.size+1+1+1:=HG.out
 obtain⟨o1,o2,o3,o4⟩:=hg2
 go_region
 all_goals go_wp2
 have hN1:=tu false g1 HQ.out.1 (by omega)
 have hO1:0<ad qs→Off (w.heap.size+1+1) qa:=fun _ a ha e=>by have:=HQ.out.2.2 a ha;have:=HW.out;omega
 have hO2:0<ad qs→Off (w.heap.size+1+1+1) qa:=fun _ a ha e=>by have:=HQ.out.2.2 a ha;have:=HW.out;omega
 have hv:=iK false HQ.out.1
 rw[HS1.out] at hN1 hv
 refine bodyPost_ret (v:=.tuple #[.agg #[.bool s1,.slice qa (ad qs) (ad qs)],.agg #[.bool false,.slice ra 0 0]]) (by simp[results,Tryz.results87,go_sem,z0,z1,z2,z3]) rfl ⟨s1,qa,ad qs,tr qs,ra,rfl,?_,by rw[hv];exact HQ.out.2.1,fun a ha=>by have:=HQ.out.2.2 a ha;have:=HW.out;omega,?_⟩
 ·exact((((hN1.drew.set (a:=⟨w.heap.size+1+1,0,none⟩) hO1 _).set (a:=⟨w.heap.size+1+1,1,none⟩) hO1 _).set (a:=⟨w.heap.size+1+1+1,0,none⟩) hO2 _).set (a:=⟨w.heap.size+1+1+1,1,none⟩) hO2 _)
 ·exact(((hbw3.drew.setCell (p:=⟨w.heap.size+1+1,0,none⟩) (by simp;omega) _).setCell (p:=⟨w.heap.size+1+1,1,none⟩) (by simp;omega) _).setCell (p:=⟨w.heap.size+1+1+1,0,none⟩) (by simp;omega) _).setCell (p:=⟨w.heap.size+1+1+1,1,none⟩) (by simp;omega) _
theorem yY(s:Bool)(p q:Option Addr)(n m:Nat)(ds es:List Int)(w:World)(hA:RN w s p n ds)(hB:RN w false q m es)(hn:n≤1000)(hm:m≤1000)(hm0:0<m)(hx:∃c,vd ds=c*vd es):
  Calls Tryz.prog 87 #[.agg #[.bool s,.slice p n n],.agg #[.bool false,.slice q m m]] w (rH (ag s ds) (vd es) w):=by
 cases s with
 |true=>exact uf p q n m ds es w hA hB hn hm hm0 hx
 |false=>exact te p q n m ds es w hA hB hn hm hm0 hx
theorem my{w:World}{s:Bool}{p:Option Addr}{n:Nat}{xs:List Int}(h:RN w s p n xs):
  Calls Tryz.prog 85 #[.agg #[.bool s,.slice p n n]] w fun e w'=>∃s',e=.returned (.agg #[.bool s',.slice p n n])∧RN w' s' p n xs∧Hid (ag s' xs = - ag s xs)∧Below w.heap.size w w':=by
 have hlt:=h.lt
 have HL:Hid (0<n→∀x,p=some x→x.block<w.heap.size):=hlt
 clear hlt
 have hsm:=h.sml
 have htl:=h.nrm
 have HT:Hid (ad xs=n):=htl
 clear htl
 go_enter Tryz.func85,Tryz.ntmps85
 go_wp2_with fail
 have hb2:Bx ((w.alloc (.cells #[.bool s,.slice p n n] 43)).alloc (.cells #[.bool false,.slice none 0 0] 43)) (w.heap.size+1) (.bool false) (.slice none 0 0):=Bx.new _ _ _ (World.size_alloc ..).symm
 have hbw:Below w.heap.size w ((w.alloc (.cells #[.bool s,.slice p n n] 43)).alloc (.cells #[.bool false,.slice none 0 0] 43)):=((Below.refl _ _).alloc (Nat.le_refl _) _).alloc (by simp) _
 generalize ((w.alloc (.cells #[.bool s,.slice p n n] 43)).alloc (.cells #[.bool false,.slice none 0 0] 43))=W at *
 refine(bE (!s) p n n xs _ h.len (Nat.le_refl _) (by unfold maxLen;omega) (h.rd.below hbw)).mono ?_
 rw[HT.out]
 rintro e w4 ⟨rfl,hb4⟩
 obtain⟨c0,c1,f0,f1⟩:=bM hb4 hb2.c0 hb2.c1 hb2.f0 hb2.f1
 go_wp2
 refine bodyPost_ret (v:=.agg #[.bool (nsg (!s) xs),.slice p n n]) (by simp[results,Tryz.results85,go_sem,c0,c1]) rfl ?_
 have hR:RN w4 (nsg (!s) xs) p n xs:=⟨h.len,(h.rd.below hbw).below hb4,h.u,h.nrm,fun h0=>by rw[nsg,if_pos (by rw[HT.out];exact h0)],h.sml⟩
 refine⟨_,rfl,(hR.set (fun hn x hx e=>by have:=HL.out hn x hx;simp at e;omega) _).set (fun hn x hx e=>by have:=HL.out hn x hx;simp at e;omega) _,?_,((ae hbw hb4).setCell (by simp) _).setCell (by simp) _⟩
 show ag _ xs=_
 have e:=iK (!s) h.u
 rw[Cx (by rw[HT.out,h.len]),AY] at e
 exact e
theorem Cm{w:World}{s t:Bool}{p q:Option Addr}{n m:Nat}{xs ys:List Int}(h:RN w s p n xs)(k:RN w t q m ys)(hn:n≤1000000)(hm:m≤1000000):
  Calls Tryz.prog 122 #[.agg #[.bool s,.slice p n n],.agg #[.bool t,.slice q m m]] w (fc (n+m+1) (ag s xs-ag t ys) w):=by
 go_enter Tryz.func122,Tryz.ntmps122
 go_wp2_with fail
 have hX3:=fD w (.bool s) (.slice p n n) (.bool t) (.slice q m m) (.bool false) (.slice none 0 0) 43 43 43
 generalize ((w.alloc (Obj.cells #[Value.bool s,Value.slice p n n] 43)).alloc (Obj.cells #[Value.bool t,Value.slice q m m] 43)).alloc (Obj.cells #[Value.bool false,Value.slice none 0 0] 43)=W at *
 have hhW:=h.below hX3.below
 have hkW:=k.below hX3.below
 have k0:=hX3.ca0
 have k1:=hX3.ca1
 have k2:=hX3.cb0
 have k3:=hX3.cb1
 go_region_held3 (fun w'=>w'.cell? ⟨w.heap.size,0,none⟩=some (.bool s)∧w'.cell? ⟨w.heap.size,1,none⟩=some (.slice p n n)∧w'.cell? ⟨w.heap.size+1,0,none⟩=some (.bool t)∧w'.cell? ⟨w.heap.size+1,1,none⟩=some (.slice q m m)) (first|exact⟨by assumption,by assumption,by assumption,by assumption⟩|exact bB (by assumption) (by assumption)|(simp[go_sem, *];done))
  (first
   |(go_at_call 85;refine(my hkW.drew).mono ?_;rintro e w1 ⟨t1,rfl,hk1,HT1,hb1⟩)
   |(go_at_call 55;refine(pM (hhW.below (aC hb1)) hk1 hn hm).mono ?_;rintro e w2 ⟨s2,p2,n2,d2,rfl,hR2,hv2,hn2,hF2,hb2⟩;have HV2:Hid (ag s2 d2=ag s xs+ag t1 ys):=hv2;clear hv2;obtain⟨c0',c1',f0,f1⟩:=bM (ae (aC hb1) hb2) hX3.cr0 hX3.cr1 hX3.fr0 hX3.fr1))
 go_wp2
 have hsz:=hX3.size
 have hs1:=hb1.size
 have e1:W.drew.heap.size=W.heap.size:=rfl
 refine bodyPost_ret (v:=.agg #[.bool s2,.slice p2 n2 n2]) (by simp[results,Tryz.results122,go_sem,c0',c1']) rfl ?_
 refine⟨s2,p2,n2,d2,rfl,jy hF2 (by simp only;omega) (jy hF2 (by simp only;omega) hR2),?_,hn2,hF2.mono (by omega),?_⟩
 ·rw[HV2.out,HT1.out];omega
 ·exact((aW (aW hX3.below (Nat.le_refl _) (aC hb1)) (Nat.le_refl _) hb2).setCell (by simp only;omega) _).setCell (by simp only;omega) _
theorem yZ{w:World}{N M:Nat}{x y:Int}{e f:Ent}(h:RE w N x e)(k:RE w M y f)(hN:N≤1000)(hM:M≤1000):
  Calls Tryz.prog 122 #[.agg #[.bool e.s,.slice e.p e.n e.c],.agg #[.bool f.s,.slice f.p f.n f.c]] w fun r w'=>∃u:Ent,r=.returned (.agg #[.bool u.s,.slice u.p u.n u.c])∧RE w' (N+M+1) (x-y) u∧az w.heap.size u.p∧Below w.heap.size w w':=by
 obtain⟨⟨xs,h1,rfl,h3⟩,h4⟩:=h
 obtain⟨⟨ys,k1,rfl,k3⟩,k4⟩:=k
 rw[h4,k4]
 refine(Cm h1 k1 (by omega) (by omega)).mono ?_
 rintro r w1 ⟨s,p,n,d,rfl,g1,g2,g3,g4,g5⟩
 exact⟨⟨s,p,n,n⟩,rfl,⟨⟨d,g1,g2,by show n≤_;omega⟩,rfl⟩,g4,g5⟩
end Go.Proofs.YtfnkomoickanfaaGreatDoor
