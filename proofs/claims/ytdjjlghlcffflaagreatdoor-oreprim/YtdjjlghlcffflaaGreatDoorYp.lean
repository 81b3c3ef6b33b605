/- Own. -/
import Derived.Test.YtdjjlghlcffflaaGreatDoorRv
set_option linter.unusedVariables false
set_option linter.unusedSimpArgs false
set_option maxHeartbeats 8000000
set_option maxRecDepth 100000
namespace Go.Proofs.YtdjjlghlcffflaaGreatDoor
open Go.RowKit
theorem yB(p q:Option Addr)(n m:Nat)(ds es:List Int)(w:World)(hA:RN w true p n ds)(hB:RN w true q m es)(hn:n<=1000)(hm:m<=1000)(hm0:0<m)(hx:∃c,vd ds=c*vd es):
  Calls Tryz.prog 91 #[.agg #[.bool true,.slice p n n],.agg #[.bool true,.slice q m m]] w (lK (aF true ds) (aF true es) w):=by
 have HX:=(show Hid _ from hx)
 clear hx;go_enter Tryz.func91,Tryz.ntmps91;go_upto_region 1 with fail
 have b1:Bx (((((w.alloc (.cells #[.bool true,.slice p n n] 65)).alloc (.cells #[.bool true,.slice q m m] 65)).alloc (.cells #[.bool false,.slice none 0 0] 65)).alloc (.cells #[.bool false,.slice none 0 0] 65))) w.heap.size (.bool true) (.slice p n n):=(((Bx.new _ _ _ rfl).alloc _).alloc _).alloc _;have b2:Bx (((((w.alloc (.cells #[.bool true,.slice p n n] 65)).alloc (.cells #[.bool true,.slice q m m] 65)).alloc (.cells #[.bool false,.slice none 0 0] 65)).alloc (.cells #[.bool false,.slice none 0 0] 65))) (w.heap.size+1) (.bool true) (.slice q m m):=((Bx.new _ _ _ (Js ..).symm).alloc _).alloc _;have b3:Bx (((((w.alloc (.cells #[.bool true,.slice p n n] 65)).alloc (.cells #[.bool true,.slice q m m] 65)).alloc (.cells #[.bool false,.slice none 0 0] 65)).alloc (.cells #[.bool false,.slice none 0 0] 65))) (w.heap.size+1+1) (.bool false) (.slice none 0 0):=(Bx.new _ _ _ (by rw[Js,Js])).alloc _
 have b4:Bx (((((w.alloc (.cells #[.bool true,.slice p n n] 65)).alloc (.cells #[.bool true,.slice q m m] 65)).alloc (.cells #[.bool false,.slice none 0 0] 65)).alloc (.cells #[.bool false,.slice none 0 0] 65))) (w.heap.size+1+1+1) (.bool false) (.slice none 0 0):=Bx.new _ _ _ (by rw[Js,Js,Js])
 have hbw:Below w.heap.size w (((((w.alloc (.cells #[.bool true,.slice p n n] 65)).alloc (.cells #[.bool true,.slice q m m] 65)).alloc (.cells #[.bool false,.slice none 0 0] 65)).alloc (.cells #[.bool false,.slice none 0 0] 65))):=ag (ag (ag (ag (Jt _ _))));generalize ((((w.alloc (.cells #[.bool true,.slice p n n] 65)).alloc (.cells #[.bool true,.slice q m m] 65)).alloc (.cells #[.bool false,.slice none 0 0] 65)).alloc (.cells #[.bool false,.slice none 0 0] 65))=W at *
 have hA1:=hA.below hbw;have hB1:=hB.below hbw;have k1:=b1.c1;have k2:=b2.c1;go_wp2_with fail;refine(fY p q n n m m ds es _ hA1.len hn (Jr _) (by unfold maxLen;omega) hA1.rd hA1.u hA1.nrm hB1.len hm0 hm hB1.rd hB1.u hB1.nrm).mono ?_
 rintro e w1 ⟨qa,qn,qc,qs,ra,rn,rc,rs,rfl,q1,q2,q3,q4,q5,q6,r1,r2,r3,r4,r5,r6,eq,lt,hb1,qf,rf⟩;have c1:=b1.later hb1;have c2:=b2.later hb1;have c3:=b3.later hb1;have c4:=b4.later hb1;have hbw1:=bh hbw (Jr _) hb1;have hWs:w.heap.size+1+1+1<W.heap.size:=block_lt_of_cell b4.c0;have HW:Hid (w.heap.size+1+1+1<W.heap.size/\W.heap.size<=w1.heap.size):=⟨hWs,hb1.size⟩;have hr0:vd rs=0:=pJ eq (aI r2) lt HX.out;have HT:Hid (ad rs=0):=(bj r2).2 hr0;have HQ:Hid (U16 qs/\aF false qs*aF true es=aF true ds/\aJ W.heap.size qa):=by
  refine⟨q2,?_,qf⟩;rw[hr0,Int.add_zero] at eq
  show vd qs * -vd es = -vd ds
  rw[Int.mul_neg,eq]
 clear rf hWs eq lt hr0 b1 b2 b3 b4 hbw k1 k2 hA1 hB1 q2 r2 qf;have k0:=c1.c0;have k1:=c2.c0;go_wp2_with fail;refine(bI false qa qn qc qs _ q3 q4 q5 q1).mono ?_;rintro e w2 ⟨rfl,hb2⟩;generalize hs1:nsg false qs=s1;have HS1:=(show Hid _ from hs1)
 clear hs1;have hal2:Below w2.heap.size w2 (w2.alloc (.cells #[.bool s1,.slice qa (ad qs) (ad qs)] 65)):=ag (Jt _ _);have x2:Bx (w2.alloc (.cells #[.bool s1,.slice qa (ad qs) (ad qs)] 65)) w2.heap.size (.bool s1) (.slice qa (ad qs) (ad qs)):=Bx.new _ _ _ rfl;have d1:=(c1.later hb2).later hal2;have d3:=(c3.later hb2).later hal2;have d4:=(c4.later hb2).later hal2;have e1:=(q1.below hb2).below hal2;have e2:=(r1.below hb2).below hal2;have hbw2:=bh (bh hbw1 (Jr _) hb2) (Jr _) hal2;have HB2:Hid (w1.heap.size<=w2.heap.size):=hb2.size;clear c1 c2 c3 c4 k0 k1 q1 r1 hbw1 hb2 hal2;have k0:=d1.c0;go_wp2_with fail;have HG2:Hid (w1.heap.size<=w2.heap.size/\w2.heap.size<=(w2.alloc (.cells #[.bool s1,.slice qa (ad qs) (ad qs)] 65)).heap.size):=⟨HB2.out,by simp⟩
 generalize (w2.alloc (.cells #[.bool s1,.slice qa (ad qs) (ad qs)] 65))=W2 at *
 generalize w2.heap.size=gx2 at *
 refine(bI true ra rn rc rs _ r3 r4 r5 e2).mono ?_;rintro e w3 ⟨rfl,hb3⟩;have hns:nsg true rs=false:=by rw[nsg,if_pos HT.out]
 rw[hns,HT.out];clear hns;have hal3:Below w3.heap.size w3 (w3.alloc (.cells #[.bool false,.slice ra 0 0] 65)):=ag (Jt _ _);have y3:Bx (w3.alloc (.cells #[.bool false,.slice ra 0 0] 65)) w3.heap.size (.bool false) (.slice ra 0 0):=Bx.new _ _ _ rfl;have x3:=(x2.later hb3).later hal3;have f3:=(d3.later hb3).later hal3;have f4:=(d4.later hb3).later hal3;have g1:=(e1.below hb3).below hal3;have hbw3:=bh (bh hbw2 (Jr _) hb3) (Jr _) hal3;have HG:Hid (gx2≠w.heap.size+1+1/\gx2≠w.heap.size+1+1+1/\w3.heap.size≠w.heap.size+1+1/\w3.heap.size≠w.heap.size+1+1+1):=by
  have h1:=HG2.out;have h2:=HW.out;have h3:=hb3.size;exact⟨by omega,by omega,by omega,by omega⟩
 clear d1 d3 d4 k0 x2 e1 e2 hbw2 hb3 hal3;have k0:=y3.c0;have k1:=y3.c1;have k2:=x3.c0;have k3:=x3.c1;have z0:=f3.c0;have z1:=f3.c1;have z2:=f4.c0;have z3:=f4.c1;have v0:=f3.f0;have v1:=f3.f1;have v2:=f4.f0;have v3:=f4.f1;go_wp2_with fail;generalize (w3.alloc (.cells #[.bool false,.slice ra 0 0] 65))=W3 at *
 generalize w3.heap.size=gx3 at *
 have hg2:gx2≠w.heap.size+1+1/\gx2≠w.heap.size+1+1+1/\gx3≠w.heap.size+1+1/\gx3≠w.heap.size+1+1+1:=HG.out;obtain⟨o1,o2,o3,o4⟩:=hg2;go_region;all_goals go_wp2
 have hN1:=ng false g1 HQ.out.1 (by omega)
 have hO1:0<ad qs->Off (w.heap.size+1+1) qa:=fun _ a ha e=>by have:=HQ.out.2.2 a ha;have:=HW.out;omega
 have hO2:0<ad qs->Off (w.heap.size+1+1+1) qa:=fun _ a ha e=>by have:=HQ.out.2.2 a ha;have:=HW.out;omega
 have hv:=gH false HQ.out.1;rw[HS1.out] at hN1 hv
 refine bodyPost_ret (v:=.tuple #[.agg #[.bool s1,.slice qa (ad qs) (ad qs)],.agg #[.bool false,.slice ra 0 0]]) (by simp[results,Tryz.results91,go_sem,z0,z1,z2,z3]) rfl ⟨s1,qa,ad qs,tr qs,ra,rfl,?_,by rw[hv];exact HQ.out.2.1,fun a ha=>by have:=HQ.out.2.2 a ha;have:=HW.out;omega,?_⟩
 ·exact((((hN1.drew.set (a:=⟨w.heap.size+1+1,0,none⟩) hO1 _).set (a:=⟨w.heap.size+1+1,1,none⟩) hO1 _).set (a:=⟨w.heap.size+1+1+1,0,none⟩) hO2 _).set (a:=⟨w.heap.size+1+1+1,1,none⟩) hO2 _)
 ·exact(((hbw3.drew.setCell (p:=⟨w.heap.size+1+1,0,none⟩) (by simp;omega) _).setCell (p:=⟨w.heap.size+1+1,1,none⟩) (by simp;omega) _).setCell (p:=⟨w.heap.size+1+1+1,0,none⟩) (by simp;omega) _).setCell (p:=⟨w.heap.size+1+1+1,1,none⟩) (by simp;omega) _
theorem xD(p q:Option Addr)(n m:Nat)(ds es:List Int)(w:World)(hA:RN w false p n ds)(hB:RN w true q m es)(hn:n<=1000)(hm:m<=1000)(hm0:0<m)(hx:∃c,vd ds=c*vd es):
  Calls Tryz.prog 91 #[.agg #[.bool false,.slice p n n],.agg #[.bool true,.slice q m m]] w (lK (aF false ds) (aF true es) w):=by
 have HX:=(show Hid _ from hx)
 clear hx;go_enter Tryz.func91,Tryz.ntmps91;go_upto_region 1 with fail
 have b1:Bx (((((w.alloc (.cells #[.bool false,.slice p n n] 65)).alloc (.cells #[.bool true,.slice q m m] 65)).alloc (.cells #[.bool false,.slice none 0 0] 65)).alloc (.cells #[.bool false,.slice none 0 0] 65))) w.heap.size (.bool false) (.slice p n n):=(((Bx.new _ _ _ rfl).alloc _).alloc _).alloc _;have b2:Bx (((((w.alloc (.cells #[.bool false,.slice p n n] 65)).alloc (.cells #[.bool true,.slice q m m] 65)).alloc (.cells #[.bool false,.slice none 0 0] 65)).alloc (.cells #[.bool false,.slice none 0 0] 65))) (w.heap.size+1) (.bool true) (.slice q m m):=((Bx.new _ _ _ (Js ..).symm).alloc _).alloc _;have b3:Bx (((((w.alloc (.cells #[.bool false,.slice p n n] 65)).alloc (.cells #[.bool true,.slice q m m] 65)).alloc (.cells #[.bool false,.slice none 0 0] 65)).alloc (.cells #[.bool false,.slice none 0 0] 65))) (w.heap.size+1+1) (.bool false) (.slice none 0 0):=(Bx.new _ _ _ (by rw[Js,Js])).alloc _
 have b4:Bx (((((w.alloc (.cells #[.bool false,.slice p n n] 65)).alloc (.cells #[.bool true,.slice q m m] 65)).alloc (.cells #[.bool false,.slice none 0 0] 65)).alloc (.cells #[.bool false,.slice none 0 0] 65))) (w.heap.size+1+1+1) (.bool false) (.slice none 0 0):=Bx.new _ _ _ (by rw[Js,Js,Js])
 have hbw:Below w.heap.size w (((((w.alloc (.cells #[.bool false,.slice p n n] 65)).alloc (.cells #[.bool true,.slice q m m] 65)).alloc (.cells #[.bool false,.slice none 0 0] 65)).alloc (.cells #[.bool false,.slice none 0 0] 65))):=ag (ag (ag (ag (Jt _ _))));generalize ((((w.alloc (.cells #[.bool false,.slice p n n] 65)).alloc (.cells #[.bool true,.slice q m m] 65)).alloc (.cells #[.bool false,.slice none 0 0] 65)).alloc (.cells #[.bool false,.slice none 0 0] 65))=W at *
 have hA1:=hA.below hbw;have hB1:=hB.below hbw;have k1:=b1.c1;have k2:=b2.c1;go_wp2_with fail;refine(fY p q n n m m ds es _ hA1.len hn (Jr _) (by unfold maxLen;omega) hA1.rd hA1.u hA1.nrm hB1.len hm0 hm hB1.rd hB1.u hB1.nrm).mono ?_
 rintro e w1 ⟨qa,qn,qc,qs,ra,rn,rc,rs,rfl,q1,q2,q3,q4,q5,q6,r1,r2,r3,r4,r5,r6,eq,lt,hb1,qf,rf⟩;have c1:=b1.later hb1;have c2:=b2.later hb1;have c3:=b3.later hb1;have c4:=b4.later hb1;have hbw1:=bh hbw (Jr _) hb1;have hWs:w.heap.size+1+1+1<W.heap.size:=block_lt_of_cell b4.c0;have HW:Hid (w.heap.size+1+1+1<W.heap.size/\W.heap.size<=w1.heap.size):=⟨hWs,hb1.size⟩;have hr0:vd rs=0:=pJ eq (aI r2) lt HX.out;have HT:Hid (ad rs=0):=(bj r2).2 hr0;have HQ:Hid (U16 qs/\aF true qs*aF true es=aF false ds/\aJ W.heap.size qa):=by
  refine⟨q2,?_,qf⟩;rw[hr0,Int.add_zero] at eq
  show -vd qs * -vd es=vd ds
  rw[Int.neg_mul_neg,eq]
 clear rf hWs eq lt hr0 b1 b2 b3 b4 hbw k1 k2 hA1 hB1 q2 r2 qf;have k0:=c1.c0;have k1:=c2.c0;go_wp2_with fail;refine(bI true qa qn qc qs _ q3 q4 q5 q1).mono ?_;rintro e w2 ⟨rfl,hb2⟩;generalize hs1:nsg true qs=s1;have HS1:=(show Hid _ from hs1)
 clear hs1;have hal2:Below w2.heap.size w2 (w2.alloc (.cells #[.bool s1,.slice qa (ad qs) (ad qs)] 65)):=ag (Jt _ _);have x2:Bx (w2.alloc (.cells #[.bool s1,.slice qa (ad qs) (ad qs)] 65)) w2.heap.size (.bool s1) (.slice qa (ad qs) (ad qs)):=Bx.new _ _ _ rfl;have d1:=(c1.later hb2).later hal2;have d3:=(c3.later hb2).later hal2;have d4:=(c4.later hb2).later hal2;have e1:=(q1.below hb2).below hal2;have e2:=(r1.below hb2).below hal2;have hbw2:=bh (bh hbw1 (Jr _) hb2) (Jr _) hal2;have HB2:Hid (w1.heap.size<=w2.heap.size):=hb2.size;clear c1 c2 c3 c4 k0 k1 q1 r1 hbw1 hb2 hal2;have k0:=d1.c0;go_wp2_with fail;have HG2:Hid (w1.heap.size<=w2.heap.size/\w2.heap.size<=(w2.alloc (.cells #[.bool s1,.slice qa (ad qs) (ad qs)] 65)).heap.size):=⟨HB2.out,by simp⟩
 generalize (w2.alloc (.cells #[.bool s1,.slice qa (ad qs) (ad qs)] 65))=W2 at *
 generalize w2.heap.size=gx2 at *
 refine(bI false ra rn rc rs _ r3 r4 r5 e2).mono ?_;rintro e w3 ⟨rfl,hb3⟩;have hns:nsg false rs=false:=by rw[nsg,if_pos HT.out]
 rw[hns,HT.out];clear hns;have hal3:Below w3.heap.size w3 (w3.alloc (.cells #[.bool false,.slice ra 0 0] 65)):=ag (Jt _ _);have y3:Bx (w3.alloc (.cells #[.bool false,.slice ra 0 0] 65)) w3.heap.size (.bool false) (.slice ra 0 0):=Bx.new _ _ _ rfl;have x3:=(x2.later hb3).later hal3;have f3:=(d3.later hb3).later hal3;have f4:=(d4.later hb3).later hal3;have g1:=(e1.below hb3).below hal3;have hbw3:=bh (bh hbw2 (Jr _) hb3) (Jr _) hal3;have HG:Hid (gx2≠w.heap.size+1+1/\gx2≠w.heap.size+1+1+1/\w3.heap.size≠w.heap.size+1+1/\w3.heap.size≠w.heap.size+1+1+1):=by
  have h1:=HG2.out;have h2:=HW.out;have h3:=hb3.size;exact⟨by omega,by omega,by omega,by omega⟩
 clear d1 d3 d4 k0 x2 e1 e2 hbw2 hb3 hal3;have k0:=y3.c0;have k1:=y3.c1;have k2:=x3.c0;have k3:=x3.c1;have z0:=f3.c0;have z1:=f3.c1;have z2:=f4.c0;have z3:=f4.c1;have v0:=f3.f0;have v1:=f3.f1;have v2:=f4.f0;have v3:=f4.f1;go_wp2_with fail;generalize (w3.alloc (.cells #[.bool false,.slice ra 0 0] 65))=W3 at *
 generalize w3.heap.size=gx3 at *
 have hg2:gx2≠w.heap.size+1+1/\gx2≠w.heap.size+1+1+1/\gx3≠w.heap.size+1+1/\gx3≠w.heap.size+1+1+1:=HG.out;obtain⟨o1,o2,o3,o4⟩:=hg2;go_region;all_goals go_wp2
 have hN1:=ng true g1 HQ.out.1 (by omega)
 have hO1:0<ad qs->Off (w.heap.size+1+1) qa:=fun _ a ha e=>by have:=HQ.out.2.2 a ha;have:=HW.out;omega
 have hO2:0<ad qs->Off (w.heap.size+1+1+1) qa:=fun _ a ha e=>by have:=HQ.out.2.2 a ha;have:=HW.out;omega
 have hv:=gH true HQ.out.1;rw[HS1.out] at hN1 hv
 refine bodyPost_ret (v:=.tuple #[.agg #[.bool s1,.slice qa (ad qs) (ad qs)],.agg #[.bool false,.slice ra 0 0]]) (by simp[results,Tryz.results91,go_sem,z0,z1,z2,z3]) rfl ⟨s1,qa,ad qs,tr qs,ra,rfl,?_,by rw[hv];exact HQ.out.2.1,fun a ha=>by have:=HQ.out.2.2 a ha;have:=HW.out;omega,?_⟩
 ·exact((((hN1.drew.set (a:=⟨w.heap.size+1+1,0,none⟩) hO1 _).set (a:=⟨w.heap.size+1+1,1,none⟩) hO1 _).set (a:=⟨w.heap.size+1+1+1,0,none⟩) hO2 _).set (a:=⟨w.heap.size+1+1+1,1,none⟩) hO2 _)
 ·exact(((hbw3.drew.setCell (p:=⟨w.heap.size+1+1,0,none⟩) (by simp;omega) _).setCell (p:=⟨w.heap.size+1+1,1,none⟩) (by simp;omega) _).setCell (p:=⟨w.heap.size+1+1+1,0,none⟩) (by simp;omega) _).setCell (p:=⟨w.heap.size+1+1+1,1,none⟩) (by simp;omega) _
theorem CM(s t:Bool)(p q:Option Addr)(n m:Nat)(ds es:List Int)(w:World)(hA:RN w s p n ds)(hB:RN w t q m es)(hn:n<=1000)(hm:m<=1000)(hm0:0<m)(hx:∃c,vd ds=c*vd es):
  Calls Tryz.prog 91 #[.agg #[.bool s,.slice p n n],.agg #[.bool t,.slice q m m]] w (lK (aF s ds) (aF t es) w):=by
 cases t with
 |false=>exact IT s p q n m ds es w hA hB hn hm hm0 hx
 |true=>
  cases s with
  |true=>exact yB p q n m ds es w hA hB hn hm hm0 hx
  |false=>exact xD p q n m ds es w hA hB hn hm hm0 hx
variable {w:World} {s:Bool} {p:Option Addr} {n:Nat} {xs:List Int}
theorem GR(h:RN w s p n xs):
  Calls Tryz.prog 144 #[.agg #[.bool s,.slice p n n]] w fun e w'=>∃s',e=.returned (.agg #[.bool s',.slice p n n])/\RN w' s' p n xs/\Hid (aF s' xs = - aF s xs)/\Below w.heap.size w w':=by
 have hlt:=h.lt;have HL:Hid (0<n->∀x,p=some x->x.block<w.heap.size):=hlt;clear hlt;have hsm:=h.sml;have htl:=h.nrm;have HT:Hid (ad xs=n):=htl;clear htl;go_enter Tryz.func144,Tryz.ntmps144;go_wp2_with fail;have hb2:Bx ((w.alloc (.cells #[.bool s,.slice p n n] 65)).alloc (.cells #[.bool false,.slice none 0 0] 65)) (w.heap.size+1) (.bool false) (.slice none 0 0):=Bx.new _ _ _ (Js ..).symm;have hbw:Below w.heap.size w ((w.alloc (.cells #[.bool s,.slice p n n] 65)).alloc (.cells #[.bool false,.slice none 0 0] 65)):=((Jt _ _).alloc (Jr _) _).alloc (by simp) _
 generalize ((w.alloc (.cells #[.bool s,.slice p n n] 65)).alloc (.cells #[.bool false,.slice none 0 0] 65))=W at *
 refine(bI (!s) p n n xs _ h.len (Jr _) (by unfold maxLen;omega) (h.rd.below hbw)).mono ?_
 rw[HT.out];rintro e w4 ⟨rfl,hb4⟩;obtain⟨c0,c1,f0,f1⟩:=cj hb4 hb2.c0 hb2.c1 hb2.f0 hb2.f1;go_wp2;refine bodyPost_ret (v:=.agg #[.bool (nsg (!s) xs),.slice p n n]) (by simp[results,Tryz.results144,go_sem,c0,c1]) rfl ?_
 have hR:RN w4 (nsg (!s) xs) p n xs:=⟨h.len,(h.rd.below hbw).below hb4,h.u,h.nrm,fun h0=>by rw[nsg,if_pos (by rw[HT.out];exact h0)],h.sml⟩
 refine⟨_,rfl,(hR.set (fun hn x hx e=>by have:=HL.out hn x hx;simp at e;omega) _).set (fun hn x hx e=>by have:=HL.out hn x hx;simp at e;omega) _,?_,((ae hbw hb4).setCell (by simp) _).setCell (by simp) _⟩
 show aF _ xs=_
 have e:=gH (!s) h.u;rw[ur (by rw[HT.out,h.len]),EM] at e
 exact e
variable {i j:Nat}
theorem zS{a b:Int}(h:(a.natAbs:Int)<pw i)(k:(b.natAbs:Int)<pw j):((a*b).natAbs:Int)<pw (i+j):=by
 rw[Int.natAbs_mul,fA];push_cast;have h1:=bu i;have h2:=bu j;have h3:(a.natAbs:Int)*(b.natAbs:Int)<=(a.natAbs:Int)*pw j:=Jx (by omega) (by omega)
 have h4:(a.natAbs:Int)*pw j<pw i*pw j:=Int.mul_lt_mul_of_pos_right h h2;omega
variable {N M:Nat} {x y:Int} {e f:Ent}
theorem IS(h:RE w N x e)(k:RE w M y f)(hy:y≠0)(hd:y∣x)(hN:N<=1000)(hM:M<=1000):
  Calls Tryz.prog 91 #[.agg #[.bool e.s,.slice e.p e.n e.c],.agg #[.bool f.s,.slice f.p f.n f.c]] w fun r w'=>∃u v:Ent,r=.returned (.tuple #[.agg #[.bool u.s,.slice u.p u.n u.c],.agg #[.bool v.s,.slice v.p v.n v.c]])/\RE w' N (x/y) u/\aJ w.heap.size u.p/\Below w.heap.size w w':=by
 have hb:=h.1.bd;obtain⟨⟨ds,h1,rfl,h3⟩,h4⟩:=h;obtain⟨⟨es,k1,rfl,k3⟩,k4⟩:=k;rw[h4,k4];have hx:∃c,vd ds=c*vd es:=by
  obtain⟨c,hc⟩:=hd;rw[jb e.s h1.u,jb f.s k1.u,hc,Int.natAbs_mul];exact⟨(c.natAbs:Int),by push_cast;rw[JI]⟩
 have hm0:0<f.n:=by
  rcases Jw f.n with h0|h0
  ·exfalso
   apply hy;have:vd es=0:=(bj k1.u).1 (by rw[k1.nrm,h0])
   unfold aF;split<;>omega
  ·exact h0
 refine(CM e.s f.s e.p f.p e.n f.n ds es w h1 k1 (by omega) (by omega) hm0 hx).mono ?_
 rintro r w' ⟨s1,p1,n1,d1,p2,g1,g2,g3,g4,g5⟩;have g6:aF e.s ds/aF f.s es=aF s1 d1:=by rw[<-g3,Int.mul_ediv_cancel _ hy]
 have hle:n1<=N:=g2.fit (by
  rw[<-g6];have:=Int.natAbs_ediv_le_natAbs (aF e.s ds) (aF f.s es);omega)
 rw[g6];exact⟨⟨s1,p1,n1,n1⟩,⟨false,p2,0,0⟩,g1,⟨⟨d1,g2,rfl,hle⟩,rfl⟩,g4,g5⟩
structure UX(wr wc:World)(g1 N:Nat)(z:Int)(u:Ent):Prop where
 b:Bx wc g1 (.bool u.s) (.slice u.p u.n u.c)
 r:RE wc N z u
 f:0<u.n->∀a,u.p=some a->wr.heap.size<=a.block
 bw:Below wr.heap.size wr wc
variable {nc:Nat} {es0:List Ent} {zs:List Int}
theorem qC(h:PR w N p n nc es0 zs)(hf:RE w M y f)(hy:y≠0)(hd:∀j,y∣gx zs j)(hn:n<=100000)(hN:N<=1000)(hM:M<=1000):
  Calls Tryz.prog 145 #[.slice p n nc,.agg #[.bool f.s,.slice f.p f.n f.c]] w (PrP (tr (zs.map (· / y))) N w):=by
 obtain⟨i0,hi,hzz⟩:=Option.map_eq_some_iff.1 iT;simp only[Prod.mk.injEq] at hzz
 obtain⟨hz0,hz1,hz2⟩:=hzz;have HI:Hid (Tryz.prog.info? 65=some i0/\i0.zero=some (.agg #[.bool false,.slice none 0 0])/\i0.size=2/\i0.bytes=32):=⟨hi,hz0,hz1,hz2⟩;have HX:Hid (PR w N p n nc es0 zs/\RE w M y f/\y≠0/\∀j,y∣gx zs j):=⟨h,hf,hy,hd⟩;have hel0:=h.el;have hzl0:=h.zl;have hvl:(zs.map (· / y)).length=n:=by simp[hzl0]
 have hvg:∀j,gx (zs.map (· / y)) j=gx zs j/y:=fun j=>cE (· / y) (by simp) zs j
 generalize hvs:zs.map (· / y)=vs at *
 have HVS:Hid ((∀j,gx vs j=gx zs j/y)/\vs.length=n):=⟨hvg,hvl⟩;clear h hf hy hd hi hz0 hz1 hz2 hvs hvg hvl;go_enter Tryz.func145,Tryz.ntmps145;go_wp2_with fail;have hal0:=ag (o:=.cells #[.bool f.s,.slice f.p f.n f.c] 65) (Jt w.heap.size w);have hX0:Bx (w.alloc (.cells #[.bool f.s,.slice f.p f.n f.c] 65)) w.heap.size (.bool f.s) (.slice f.p f.n f.c):=Bx.new _ _ _ rfl;have HS0:Hid (Bx (w.alloc (.cells #[.bool f.s,.slice f.p f.n f.c] 65)) w.heap.size (.bool f.s) (.slice f.p f.n f.c)/\Below w.heap.size w (w.alloc (.cells #[.bool f.s,.slice f.p f.n f.c] 65))):=⟨hX0,hal0⟩;generalize w.alloc (.cells #[.bool f.s,.slice f.p f.n f.c] 65)=W0 at *
 clear hal0 hX0;go_loopw [5,6,7,8] (fun sv iv _ _ wr=>∃(k:Nat) (es:List Ent),k<=n/\iv=.int .i64 k/\Hid (es.length=k/\LG (w.heap.size+1) 65 (fun w z e=>RE w N z e) wr sv es (vs.take k)/\Bx wr w.heap.size (.bool f.s) (.slice f.p f.n f.c)/\Below w.heap.size w wr)) (fun _ iv _ _ _=>n-(intOf iv).toNat)
 case atStart=>exact⟨0,[],Jz _,by go_num,rfl,by rw[List.take_zero];exact LG.nil _ _ _ _,HS0.out.1,HS0.out.2⟩
 case round=>
  obtain⟨k,es,hk,rfl,H⟩:=hrel;rcases Ju k n with hlt|hge
  ·obtain⟨hel,hLR,hbx,hB⟩:=H.out
   have hPR:=HX.out.1.below hB;obtain⟨b,o,hp,hc⟩:=hPR.pl (by omega)
   subst hp;obtain⟨x0,x1⟩:=hc k (by omega)
   obtain⟨d0,d1,-,-⟩:=id hbx;have hx:=hPR.ev k hlt;have hy:=HX.out.2.1.below hB;have i1:(k:Int)<(n:Int):=by omega
   have hq0:=HX.out.2.2.1;have hq1:=HX.out.2.2.2 k;clear hel hLR hB hc hPR hbx;go_wp2_with fail;go_cut [7,8] from 9 to 27 (fun qv lv wc=>∃(u:Ent) (g1:Nat),qv=.pointer (some ⟨g1,0,none⟩)/\Hid (UX wr wc g1 N (gx zs k/y) u))
   case first=>
    go_region_held3 (fun w'=>w'.cell? ⟨b,o+k*2,none⟩=some (.bool (ge es0 k).s)/\w'.cell? ⟨b,o+k*2+1,none⟩=some (.slice (ge es0 k).p (ge es0 k).n (ge es0 k).c)/\w'.cell? ⟨w.heap.size,0,none⟩=some (.bool f.s)/\w'.cell? ⟨w.heap.size,1,none⟩=some (.slice f.p f.n f.c)) (first|with_reducible exact⟨x0,x1,d0,d1⟩|(refine B9 ⟨x0,x1,d0,d1⟩ ?_;(repeat (first|(with_reducible exact hW1)|(with_reducible exact Jt _ _)|(refine jr ?_ (Jr _))|(refine cF ?_ ?_)|(refine Below.drew ?_)));all_goals ((try simp only[Js]);(try dsimp only);omega)))
     ((go_at_call 91;go_fit (IS (hx.below (by first|exact(Jt _ _).drew|exact(ag (Jt _ _)).drew|exact(ag (ag (Jt _ _))).drew)) (hy.below (by first|exact(Jt _ _).drew|exact(ag (Jt _ _)).drew|exact(ag (ag (Jt _ _))).drew)) hq0 hq1 hN hM);rintro r v1 ⟨u,v,rfl,hN1,hF1',hb1⟩;have hF1:=unFr hF1';clear hF1';have hB1:=aQ hb1;have hW1:=comp (X2:=wr) (w2:=wr) (Jt _ _) (by(repeat apply ag);exact Jt _ _) hB1;obtain⟨hc2,hf2,hz2,-,-⟩:=lM hB1;obtain⟨o1,o2,o3,o4⟩:=bne hB1;have t1:=hW1.size;have t1b:=hB1.size))
    all_goals (go_wp2_with fail;go_meet)
    all_goals
     refine⟨u,_,rfl,⟨?_,?_,?_,?_⟩⟩
     ·(repeat (first|exact lI (by simp;done)|refine eg (u:=.bool false) (v:=.slice none 0 0) ?_|refine dO ?_ (by have h1:=t1;have h2:=t1b;(try simp only[Js] at h1 h2);(try simp only[Js]);(try dsimp only);omega)|apply mE));all_goals exact⟨by simp[go_sem, *],by simp[go_sem, *],by simp[go_sem, *],by simp[go_sem, *]⟩
     ·(repeat (first|apply I7|refine Hs hF1 (by have h1:=t1;have h2:=t1b;(try simp only[Js] at h1 h2);(try simp only[Js]);(try dsimp only);omega) ?_|refine Hr hN1.lt (by have h1:=t1;have h2:=t1b;(try simp only[Js] at h1 h2);(try simp only[Js]);(try dsimp only);omega) ?_));exact hN1
     ·exact fun _ a ha=>JA (by have h1:=t1;have h2:=t1b;(try simp only[Js] at h1 h2);(try simp only[Js]);(try dsimp only);omega) (hF1 a ha)
     ·(repeat (first|exact hW1|refine jr ?_ (Jr _)|refine cF ?_ (by have h1:=t1;have h2:=t1b;(try simp only[Js] at h1 h2);(try simp only[Js]);(try dsimp only);omega)))
   case rest=>
    obtain⟨u,g1,rfl,HU⟩:=hcut;clear x0 x1 d0 d1 hx hy hq0 hq1;obtain⟨q0,q1,-,-⟩:=id HU.out.b;have hb2:=HU.out.bw;obtain⟨hi,hz0,hz1,hz2⟩:=HI.out;have hown0:=cD H.out.2.1.own hb2;rw[H.out.1] at hown0
    have HO:Hid (wc.ownsRow (w.heap.size+1) 65 2 u5 k (fl es)):=hown0;have hw1:w.heap.size+1<=wr.heap.size:=block_lt_of_cell H.out.2.2.1.c0;have hsz:w.heap.size+1<=wc.heap.size:=JA hw1 hb2.size;clear hown0;go_wp2_with (refine wpList_append_lies _ rfl _ _ 31 rfl (w.heap.size+1) 65 i0 (.agg #[.bool false,.slice none 0 0]) 2 32 Tryz.underlying31 hi hz0 hz1 hz2 rfl (by decide) u5 k (fl es) rfl (HO.out.alloc _) ⟨wc.heap.size,0,none⟩ 1 1 [.bool u.s,.slice u.p u.n u.c] rfl rfl ?_ (fun x hx=>by simp at hx;rcases hx with rfl|rfl<;>rfl) (by decide) (by unfold maxLen;omega) (by omega) (by simp;omega) _ rfl ?_;exact World.news_of_block (heap_alloc_new wc _);intro g cap w3 hown3 hgrow3 hat3 hlt3;have hB3:Below w.heap.size w w3:=((ae H.out.2.2.2 hb2).alloc (by omega) _).grown hgrow3 (by simp;omega) (fun q hq=>by have:=(HO.out.lt q hq).1;omega);have hX3:Bx w3 w.heap.size (.bool f.s) (.slice f.p f.n f.c):=Bx.kept ((H.out.2.2.1.later hb2).alloc _) hgrow3 (fun hq=>by have:=(HO.out.lt _ hq.symm).1;omega);have HA:Hid (LG (w.heap.size+1) 65 (fun w z e=>RE w N z e) w3 (.slice (some ⟨g,0,none⟩) (k+1) cap) (es++[u]) (vs.take k++[gx zs k/y])):=LG.app (eC N) H.out.1 H.out.2.1 hb2 HU.out.r (fun h0 a ha=>.inr (HU.out.f h0 a ha)) hown3 hgrow3 hat3;clear hown3 hgrow3 hat3)
    refine⟨⟨k+1,es++[u],by omega,by go_num,by have:=H.out.1;simp;omega,?_,hX3,hB3⟩,by simp[intOf];omega⟩
    rw[eU vs k (by have:=HVS.out.2;omega),HVS.out.1 k]
    exact HA.out
  ·obtain rfl:k=n:=by omega
   obtain⟨hel,hLR,hbx,hB⟩:=H.out;have hvl:=HVS.out.2;rw[Jv (by omega)] at hLR
   obtain⟨q,cap,hv,hPR,hF⟩:=hLR.pr;subst hv;rw[hel] at hPR ⊢
   have HB:Hid (Below w.heap.size w wr):=hB;clear H hLR hB hge hk hbx;go_wp2_with fail;refine(gS N q k cap es vs _ hPR (by omega)).mono ?_
   rintro e w1 ⟨rfl,hb1⟩;have HP:Hid (PR wr N q k cap es vs):=hPR;clear hPR;go_wp2;go_ret;have htl:=aj vs;have hcap:=HP.out.cap;have hT:=(HP.out.below hb1).take (ad vs) (ad vs) (by omega) (Jr _) (by omega)
   exact⟨q,ad vs,es.take (ad vs),rfl,hT,fun a ha=>Nat.le_of_succ_le (hF a ha),aM vs,ae HB.out hb1⟩
end Go.Proofs.YtdjjlghlcffflaaGreatDoor
