/- Own. -/
import Derived.Test.YtdjjlghlcffflaaGreatDoorTd
set_option linter.unusedVariables false
set_option linter.unusedSimpArgs false
set_option maxHeartbeats 8000000
set_option maxRecDepth 100000
namespace Go.Proofs.YtdjjlghlcffflaaGreatDoor
open Go.RowKit
variable {w:World} {s:Bool} {p:Option Addr} {n:Nat} {xs:List Int}
theorem zE(h:RN w s p n xs):
  Calls Tryz.prog 143 #[.agg #[.bool s,.slice p n n]] w fun e w'=>e=.returned (.agg #[.bool false,.slice p n n])/\RN w' false p n xs/\Below w.heap.size w w':=by
 have HL:Hid (0<n->∀x,p=some x->x.block<w.heap.size):=h.lt;go_enter Tryz.func143,Tryz.ntmps143;go_wp2;refine bodyPost_ret (v:=.agg #[.bool false,.slice p n n]) (by simp[results,Tryz.results143,go_sem]) rfl ?_
 have hbw:Below w.heap.size w ((w.alloc (.cells #[.bool s,.slice p n n] 65)).alloc (.cells #[.bool false,.slice none 0 0] 65)):=((Jt _ _).alloc (Jr _) _).alloc (by simp) _
 have hR:RN ((w.alloc (.cells #[.bool s,.slice p n n] 65)).alloc (.cells #[.bool false,.slice p n n] 65)) false p n xs:=by
  have h2:=(h.alloc (.cells #[.bool s,.slice p n n] 65)).alloc (.cells #[.bool false,.slice p n n] 65);exact⟨h2.len,h2.rd,h2.u,h2.nrm,fun _=>rfl,h2.sml⟩
 have hbw2:Below w.heap.size w ((w.alloc (.cells #[.bool s,.slice p n n] 65)).alloc (.cells #[.bool false,.slice p n n] 65)):=((Jt _ _).alloc (Jr _) _).alloc (by simp) _
 exact⟨rfl,hR,hbw2⟩
variable {g:Nat} {u v:Value}
theorem vL{b c:Nat}{x y r s:Value}(h:w.cell? ⟨b,0,none⟩=some u/\w.cell? ⟨b,1,none⟩=some v/\w.cell? ⟨c,0,none⟩=some x/\w.cell? ⟨c,1,none⟩=some y)(h1:b≠g)(h2:c≠g):
  ((w.setCell ⟨g,0,none⟩ r).setCell ⟨g,1,none⟩ s).cell? ⟨b,0,none⟩=some u/\((w.setCell ⟨g,0,none⟩ r).setCell ⟨g,1,none⟩ s).cell? ⟨b,1,none⟩=some v/\((w.setCell ⟨g,0,none⟩ r).setCell ⟨g,1,none⟩ s).cell? ⟨c,0,none⟩=some x/\((w.setCell ⟨g,0,none⟩ r).setCell ⟨g,1,none⟩ s).cell? ⟨c,1,none⟩=some y:=by
 obtain⟨a1,a2,a3,a4⟩:=h;refine⟨?_,?_,?_,?_⟩
 ·rw[World.cell?_of_block (heap_setCell_other _ _ _ _ h1),World.cell?_of_block (heap_setCell_other _ _ _ _ h1)];exact a1
 ·rw[World.cell?_of_block (heap_setCell_other _ _ _ _ h1),World.cell?_of_block (heap_setCell_other _ _ _ _ h1)];exact a2
 ·rw[World.cell?_of_block (heap_setCell_other _ _ _ _ h2),World.cell?_of_block (heap_setCell_other _ _ _ _ h2)];exact a3
 ·rw[World.cell?_of_block (heap_setCell_other _ _ _ _ h2),World.cell?_of_block (heap_setCell_other _ _ _ _ h2)];exact a4
theorem AS(p q:Option Addr)(m mc n nc:Nat)(ds es:List Int)(w:World)(hla:ds.length=m)(hm:m<=1000)(hmc:m<=mc)(hmc':mc<=maxLen)(hX:Rd w p .i64 ds)(hU:U16 ds)(hta:ad ds=m)
  (hlb:es.length=n) (hn1:n<=1000) (hY:Rd w q .i64 es) (hV:U16 es) (htb:ad es=n) (hlt:vd ds<vd es):
  Calls Tryz.prog 146 #[.slice p m mc,.slice q n nc] w (o6 p (vd ds) (vd es) (m+2) w):=by
 have hic:bQ (vd ds) (vd es) = -1:=cK hlt;go_enter Tryz.func146,Tryz.ntmps146;go_wp2_with fail;refine(kA p q m mc n nc ds es _ hla hlb (by omega) (by omega) hta htb hX hU hY hV).mono ?_
 rw[hic];rintro e w1 ⟨rfl,hb1⟩;go_wp2;go_ret2;exact⟨none,0,0,[],p,m,mc,ds,rfl,Rd.nil,j9,rfl,Jr _,Jz _,Jz _,hX.below hb1,hU,hla,hmc,hmc',by omega,by simp[vd],hlt,hb1,dI,.inl rfl⟩
theorem yD(p q:Option Addr)(m mc nc:Nat)(ds:List Int)(d:Int)(w:World)(hla:ds.length=m)(hm:m<=1000)(hX:Rd w p .i64 ds)(hU:U16 ds)(hta:ad ds=m)
  (hY:Rd w q .i64 [d]) (hd0:0<d) (hd1:d<65536) (hle:d<=vd ds):
  Calls Tryz.prog 146 #[.slice p m mc,.slice q 1 nc] w (o6 p (vd ds) d (m+2) w):=by
 have hic:¬bQ (vd ds) (vd [d])<0:=by rw[dz,bQ,if_neg (by omega)];split<;>decide
 have htd:ad [d]=1:=by simp[ad];omega
 have HL:Hid (ds.length=m):=hla;clear hla;go_enter Tryz.func146,Tryz.ntmps146;go_wp2_with fail;refine(kA p q m mc 1 nc ds [d] _ HL.out rfl (by omega) (by omega) hta htd hX hU hY (dM (by omega))).mono ?_
 rintro e w1 ⟨rfl,hb1⟩;obtain⟨b,off,rfl,hcell⟩:=(hY.below hb1) (by simp)
 have hc:=hcell 0 (by simp)
 rw[cJ,Nat.add_zero] at hc
 have HX:Hid (Rd w1 p .i64 ds):=hX.below hb1;have HB:Hid (Below w.heap.size w w1):=hb1;clear hcell hb1 htd;go_wp2_with fail;refine(sS p m mc ds d _ HL.out (by omega) HX.out hU hd0 hd1).mono ?_
 rintro e w2 ⟨Q,c,rfl,s1,s2,s3,s4,s5,s6,s7⟩;have HS:Hid (Q.length=m/\U16 Q/\vd ds=vd Q*d+c/\Row w2 w1.heap.size 3 .i64 Q/\Below w1.heap.size w1 w2):=⟨s1,s2,s5,s6,s7⟩;clear s1 s2 s5 s6 s7;go_wp2;go_ret2;obtain⟨s1,s2,s5,s6,s7⟩:=HS.out;have hb2:=bh HB.out (Jr _) s7;exact⟨_,m,m,Q,_,1,1,[c],rfl,s6.a8.alloc _,s2,s1,Jr _,by unfold maxLen;omega,by omega,(Row.new w2 3 .i64 [c]).a8,dM (by omega),rfl,Jr _,by unfold maxLen;decide,by omega,by rw[dz];omega,by rw[dz];exact s4,hb2.alloc hb2.size _,aY HB.out.size,.inr (aY hb2.size)⟩
theorem fY(p q:Option Addr)(m mc n nc:Nat)(ds es:List Int)(w:World)(hla:ds.length=m)(hm:m<=1000)(hmc:m<=mc)(hmc':mc<=maxLen)(hX:Rd w p .i64 ds)(hU:U16 ds)(hta:ad ds=m)
  (hlb:es.length=n) (hn0:0<n) (hn1:n<=1000) (hY:Rd w q .i64 es) (hV:U16 es) (htb:ad es=n):
  Calls Tryz.prog 146 #[.slice p m mc,.slice q n nc] w (o6 p (vd ds) (vd es) (m+2) w):=by
 rcases(show vd ds<vd es\/vd es<=vd ds by omega) with h|h
 ·exact AS p q m mc n nc ds es w hla hm hmc hmc' hX hU hta hlb hn1 hY hV htb h
 ·rcases(show n=1\/2<=n by omega) with h1|h1
  ·subst h1
   match es,hlb with
   | [d],_=>
    have hd:=hV 0;rw[cJ] at hd
    have hd0:d≠0:=fun e=>by subst e;simp[ad] at htb
    rw[dz] at h ⊢
    exact yD p q m mc nc ds d w hla hm hX hU hta hY (by omega) hd.2 h
  ·obtain⟨k,rfl⟩:∃k,n=k+1:=⟨n-1,by omega⟩
   exact xI p q m mc k nc ds es w hla hm hX hU hta hlb (by omega) hY hV htb h
theorem uQ(xs:List Int):nsg false xs=false:=by rw[nsg];split<;>rfl
variable {q:Option Addr}
theorem zI(hX:Rd w q .i64 xs)(hU:U16 xs)(hl:xs.length<=1000000):RN w false q (ad xs) (tr xs):=
 ⟨af xs,hX.tr,mz hU,aM xs,fun _=>rfl,by have:=aj xs;omega⟩
def Ht(p:Option Addr)(n:Nat)(a b:Int)(m:Nat)(w:World)(e:Ending)(w':World):Prop:=
 ∃p1 n1 d1 p2 n2 d2,e=.returned (.tuple #[.agg #[.bool false,.slice p1 n1 n1],.agg #[.bool false,.slice p2 n2 n2]])/\RN w' false p1 n1 d1/\RN w' false p2 n2 d2/\vd d1*b+vd d2=a/\vd d2<b/\n2<=m/\Below w.heap.size w w'/\(0<n2->(p2=p/\0<n)\/aJ w.heap.size p2)
theorem EB(p q:Option Addr)(n m:Nat)(ds es:List Int)(w:World)(hA:RN w false p n ds)(hB:RN w false q m es)(hn:n<=1000)(hm:m<=1000)(hm0:0<m):
  Calls Tryz.prog 91 #[.agg #[.bool false,.slice p n n],.agg #[.bool false,.slice q m m]] w (Ht p n (vd ds) (vd es) m w):=by
 go_enter Tryz.func91,Tryz.ntmps91;go_upto_region 1 with fail
 have b1:Bx ((((w.alloc (.cells #[.bool false,.slice p n n] 65)).alloc (.cells #[.bool false,.slice q m m] 65)).alloc (.cells #[.bool false,.slice none 0 0] 65)).alloc (.cells #[.bool false,.slice none 0 0] 65)) w.heap.size (.bool false) (.slice p n n):=(((Bx.new _ _ _ rfl).alloc _).alloc _).alloc _;have b2:Bx ((((w.alloc (.cells #[.bool false,.slice p n n] 65)).alloc (.cells #[.bool false,.slice q m m] 65)).alloc (.cells #[.bool false,.slice none 0 0] 65)).alloc (.cells #[.bool false,.slice none 0 0] 65)) (w.heap.size+1) (.bool false) (.slice q m m):=((Bx.new _ _ _ (Js ..).symm).alloc _).alloc _;have b3:Bx ((((w.alloc (.cells #[.bool false,.slice p n n] 65)).alloc (.cells #[.bool false,.slice q m m] 65)).alloc (.cells #[.bool false,.slice none 0 0] 65)).alloc (.cells #[.bool false,.slice none 0 0] 65)) (w.heap.size+1+1) (.bool false) (.slice none 0 0):=(Bx.new _ _ _ (by rw[Js,Js])).alloc _
 have b4:Bx ((((w.alloc (.cells #[.bool false,.slice p n n] 65)).alloc (.cells #[.bool false,.slice q m m] 65)).alloc (.cells #[.bool false,.slice none 0 0] 65)).alloc (.cells #[.bool false,.slice none 0 0] 65)) (w.heap.size+1+1+1) (.bool false) (.slice none 0 0):=Bx.new _ _ _ (by rw[Js,Js,Js])
 have hbw:Below w.heap.size w ((((w.alloc (.cells #[.bool false,.slice p n n] 65)).alloc (.cells #[.bool false,.slice q m m] 65)).alloc (.cells #[.bool false,.slice none 0 0] 65)).alloc (.cells #[.bool false,.slice none 0 0] 65)):=ag (ag (ag (ag (Jt _ _))));generalize ((((w.alloc (.cells #[.bool false,.slice p n n] 65)).alloc (.cells #[.bool false,.slice q m m] 65)).alloc (.cells #[.bool false,.slice none 0 0] 65)).alloc (.cells #[.bool false,.slice none 0 0] 65))=W at *
 have hA1:=hA.below hbw;have hB1:=hB.below hbw;have k1:=b1.c1;have k2:=b2.c1;go_wp2_with fail;refine(fY p q n n m m ds es _ hA1.len hn (Jr _) (by unfold maxLen;omega) hA1.rd hA1.u hA1.nrm hB1.len hm0 hm hB1.rd hB1.u hB1.nrm).mono ?_
 rintro e w1 ⟨qa,qn,qc,qs,ra,rn,rc,rs,rfl,q1,q2,q3,q4,q5,q6,r1,r2,r3,r4,r5,r6,eq,lt,hb1,qf,rf⟩;have c1:=b1.later hb1;have c2:=b2.later hb1;have c3:=b3.later hb1;have c4:=b4.later hb1;have hbw1:=bh hbw (Jr _) hb1;have hWs:w.heap.size+1+1+1<W.heap.size:=block_lt_of_cell b4.c0;have HW:Hid (w.heap.size+1+1+1<W.heap.size/\W.heap.size<=w1.heap.size):=⟨hWs,hb1.size⟩;have HO:Hid ((0<ad qs->Off (w.heap.size+1+1) qa)/\(0<ad qs->Off (w.heap.size+1+1+1) qa)/\(0<ad rs->Off (w.heap.size+1+1) ra)/\(0<ad rs->Off (w.heap.size+1+1+1) ra)):=by
  refine⟨fun _ a ha e=>?_,fun _ a ha e=>?_,fun h a ha e=>?_,fun h a ha e=>?_⟩
  ·have:=qf a ha;omega
  ·have:=qf a ha;omega
  ·rcases rf with rfl|rf
   ·have hn0:0<n:=by
     rcases Jw n with h0|h0
     ·exfalso
      have h1:=hA.len;have h2:=eq;have h3:vd ds=0:=by rw[JB (show ds.length=0 by omega)];rfl
      have h4:=aI q2;have h5:=aI r2;have h6:=JJ h4 (aI hB1.u);have h7:=(bj r2).2 (by omega)
      omega
     ·exact h0
    have:=hA.lt hn0 a ha;omega
   ·have:=rf a ha;omega
  ·rcases rf with rfl|rf
   ·have hn0:0<n:=by
     rcases Jw n with h0|h0
     ·exfalso
      have h1:=hA.len;have h2:=eq;have h3:vd ds=0:=by rw[JB (show ds.length=0 by omega)];rfl
      have h4:=aI q2;have h5:=aI r2;have h6:=JJ h4 (aI hB1.u);have h7:=(bj r2).2 (by omega)
      omega
     ·exact h0
    have:=hA.lt hn0 a ha;omega
   ·have:=rf a ha;omega
 have HP:Hid (0<ad rs->(ra=p/\0<n)\/aJ w.heap.size ra):=fun h=>by
  rcases rf with rfl|rf
  ·left
   refine⟨rfl,?_⟩;rcases Jw n with h0|h0
   ·exfalso
    have h1:=hA.len;have h2:=eq;have h3:vd ds=0:=by rw[JB (show ds.length=0 by omega)];rfl
    have h4:=aI q2;have h5:=aI r2;have h6:=JJ h4 (aI hB1.u);have h7:=(bj r2).2 (by omega)
    omega
   ·exact h0
  ·exact .inr (fun a ha=>by have:=rf a ha;have:=hbw.size;omega)
 clear qf rf hWs;have HQ:Hid (U16 qs/\U16 rs/\vd qs*vd es+vd rs=vd ds/\vd rs<vd es/\U16 es/\ad es=m):=⟨q2,r2,eq,lt,hB1.u,hB1.nrm⟩;clear b1 b2 b3 b4 hbw k1 k2 hA1 hB1 q2 r2 eq lt;have k0:=c1.c0;have k1:=c2.c0;go_wp2_with fail;refine(bI false qa qn qc qs _ q3 q4 q5 q1).mono ?_;rintro e w2 ⟨rfl,hb2⟩;rw[uQ];have hal2:Below w2.heap.size w2 (w2.alloc (.cells #[.bool false,.slice qa (ad qs) (ad qs)] 65)):=ag (Jt _ _);have x2:Bx (w2.alloc (.cells #[.bool false,.slice qa (ad qs) (ad qs)] 65)) w2.heap.size (.bool false) (.slice qa (ad qs) (ad qs)):=Bx.new _ _ _ rfl;have d1:=(c1.later hb2).later hal2;have d3:=(c3.later hb2).later hal2;have d4:=(c4.later hb2).later hal2;have e1:=(q1.below hb2).below hal2;have e2:=(r1.below hb2).below hal2;have hbw2:=bh (bh hbw1 (Jr _) hb2) (Jr _) hal2;have HB2:Hid (w1.heap.size<=w2.heap.size):=hb2.size;clear c1 c2 c3 c4 k0 k1 q1 r1 hbw1 hb2 hal2;have k0:=d1.c0;go_wp2_with fail;have HG2:Hid (w1.heap.size<=w2.heap.size/\w2.heap.size<=(w2.alloc (.cells #[.bool false,.slice qa (ad qs) (ad qs)] 65)).heap.size):=⟨HB2.out,by simp⟩
 generalize (w2.alloc (.cells #[.bool false,.slice qa (ad qs) (ad qs)] 65))=W2 at *
 generalize w2.heap.size=gx2 at *
 refine(bI false ra rn rc rs _ r3 r4 r5 e2).mono ?_;rintro e w3 ⟨rfl,hb3⟩;rw[uQ];have hal3:Below w3.heap.size w3 (w3.alloc (.cells #[.bool false,.slice ra (ad rs) (ad rs)] 65)):=ag (Jt _ _);have y3:Bx (w3.alloc (.cells #[.bool false,.slice ra (ad rs) (ad rs)] 65)) w3.heap.size (.bool false) (.slice ra (ad rs) (ad rs)):=Bx.new _ _ _ rfl;have x3:=(x2.later hb3).later hal3;have f3:=(d3.later hb3).later hal3;have f4:=(d4.later hb3).later hal3;have g1:=(e1.below hb3).below hal3;have g2:=(e2.below hb3).below hal3;have hbw3:=bh (bh hbw2 (Jr _) hb3) (Jr _) hal3;have HG:Hid (gx2≠w.heap.size+1+1/\gx2≠w.heap.size+1+1+1/\w3.heap.size≠w.heap.size+1+1/\w3.heap.size≠w.heap.size+1+1+1):=by
  have h1:=HG2.out;have h2:=HW.out;have h3:=hb3.size;exact⟨by omega,by omega,by omega,by omega⟩
 clear d1 d3 d4 k0 x2 e1 e2 hbw2 hb3 hal3;have k0:=y3.c0;have k1:=y3.c1;have k2:=x3.c0;have k3:=x3.c1;have z0:=f3.c0;have z1:=f3.c1;have z2:=f4.c0;have z3:=f4.c1;have v0:=f3.f0;have v1:=f3.f1;have v2:=f4.f0;have v3:=f4.f1;go_wp2_with fail;generalize (w3.alloc (.cells #[.bool false,.slice ra (ad rs) (ad rs)] 65))=W3 at *
 generalize w3.heap.size=gx3 at *
 have hg2:gx2≠w.heap.size+1+1/\gx2≠w.heap.size+1+1+1/\gx3≠w.heap.size+1+1/\gx3≠w.heap.size+1+1+1:=HG.out;obtain⟨o1,o2,o3,o4⟩:=hg2;go_region;all_goals go_wp2
 have hN1:=zI g1 HQ.out.1 (by omega)
 have hN2:=zI g2 HQ.out.2.1 (by omega)
 refine bodyPost_ret (v:=.tuple #[.agg #[.bool false,.slice qa (ad qs) (ad qs)],.agg #[.bool false,.slice ra (ad rs) (ad rs)]]) (by simp[results,Tryz.results91,go_sem,z0,z1,z2,z3]) rfl ⟨qa,ad qs,tr qs,ra,ad rs,tr rs,rfl,?_,?_,by rw[lg,lg];exact HQ.out.2.2.1,by rw[lg];exact HQ.out.2.2.2.1,?_,?_,HP.out⟩
 ·exact((((hN1.drew.set (a:=⟨w.heap.size+1+1,0,none⟩) HO.out.1 _).set (a:=⟨w.heap.size+1+1,1,none⟩) HO.out.1 _).set (a:=⟨w.heap.size+1+1+1,0,none⟩) HO.out.2.1 _).set (a:=⟨w.heap.size+1+1+1,1,none⟩) HO.out.2.1 _)
 ·exact((((hN2.drew.set (a:=⟨w.heap.size+1+1,0,none⟩) HO.out.2.2.1 _).set (a:=⟨w.heap.size+1+1,1,none⟩) HO.out.2.2.1 _).set (a:=⟨w.heap.size+1+1+1,0,none⟩) HO.out.2.2.2 _).set (a:=⟨w.heap.size+1+1+1,1,none⟩) HO.out.2.2.2 _)
 ·have h1:=HQ.out
  rcases Ju m (ad rs) with h|h
  ·have:=ic h1.2.2.2.2.1 h1.2.1 (by rw[h1.2.2.2.2.2];exact h);omega
  ·exact h
 ·exact(((hbw3.drew.setCell (p:=⟨w.heap.size+1+1,0,none⟩) (by simp;omega) _).setCell (p:=⟨w.heap.size+1+1,1,none⟩) (by simp;omega) _).setCell (p:=⟨w.heap.size+1+1+1,0,none⟩) (by simp;omega) _).setCell (p:=⟨w.heap.size+1+1+1,1,none⟩) (by simp;omega) _
theorem ediv_one(a q g r:Int)(n:Int)(h:a=q*g+r)(h0:0<=r)(h1:r<g.natAbs)(hn:a=n*g):q=n/\r=0:=by
 have hg:g≠0:=by omega
 have h2:(n-q)*g=r:=by rw[Int.sub_mul];omega
 by_cases h3:n-q=0
 ·rw[h3] at h2
  omega
 ·exfalso
  have h4:=congrArg Int.natAbs h2;rw[Int.natAbs_mul] at h4
  have h5:g.natAbs<=(n-q).natAbs*g.natAbs:=Nat.le_mul_of_pos_left _ (by omega)
  omega
def lK(V g:Int)(w:World)(e:Ending)(w':World):Prop:=
 ∃s1 p1 n1 d1 p2,e=.returned (.tuple #[.agg #[.bool s1,.slice p1 n1 n1],.agg #[.bool false,.slice p2 0 0]])/\RN w' s1 p1 n1 d1/\aF s1 d1*g=V/\aJ w.heap.size p1/\Below w.heap.size w w'
theorem ng(s:Bool)(hX:Rd w q .i64 xs)(hU:U16 xs)(hl:xs.length<=1000000):RN w (nsg s xs) q (ad xs) (tr xs):=
 ⟨af xs,hX.tr,mz hU,aM xs,fun h=>by rw[nsg,if_pos h],by have:=aj xs;omega⟩
theorem pJ{a q g r:Int}(h:q*g+r=a)(h0:0<=r)(h1:r<g)(hx:∃c,a=c*g):r=0:=by
 obtain⟨c,hc⟩:=hx;exact(ediv_one a q g r c h.symm h0 (by omega) hc).2
theorem yC(p q:Option Addr)(n m:Nat)(ds es:List Int)(w:World)(hA:RN w true p n ds)(hB:RN w false q m es)(hn:n<=1000)(hm:m<=1000)(hm0:0<m)(hx:∃c,vd ds=c*vd es):
  Calls Tryz.prog 91 #[.agg #[.bool true,.slice p n n],.agg #[.bool false,.slice q m m]] w (lK (aF true ds) (vd es) w):=by
 have HX:=(show Hid _ from hx)
 clear hx;go_enter Tryz.func91,Tryz.ntmps91;go_upto_region 1 with fail
 have b1:Bx (((((w.alloc (.cells #[.bool true,.slice p n n] 65)).alloc (.cells #[.bool false,.slice q m m] 65)).alloc (.cells #[.bool false,.slice none 0 0] 65)).alloc (.cells #[.bool false,.slice none 0 0] 65))) w.heap.size (.bool true) (.slice p n n):=(((Bx.new _ _ _ rfl).alloc _).alloc _).alloc _;have b2:Bx (((((w.alloc (.cells #[.bool true,.slice p n n] 65)).alloc (.cells #[.bool false,.slice q m m] 65)).alloc (.cells #[.bool false,.slice none 0 0] 65)).alloc (.cells #[.bool false,.slice none 0 0] 65))) (w.heap.size+1) (.bool false) (.slice q m m):=((Bx.new _ _ _ (Js ..).symm).alloc _).alloc _;have b3:Bx (((((w.alloc (.cells #[.bool true,.slice p n n] 65)).alloc (.cells #[.bool false,.slice q m m] 65)).alloc (.cells #[.bool false,.slice none 0 0] 65)).alloc (.cells #[.bool false,.slice none 0 0] 65))) (w.heap.size+1+1) (.bool false) (.slice none 0 0):=(Bx.new _ _ _ (by rw[Js,Js])).alloc _
 have b4:Bx (((((w.alloc (.cells #[.bool true,.slice p n n] 65)).alloc (.cells #[.bool false,.slice q m m] 65)).alloc (.cells #[.bool false,.slice none 0 0] 65)).alloc (.cells #[.bool false,.slice none 0 0] 65))) (w.heap.size+1+1+1) (.bool false) (.slice none 0 0):=Bx.new _ _ _ (by rw[Js,Js,Js])
 have hbw:Below w.heap.size w (((((w.alloc (.cells #[.bool true,.slice p n n] 65)).alloc (.cells #[.bool false,.slice q m m] 65)).alloc (.cells #[.bool false,.slice none 0 0] 65)).alloc (.cells #[.bool false,.slice none 0 0] 65))):=ag (ag (ag (ag (Jt _ _))));generalize ((((w.alloc (.cells #[.bool true,.slice p n n] 65)).alloc (.cells #[.bool false,.slice q m m] 65)).alloc (.cells #[.bool false,.slice none 0 0] 65)).alloc (.cells #[.bool false,.slice none 0 0] 65))=W at *
 have hA1:=hA.below hbw;have hB1:=hB.below hbw;have k1:=b1.c1;have k2:=b2.c1;go_wp2_with fail;refine(fY p q n n m m ds es _ hA1.len hn (Jr _) (by unfold maxLen;omega) hA1.rd hA1.u hA1.nrm hB1.len hm0 hm hB1.rd hB1.u hB1.nrm).mono ?_
 rintro e w1 ⟨qa,qn,qc,qs,ra,rn,rc,rs,rfl,q1,q2,q3,q4,q5,q6,r1,r2,r3,r4,r5,r6,eq,lt,hb1,qf,rf⟩;have c1:=b1.later hb1;have c2:=b2.later hb1;have c3:=b3.later hb1;have c4:=b4.later hb1;have hbw1:=bh hbw (Jr _) hb1;have hWs:w.heap.size+1+1+1<W.heap.size:=block_lt_of_cell b4.c0;have HW:Hid (w.heap.size+1+1+1<W.heap.size/\W.heap.size<=w1.heap.size):=⟨hWs,hb1.size⟩;have hr0:vd rs=0:=pJ eq (aI r2) lt HX.out;have HT:Hid (ad rs=0):=(bj r2).2 hr0;have HQ:Hid (U16 qs/\aF true qs*vd es=aF true ds/\aJ W.heap.size qa):=by
  refine⟨q2,?_,qf⟩;rw[hr0,Int.add_zero] at eq
  show -vd qs*vd es = -vd ds
  rw[Int.neg_mul,eq]
 clear rf hWs eq lt hr0 b1 b2 b3 b4 hbw k1 k2 hA1 hB1 q2 r2 qf;have k0:=c1.c0;have k1:=c2.c0;go_wp2_with fail;refine(bI true qa qn qc qs _ q3 q4 q5 q1).mono ?_;rintro e w2 ⟨rfl,hb2⟩;generalize hs1:nsg true qs=s1;have HS1:=(show Hid _ from hs1)
 clear hs1;have hal2:Below w2.heap.size w2 (w2.alloc (.cells #[.bool s1,.slice qa (ad qs) (ad qs)] 65)):=ag (Jt _ _);have x2:Bx (w2.alloc (.cells #[.bool s1,.slice qa (ad qs) (ad qs)] 65)) w2.heap.size (.bool s1) (.slice qa (ad qs) (ad qs)):=Bx.new _ _ _ rfl;have d1:=(c1.later hb2).later hal2;have d3:=(c3.later hb2).later hal2;have d4:=(c4.later hb2).later hal2;have e1:=(q1.below hb2).below hal2;have e2:=(r1.below hb2).below hal2;have hbw2:=bh (bh hbw1 (Jr _) hb2) (Jr _) hal2;have HB2:Hid (w1.heap.size<=w2.heap.size):=hb2.size;clear c1 c2 c3 c4 k0 k1 q1 r1 hbw1 hb2 hal2;have k0:=d1.c0;go_wp2_with fail;have HG2:Hid (w1.heap.size<=w2.heap.size/\w2.heap.size<=(w2.alloc (.cells #[.bool s1,.slice qa (ad qs) (ad qs)] 65)).heap.size):=⟨HB2.out,by simp⟩
 generalize (w2.alloc (.cells #[.bool s1,.slice qa (ad qs) (ad qs)] 65))=W2 at *
 generalize w2.heap.size=gx2 at *
 refine(bI true ra rn rc rs _ r3 r4 r5 e2).mono ?_;rintro e w3 ⟨rfl,hb3⟩;have hns:nsg true rs=false:=by rw[nsg,if_pos HT.out]
 rw[hns,HT.out];clear hns;have hal3:Below w3.heap.size w3 (w3.alloc (.cells #[.bool false,.slice ra 0 0] 65)):=ag (Jt _ _);have y3:Bx (w3.alloc (.cells #[.bool false,.slice ra 0 0] 65)) w3.heap.size (.bool false) (.slice ra 0 0):=Bx.new _ _ _ rfl;have x3:=(x2.later hb3).later hal3;have f3:=(d3.later hb3).later hal3;have f4:=(d4.later hb3).later hal3;have g1:=(e1.below hb3).below hal3;have hbw3:=bh (bh hbw2 (Jr _) hb3) (Jr _) hal3;have HG:Hid (gx2≠w.heap.size+1+1/\gx2≠w.heap.size+1+1+1/\w3.heap.size≠w.heap.size+1+1/\w3.heap.size≠w.heap.size+1+1+1):=by
  have h1:=HG2.out;have h2:=HW.out;have h3:=hb3.size;exact⟨by omega,by omega,by omega,by omega⟩
 clear d1 d3 d4 k0 x2 e1 e2 hbw2 hb3 hal3;have k0:=y3.c0;have k1:=y3.c1;have k2:=x3.c0;have k3:=x3.c1;have z0:=f3.c0;have z1:=f3.c1;have z2:=f4.c0;have z3:=f4.c1;have v0:=f3.f0;have v1:=f3.f1;have v2:=f4.f0;have v3:=f4.f1;go_wp2_with fail;generalize (w3.alloc (.cells #[.bool false,.slice ra 0 0] 65))=W3 at *
 generalize w3.heap.size=gx3 at *
 have hg2:gx2≠w.heap.size+1+1/\gx2≠w.heap.size+1+1+1/\gx3≠w.heap.size+1+1/\gx3≠w.heap.size+1+1+1:=HG.out;obtain⟨o1,o2,o3,o4⟩:=hg2;go_region;all_goals go_wp2
 have hN1:=ng true g1 HQ.out.1 (by omega)
 have hO1:0<ad qs->Off (w.heap.size+1+1) qa:=fun _ a ha e=>by have:=HQ.out.2.2 a ha;have:=HW.out;omega
 have hO2:0<ad qs->Off (w.heap.size+1+1+1) qa:=fun _ a ha e=>by have:=HQ.out.2.2 a ha;have:=HW.out;omega
 have hv:=gH true HQ.out.1;rw[HS1.out] at hN1 hv
 refine bodyPost_ret (v:=.tuple #[.agg #[.bool s1,.slice qa (ad qs) (ad qs)],.agg #[.bool false,.slice ra 0 0]]) (by simp[results,Tryz.results91,go_sem,z0,z1,z2,z3]) rfl ⟨s1,qa,ad qs,tr qs,ra,rfl,?_,by rw[hv];exact HQ.out.2.1,fun a ha=>by have:=HQ.out.2.2 a ha;have:=HW.out;omega,?_⟩
 ·exact((((hN1.drew.set (a:=⟨w.heap.size+1+1,0,none⟩) hO1 _).set (a:=⟨w.heap.size+1+1,1,none⟩) hO1 _).set (a:=⟨w.heap.size+1+1+1,0,none⟩) hO2 _).set (a:=⟨w.heap.size+1+1+1,1,none⟩) hO2 _)
 ·exact(((hbw3.drew.setCell (p:=⟨w.heap.size+1+1,0,none⟩) (by simp;omega) _).setCell (p:=⟨w.heap.size+1+1,1,none⟩) (by simp;omega) _).setCell (p:=⟨w.heap.size+1+1+1,0,none⟩) (by simp;omega) _).setCell (p:=⟨w.heap.size+1+1+1,1,none⟩) (by simp;omega) _
theorem xE(p q:Option Addr)(n m:Nat)(ds es:List Int)(w:World)(hA:RN w false p n ds)(hB:RN w false q m es)(hn:n<=1000)(hm:m<=1000)(hm0:0<m)(hx:∃c,vd ds=c*vd es):
  Calls Tryz.prog 91 #[.agg #[.bool false,.slice p n n],.agg #[.bool false,.slice q m m]] w (lK (aF false ds) (vd es) w):=by
 have HX:=(show Hid _ from hx)
 clear hx;go_enter Tryz.func91,Tryz.ntmps91;go_upto_region 1 with fail
 have b1:Bx (((((w.alloc (.cells #[.bool false,.slice p n n] 65)).alloc (.cells #[.bool false,.slice q m m] 65)).alloc (.cells #[.bool false,.slice none 0 0] 65)).alloc (.cells #[.bool false,.slice none 0 0] 65))) w.heap.size (.bool false) (.slice p n n):=(((Bx.new _ _ _ rfl).alloc _).alloc _).alloc _;have b2:Bx (((((w.alloc (.cells #[.bool false,.slice p n n] 65)).alloc (.cells #[.bool false,.slice q m m] 65)).alloc (.cells #[.bool false,.slice none 0 0] 65)).alloc (.cells #[.bool false,.slice none 0 0] 65))) (w.heap.size+1) (.bool false) (.slice q m m):=((Bx.new _ _ _ (Js ..).symm).alloc _).alloc _;have b3:Bx (((((w.alloc (.cells #[.bool false,.slice p n n] 65)).alloc (.cells #[.bool false,.slice q m m] 65)).alloc (.cells #[.bool false,.slice none 0 0] 65)).alloc (.cells #[.bool false,.slice none 0 0] 65))) (w.heap.size+1+1) (.bool false) (.slice none 0 0):=(Bx.new _ _ _ (by rw[Js,Js])).alloc _
 have b4:Bx (((((w.alloc (.cells #[.bool false,.slice p n n] 65)).alloc (.cells #[.bool false,.slice q m m] 65)).alloc (.cells #[.bool false,.slice none 0 0] 65)).alloc (.cells #[.bool false,.slice none 0 0] 65))) (w.heap.size+1+1+1) (.bool false) (.slice none 0 0):=Bx.new _ _ _ (by rw[Js,Js,Js])
 have hbw:Below w.heap.size w (((((w.alloc (.cells #[.bool false,.slice p n n] 65)).alloc (.cells #[.bool false,.slice q m m] 65)).alloc (.cells #[.bool false,.slice none 0 0] 65)).alloc (.cells #[.bool false,.slice none 0 0] 65))):=ag (ag (ag (ag (Jt _ _))));generalize ((((w.alloc (.cells #[.bool false,.slice p n n] 65)).alloc (.cells #[.bool false,.slice q m m] 65)).alloc (.cells #[.bool false,.slice none 0 0] 65)).alloc (.cells #[.bool false,.slice none 0 0] 65))=W at *
 have hA1:=hA.below hbw;have hB1:=hB.below hbw;have k1:=b1.c1;have k2:=b2.c1;go_wp2_with fail;refine(fY p q n n m m ds es _ hA1.len hn (Jr _) (by unfold maxLen;omega) hA1.rd hA1.u hA1.nrm hB1.len hm0 hm hB1.rd hB1.u hB1.nrm).mono ?_
 rintro e w1 ⟨qa,qn,qc,qs,ra,rn,rc,rs,rfl,q1,q2,q3,q4,q5,q6,r1,r2,r3,r4,r5,r6,eq,lt,hb1,qf,rf⟩;have c1:=b1.later hb1;have c2:=b2.later hb1;have c3:=b3.later hb1;have c4:=b4.later hb1;have hbw1:=bh hbw (Jr _) hb1;have hWs:w.heap.size+1+1+1<W.heap.size:=block_lt_of_cell b4.c0;have HW:Hid (w.heap.size+1+1+1<W.heap.size/\W.heap.size<=w1.heap.size):=⟨hWs,hb1.size⟩;have hr0:vd rs=0:=pJ eq (aI r2) lt HX.out;have HT:Hid (ad rs=0):=(bj r2).2 hr0;have HQ:Hid (U16 qs/\aF false qs*vd es=aF false ds/\aJ W.heap.size qa):=by
  refine⟨q2,?_,qf⟩;rw[hr0,Int.add_zero] at eq
  show vd qs*vd es=vd ds
  exact eq
 clear rf hWs eq lt hr0 b1 b2 b3 b4 hbw k1 k2 hA1 hB1 q2 r2 qf;have k0:=c1.c0;have k1:=c2.c0;go_wp2_with fail;refine(bI false qa qn qc qs _ q3 q4 q5 q1).mono ?_;rintro e w2 ⟨rfl,hb2⟩;generalize hs1:nsg false qs=s1;have HS1:=(show Hid _ from hs1)
 clear hs1;have hal2:Below w2.heap.size w2 (w2.alloc (.cells #[.bool s1,.slice qa (ad qs) (ad qs)] 65)):=ag (Jt _ _);have x2:Bx (w2.alloc (.cells #[.bool s1,.slice qa (ad qs) (ad qs)] 65)) w2.heap.size (.bool s1) (.slice qa (ad qs) (ad qs)):=Bx.new _ _ _ rfl;have d1:=(c1.later hb2).later hal2;have d3:=(c3.later hb2).later hal2;have d4:=(c4.later hb2).later hal2;have e1:=(q1.below hb2).below hal2;have e2:=(r1.below hb2).below hal2;have hbw2:=bh (bh hbw1 (Jr _) hb2) (Jr _) hal2;have HB2:Hid (w1.heap.size<=w2.heap.size):=hb2.size;clear c1 c2 c3 c4 k0 k1 q1 r1 hbw1 hb2 hal2;have k0:=d1.c0;go_wp2_with fail;have HG2:Hid (w1.heap.size<=w2.heap.size/\w2.heap.size<=(w2.alloc (.cells #[.bool s1,.slice qa (ad qs) (ad qs)] 65)).heap.size):=⟨HB2.out,by simp⟩
 generalize (w2.alloc (.cells #[.bool s1,.slice qa (ad qs) (ad qs)] 65))=W2 at *
 generalize w2.heap.size=gx2 at *
 refine(bI false ra rn rc rs _ r3 r4 r5 e2).mono ?_;rintro e w3 ⟨rfl,hb3⟩;have hns:nsg false rs=false:=by rw[nsg,if_pos HT.out]
 rw[hns,HT.out];clear hns;have hal3:Below w3.heap.size w3 (w3.alloc (.cells #[.bool false,.slice ra 0 0] 65)):=ag (Jt _ _);have y3:Bx (w3.alloc (.cells #[.bool false,.slice ra 0 0] 65)) w3.heap.size (.bool false) (.slice ra 0 0):=Bx.new _ _ _ rfl;have x3:=(x2.later hb3).later hal3;have f3:=(d3.later hb3).later hal3;have f4:=(d4.later hb3).later hal3;have g1:=(e1.below hb3).below hal3;have hbw3:=bh (bh hbw2 (Jr _) hb3) (Jr _) hal3;have HG:Hid (gx2≠w.heap.size+1+1/\gx2≠w.heap.size+1+1+1/\w3.heap.size≠w.heap.size+1+1/\w3.heap.size≠w.heap.size+1+1+1):=by
  have h1:=HG2.out;have h2:=HW.out;have h3:=hb3.size;exact⟨by omega,by omega,by omega,by omega⟩
 clear d1 d3 d4 k0 x2 e1 e2 hbw2 hb3 hal3;have k0:=y3.c0;have k1:=y3.c1;have k2:=x3.c0;have k3:=x3.c1;have z0:=f3.c0;have z1:=f3.c1;have z2:=f4.c0;have z3:=f4.c1;have v0:=f3.f0;have v1:=f3.f1;have v2:=f4.f0;have v3:=f4.f1;go_wp2_with fail;generalize (w3.alloc (.cells #[.bool false,.slice ra 0 0] 65))=W3 at *
 generalize w3.heap.size=gx3 at *
 have hg2:gx2≠w.heap.size+1+1/\gx2≠w.heap.size+1+1+1/\gx3≠w.heap.size+1+1/\gx3≠w.heap.size+1+1+1:=HG.out;obtain⟨o1,o2,o3,o4⟩:=hg2;go_region;all_goals go_wp2
 have hN1:=ng false g1 HQ.out.1 (by omega)
 have hO1:0<ad qs->Off (w.heap.size+1+1) qa:=fun _ a ha e=>by have:=HQ.out.2.2 a ha;have:=HW.out;omega
 have hO2:0<ad qs->Off (w.heap.size+1+1+1) qa:=fun _ a ha e=>by have:=HQ.out.2.2 a ha;have:=HW.out;omega
 have hv:=gH false HQ.out.1;rw[HS1.out] at hN1 hv
 refine bodyPost_ret (v:=.tuple #[.agg #[.bool s1,.slice qa (ad qs) (ad qs)],.agg #[.bool false,.slice ra 0 0]]) (by simp[results,Tryz.results91,go_sem,z0,z1,z2,z3]) rfl ⟨s1,qa,ad qs,tr qs,ra,rfl,?_,by rw[hv];exact HQ.out.2.1,fun a ha=>by have:=HQ.out.2.2 a ha;have:=HW.out;omega,?_⟩
 ·exact((((hN1.drew.set (a:=⟨w.heap.size+1+1,0,none⟩) hO1 _).set (a:=⟨w.heap.size+1+1,1,none⟩) hO1 _).set (a:=⟨w.heap.size+1+1+1,0,none⟩) hO2 _).set (a:=⟨w.heap.size+1+1+1,1,none⟩) hO2 _)
 ·exact(((hbw3.drew.setCell (p:=⟨w.heap.size+1+1,0,none⟩) (by simp;omega) _).setCell (p:=⟨w.heap.size+1+1,1,none⟩) (by simp;omega) _).setCell (p:=⟨w.heap.size+1+1+1,0,none⟩) (by simp;omega) _).setCell (p:=⟨w.heap.size+1+1+1,1,none⟩) (by simp;omega) _
theorem IT(s:Bool)(p q:Option Addr)(n m:Nat)(ds es:List Int)(w:World)(hA:RN w s p n ds)(hB:RN w false q m es)(hn:n<=1000)(hm:m<=1000)(hm0:0<m)(hx:∃c,vd ds=c*vd es):
  Calls Tryz.prog 91 #[.agg #[.bool s,.slice p n n],.agg #[.bool false,.slice q m m]] w (lK (aF s ds) (vd es) w):=by
 cases s with
 |true=>exact yC p q n m ds es w hA hB hn hm hm0 hx
 |false=>exact xE p q n m ds es w hA hB hn hm hm0 hx
end Go.Proofs.YtdjjlghlcffflaaGreatDoor
