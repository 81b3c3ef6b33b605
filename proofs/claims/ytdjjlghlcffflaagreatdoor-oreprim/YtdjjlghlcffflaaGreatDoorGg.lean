/- Own. -/
import Derived.Test.YtdjjlghlcffflaaGreatDoorGf
set_option linter.unusedVariables false
set_option linter.unusedSimpArgs false
set_option maxHeartbeats 8000000
set_option maxRecDepth 100000
namespace Go.Proofs.YtdjjlghlcffflaaGreatDoor
open Go.RowKit
theorem DJ(s t:Bool)(xs ys:List Int):Int.gcd (aq s xs) (aq t ys)=Int.gcd (val xs) (val ys):=by
 cases s<;>cases t<;>simp[aq,Int.gcd_neg,Int.neg_gcd]
theorem FQ(s t:Bool)(p q:Option Addr)(n nc m mc:Nat)(xs ys:List Int)(w:World)(hA:AI w p n nc xs)(hB:AI w q m mc ys)(K:Nat)(hK2:2<=K)(hK:K<=150)(hn:n<K)(hm:m<K):
  Calls Tryz.prog 74 #[.agg #[.bool s,.slice p n nc],.agg #[.bool t,.slice q m mc]] w fun e w'=>∃s' p' n' zs,e=.returned (.agg #[.bool s',.slice p' n' n'])/\NI w.heap.size w' s' p' n' zs (Int.gcd (aq s xs) (aq t ys))/\n'<=K/\Below w.heap.size w w':=by
 have tx:=aj xs;have ty:=aj ys;have lx:=hA.len;have ly:=hB.len;rw[DJ];obtain⟨g,hg⟩:∃g,g=Int.gcd (val xs) (val ys):=⟨_,rfl⟩;have HG:Hid (g=Int.gcd (val xs) (val ys)):=hg;rw[<-hg];clear hg;go_enter Tryz.func74,Tryz.ntmps74;go_wp2;have hX:=iJ w (.bool s) (.slice p n nc) (.bool t) (.slice q m mc) (.bool false) (.slice none 0 0) 50 50 50;generalize ((w.alloc (Obj.cells #[Value.bool s,Value.slice p n nc] 50)).alloc (Obj.cells #[Value.bool t,Value.slice q m mc] 50)).alloc (Obj.cells #[Value.bool false,Value.slice none 0 0] 50)=W at *
 have hA':=hA.below hX.below;have hB':=hB.below hX.below;have k1:=hX.ca1;have k3:=hX.cb1;go_region_held3 (fun w'=>w'.cell? ⟨w.heap.size,1,none⟩=some (.slice p n nc)/\w'.cell? ⟨w.heap.size+1,1,none⟩=some (.slice q m mc)) (first|(simp[go_sem, *];done)|exact fW (by assumption) (by assumption))
  (first
   |(go_at_call_of 78 (Value.slice p n nc);refine(aS p n nc xs _ hA.len hA.cap hA.bnd ?_).mono ?_;exact hA'.rd.drew;rintro e w' ⟨rfl,rfl⟩)
   |(go_at_call_of 78 (Value.slice q m mc);refine(aS q m mc ys _ hB.len hB.cap hB.bnd ?_).mono ?_;exact hB'.rd.drew;rintro e w' ⟨rfl,rfl⟩)
   |(go_at_call 135;refine(yn p q (ad xs) nc (ad ys) mc (tr xs) (tr ys) _ hA'.tr.drew hB'.tr.drew K hK2 hK (by omega) (by omega) (aM xs) (aM ys)).mono ?_;rintro e w1 ⟨qz,nz,ncz,zs,rfl,z1,z2,z3,z4,z5,z6,z7,z8,z9,hb1⟩)
   |(go_at_call 115;refine(b7 false qz nz ncz zs _ z3 z4 z5 ?_).mono ?_;exact z1;rintro e w2 ⟨rfl,hb2⟩;obtain⟨c0,c1,f0,f1⟩:=cj ((aQ hb1).trans (hb2.mono (aQ hb1).size)) hX.cr0 hX.cr1 hX.fr0 hX.fr1))
 go_wp2;have hsz:=hX.size;have htl:=aj zs;have hv:aq false zs=g:=by
  rw[aq,if_neg (by decide),z7,HG.out,aK,aK]
 have hbb:=aQ hb1;have hs1:=hbb.size;have hN:=((dn (B:=W.heap.size) false z1 z2 z8 z9).below hb2);rw[hv] at hN
 refine bodyPost_ret (v:=.agg #[.bool (nsg false zs),.slice (nad qz zs) (ad zs) (ad zs)]) (by simp[results,Tryz.results74,go_sem,c0,c1]) rfl ⟨_,_,_,tr zs,rfl,?_,by omega,?_⟩
 ·exact((hN.set (by simp;omega) _).set (by simp;omega) _).mono (by omega)
 ·exact((hX.below.trans (ae hbb hb2 |>.mono (by omega))).setCell (by simp;omega) _).setCell (by simp;omega) _
def aB(zs:List Int):Nat:=zs.foldl (fun g z=>Int.gcd g z) 0
theorem gQ(zs:List Int)(j:Nat)(h:j<zs.length):aB (zs.take (j+1))=Int.gcd (aB (zs.take j)) (gx zs j):=by
 rw[bZ zs j h,List.take_succ_eq_append_getElem h,aB,List.foldl_append];rfl
theorem wG:∀zs:List Int,zs.foldl (fun(g:Nat) z=>Int.gcd g z) 1=1
 | []=>rfl
 |z::r=>by
  have e:Int.gcd ((1:Nat):Int) z=1:=by simp[Int.gcd]
  rw[List.foldl_cons,e];exact wG r
theorem DM(zs:List Int)(j:Nat)(h:aB (zs.take j)=1):aB zs=1:=by
 have e:aB zs=(zs.drop j).foldl (fun(g:Nat) z=>Int.gcd g z) (aB (zs.take j)):=by
  rw[aB,aB,<-List.foldl_append,List.take_append_drop]
 rw[e,h];exact wG _
variable {w:World} {K L:Nat} {x y:Int} {e f:Ent}
theorem lJ(h:EV w K x e)(k:EV w L y f)(hK:K<150)(hL:L<150):Calls Tryz.prog 74 #[.agg #[.bool e.s,.slice e.p e.n e.c],.agg #[.bool f.s,.slice f.p f.n f.c]] w fun r w'=>∃u:Ent,r=.returned (.agg #[.bool u.s,.slice u.p u.n u.c])/\NV w.heap.size w' 150 (Int.gcd x y) u/\Below w.heap.size w w':=by
 obtain⟨xs,h1,rfl,h3⟩:=h;obtain⟨ys,k1,rfl,k3⟩:=k;refine(FQ e.s f.s e.p f.p e.n e.c f.n f.c xs ys w h1 k1 150 (by decide) (by decide) (by omega) (by omega)).mono ?_
 rintro r w' ⟨s',p',n',zs,g1,g2,g3,g4⟩;exact⟨⟨s',p',n',n'⟩,g1,⟨zs,g2,rfl,g3⟩,g4⟩
variable {g:Nat}
theorem Dd:zb (g:Int)=1<->g=1:=by
 constructor
 ·intro h
  have hI:=lC (g:Int);rw[h] at hI
  obtain⟨a,b,c⟩:=hI;simp at b c
  omega
 ·intro h;subst h;decide
variable {B M:Nat} {z:Int}
theorem NV.fit(h:NV B w K z e)(hz:(z.natAbs:Int)<pw M):NV B w M z e:=by
 obtain⟨xs,h1,h2,h3⟩:=h;exact⟨xs,h1,h2,h1.le hz⟩
variable {p:Option Addr} {n nc:Nat} {es:List Ent} {zs:List Int}
theorem PA.gbd'(h:PA w K p n nc es zs):∀i,((gx zs i).natAbs:Int)<pw K:=fun i=>by
 rcases Ju i n with hlt|hge
 ·obtain⟨xs,h1,h2,h3⟩:=h.ev i hlt
  have h4:=h1.lt (ge es i).s;rw[h2] at h4
  have:=aW h3;omega
 ·rw[ak zs n (by rw[h.zl];exact Jr _) i hge]
  exact bu K
variable {P:Int}
theorem Ik(hx:(x.natAbs:Int)<P)(hy:(y.natAbs:Int)<P):((((Int.gcd x y:Nat):Int)).natAbs:Int)<P:=by
 rw[Int.natAbs_natCast];rcases Jw y.natAbs with h0|h0
 ·have:Int.gcd x y=x.natAbs:=by
   have e:y=0:=by omega
   rw[e,Int.gcd_zero_right]
  omega
 ·have h1:Int.gcd x y<=y.natAbs:=Nat.le_of_dvd h0 (Nat.gcd_dvd_right _ _)
  omega
variable {w2:World}
theorem qe{u:Ent}(h:NV (w.heap.size+2) w2 K z u)(hs:w.heap.size<w.heap.size+2):NV w.heap.size ((w2.setCell ⟨w.heap.size,0,none⟩ (.bool u.s)).setCell ⟨w.heap.size,1,none⟩ (.slice u.p u.n u.c)) K z u:=(h.b8 (o:=0) hs _ _).mono (by omega)
theorem pZ(h:PA w K p n nc es zs)(hn:n<=1000000)(hK:K<150)(hK1:1<=K):
  Calls Tryz.prog 118 #[.slice p n nc] w fun r w'=>∃u:Ent,r=.returned (.agg #[.bool u.s,.slice u.p u.n u.c])/\NV w.heap.size w' K (aB zs) u/\Below w.heap.size w w':=by
 have hel:=h.el;have hzl:=h.zl;go_enter Tryz.func118,Tryz.ntmps118;go_wp2_with fail;have hR0:Bx ((w.alloc (.cells #[.bool false,.slice none 0 0] 50)).alloc (.cells #[.bool false,.slice none 0 0] 50)) w.heap.size (.bool false) (.slice none 0 0):=(Bx.new _ _ _ rfl).alloc _;have hG0:Bx ((w.alloc (.cells #[.bool false,.slice none 0 0] 50)).alloc (.cells #[.bool false,.slice none 0 0] 50)) (w.heap.size+1) (.bool false) (.slice none 0 0):=Bx.new _ _ _ (by simp)
 have hW0:Below w.heap.size w ((w.alloc (.cells #[.bool false,.slice none 0 0] 50)).alloc (.cells #[.bool false,.slice none 0 0] 50)):=((Jt _ _).alloc (Jr _) _).alloc (by simp) _
 generalize (w.alloc (.cells #[.bool false,.slice none 0 0] 50)).alloc (.cells #[.bool false,.slice none 0 0] 50)=W0 at *
 have HG:Hid (∀i,((gx zs i).natAbs:Int)<pw K):=h.gbd';go_loopw [5,8] (fun cv kv wr=>∃(j:Nat) (u:Ent),j<=n/\kv=.int .i64 j/\Hid (Bx wr w.heap.size (.bool false) (.slice none 0 0)/\Bx wr (w.heap.size+1) (.bool u.s) (.slice u.p u.n u.c)/\NV (w.heap.size+2) wr K (aB (zs.take j)) u/\Below w.heap.size w wr)) (fun _ kv _=>n-(intOf kv).toNat)
 case atStart=>exact⟨0,ez,Jz _,by go_num,hR0,hG0,by rw[List.take_zero];exact NV.ez _ _ _,hW0⟩
 case round=>
  obtain⟨j,u,hj,rfl,H⟩:=hrel;rcases Ju j n with hlt|hge
  ·obtain⟨hR,hGx,hN,hB⟩:=H.out
   have hh:=h.below hB;have hv:=hh.ev j hlt;obtain⟨b,o,hp,hc⟩:=hh.pl (by omega)
   subst hp;obtain⟨c0,c1⟩:=hc j (by omega)
   have hsg:w.heap.size+1<wr.heap.size:=block_lt_of_cell hGx.c0;have HT:Hid (aB (zs.take (j+1))=Int.gcd (aB (zs.take j)) (gx zs j)):=gQ zs j (by omega)
   have hbd:Hid ((((aB (zs.take (j+1)):Nat):Int).natAbs:Int)<pw K):=by
    show _<_
    rw[HT.out];obtain⟨xs,q1,q2,q3⟩:=hN.ev (by omega)
    have q4:=q1.lt u.s;rw[q2] at q4
    have:=aW q3;exact Ik (by omega) (HG.out j)
   have hal:=ag (o:=.cells #[.bool (ge es j).s,.slice (ge es j).p (ge es j).n (ge es j).c] 50) (Jt wr.heap.size wr);have hR1:=hR.later hal;have hG1:=hGx.later hal;have hN1:=hN.below hal;have hv1:=hv.below hal;have hB1:=bh hB (Jr _) hal;obtain⟨g0,g1,-,-⟩:=id hG1;clear H hh hc hR hGx hN hB hv hal;go_wp2_with fail;clear g0 g1 c0 c1;generalize wr.alloc (.cells #[.bool (ge es j).s,.slice (ge es j).p (ge es j).n (ge es j).c] 50)=W1 at *
   have hsW:w.heap.size+1<W1.heap.size:=block_lt_of_cell hG1.c0;have hgc:=lJ (hN1.ev (by omega)) hv1 hK hK
   rw[<-HT.out] at hgc
   refine hgc.mono ?_;rintro r w1 ⟨u1,rfl,hU1,hb1⟩;have hR2:=hR1.later hb1;have hG2:=hG1.later hb1;have hB2:=bh hB1 (Jr _) hb1;have hU2:=(hU1.fit hbd.out).mono (show w.heap.size+2<=W1.heap.size by omega)
   have HST:Hid (Bx ((w1.setCell ⟨w.heap.size+1,0,none⟩ (.bool u1.s)).setCell ⟨w.heap.size+1,1,none⟩ (.slice u1.p u1.n u1.c)) w.heap.size (.bool false) (.slice none 0 0)/\Bx ((w1.setCell ⟨w.heap.size+1,0,none⟩ (.bool u1.s)).setCell ⟨w.heap.size+1,1,none⟩ (.slice u1.p u1.n u1.c)) (w.heap.size+1) (.bool u1.s) (.slice u1.p u1.n u1.c)/\NV (w.heap.size+2) ((w1.setCell ⟨w.heap.size+1,0,none⟩ (.bool u1.s)).setCell ⟨w.heap.size+1,1,none⟩ (.slice u1.p u1.n u1.c)) K (aB (zs.take (j+1))) u1/\Below w.heap.size w ((w1.setCell ⟨w.heap.size+1,0,none⟩ (.bool u1.s)).setCell ⟨w.heap.size+1,1,none⟩ (.slice u1.p u1.n u1.c))):=⟨dO hR2 (by omega),eg hG2,hU2.b8 (o:=0) (by omega) _ _,dD hB2 (by omega) _ _⟩
   obtain⟨g0,g1,f0,f1⟩:=id hG2;have k0:=HST.out.2.1.c0;have k1:=HST.out.2.1.c1;clear hgc hR1 hG1 hN1 hv1 hB1 hU1 hb1 hR2 hG2 hB2 hU2;go_wp2_with fail;clear g0 g1 f0 f1 k0 k1;generalize (w1.setCell ⟨w.heap.size+1,0,none⟩ (.bool u1.s)).setCell ⟨w.heap.size+1,1,none⟩ (.slice u1.p u1.n u1.c)=W2 at *
   refine(tj (HST.out.2.2.1.ev (by omega))).mono ?_
   rintro r w2 ⟨rfl,hb2⟩;have H2:Hid (Bx w2 w.heap.size (.bool false) (.slice none 0 0)/\Bx w2 (w.heap.size+1) (.bool u1.s) (.slice u1.p u1.n u1.c)/\NV (w.heap.size+2) w2 K (aB (zs.take (j+1))) u1/\Below w.heap.size w w2):=by
    obtain⟨a1,a2,a3,a4⟩:=HST.out;exact⟨a1.later hb2,a2.later hb2,a3.below hb2,bh a4 (Jr _) hb2⟩
   clear HST hb2;have hcs:Hid (aB (zs.take (j+1))=1\/¬aB (zs.take (j+1))=1):=Classical.em _;rcases hcs.out with hz|hz
   ·have hzb:(zb ((aB (zs.take (j+1)):Nat):Int):Int)=1:=by rw[Dd.2 hz];rfl
    have HZ:Hid (aB zs=1/\aB (zs.take (j+1))=1):=⟨DM zs (j+1) hz,hz⟩;clear hz hcs;obtain⟨q1,q2,q3,q4⟩:=H2.out;have hsz:w.heap.size<w.heap.size+2:=by omega
    have HN:Hid (NV (w.heap.size+2) w2 K (aB zs) u1):=by
     show NV _ _ _ _ _
     rw[HZ.out.1,<-HZ.out.2];exact q3
    have HB:Hid (Below w.heap.size w w2):=q4;obtain⟨r0,r1,f0,f1⟩:=q1;obtain⟨g0,g1,-,-⟩:=q2;clear q3 q4 H2;go_wp2;refine bodyPost_ret (v:=.agg #[.bool u1.s,.slice u1.p u1.n u1.c]) (by simp[results,Tryz.results118,go_sem,r0,r1]) rfl ⟨u1,rfl,?_,?_⟩
    ·exact qe HN.out hsz
    ·exact dD HB.out (Jr _) _ _
   ·have hzb:((zb ((aB (zs.take (j+1)):Nat):Int):Int)==1)=false:=by
     rw[beq_eq_false_iff_ne];intro e;exact hz (Dd.1 (by omega))
    clear hz hcs;go_wp2;refine⟨⟨j+1,u1,by omega,by go_num,H2.out⟩,by simp[intOf];omega⟩
  ·obtain rfl:j=n:=by omega
   obtain⟨q1,q2,q3,q4⟩:=H.out;rw[Jv (by omega)] at q3
   have hsz:w.heap.size<w.heap.size+2:=by omega
   have HN:Hid (NV (w.heap.size+2) wr K (aB zs) u):=q3;have HB:Hid (Below w.heap.size w wr):=q4;obtain⟨r0,r1,f0,f1⟩:=q1;obtain⟨g0,g1,-,-⟩:=q2;clear q3 q4 H hge;go_wp2;refine bodyPost_ret (v:=.agg #[.bool u.s,.slice u.p u.n u.c]) (by simp[results,Tryz.results118,go_sem,r0,r1]) rfl ⟨u,rfl,?_,?_⟩
   ·exact qe HN.out hsz
   ·exact dD HB.out (Jr _) _ _
theorem FW(s:Bool)(p:Option Addr)(n nc:Nat)(xs:List Int)(w:World)(hA:AI w p n nc xs):
  Calls Tryz.prog 119 #[.agg #[.bool s,.slice p n nc]] w fun e w'=>∃s' p' n' ys,e=.returned (.agg #[.bool s',.slice p' n' n'])/\NI w.heap.size w' s' p' n' ys (aq (!s) xs)/\n'<=n/\Below w.heap.size w w':=by
 have ht:=aj xs;have hl:=hA.len;have hs:=hA.sml;go_enter Tryz.func119,Tryz.ntmps119;go_wp2;go_region_held3 (fun w'=>w'.cell? ⟨w.heap.size,0,none⟩=some (.bool s)/\w'.cell? ⟨w.heap.size,1,none⟩=some (.slice p n nc)) (first|(simp[go_sem, *,World.cell?_alloc_past];done)|exact fW (by assumption) (by assumption))
  (first
   |(go_at_call 78;refine(aS p n nc xs _ hA.len hA.cap hA.bnd ?_).mono ?_;exact((hA.rd.alloc _).alloc _).drew;rintro e w' ⟨rfl,rfl⟩)
   |(go_at_call 164;refine(gL p (ad xs) nc (tr xs) _ (af xs) (by omega) ?_).mono ?_;exact((hA.rd.tr.alloc _).alloc _).drew;rintro e w' ⟨rfl,rfl⟩)
   |(go_at_call 115;refine(b7 (!s) (some ⟨w.heap.size+1+1,0,none⟩) (ad xs) (ad xs) (tr xs) _ (af xs) (Jr _) (by unfold maxLen;omega) ?_).mono ?_;exact(Row.Ej w _ _ _ _ _).drew.a8;rintro e w1 ⟨rfl,hb⟩;obtain⟨c0,c1,f0,f1⟩:=cj (r:=w.heap.size+1) (u:=.bool false) (v:=.slice none 0 0) hb (by simp[go_sem,World.cell?_alloc_past]) (by simp[go_sem,World.cell?_alloc_past]) (by simp[go_sem]) (by simp[go_sem])))
 go_wp2;refine bodyPost_ret (v:=.agg #[.bool (nsg (!s) (tr xs)),.slice (nad (some ⟨w.heap.size+1+1,0,none⟩) (tr xs)) (ad (tr xs)) (ad (tr xs))]) (by simp[results,Tryz.results119,go_sem,c0,c1]) rfl ⟨_,_,_,tr (tr xs),rfl,?_,?_,?_⟩
 ·rw[<-tW (!s) xs]
  exact((((dn (B:=w.heap.size+1+1) (!s) (Row.Ej w _ _ _ _ _).drew.a8 (cC hA.u) (aY (Jr _)) ((Row.Ej w _ _ _ _ _).drew.fz 0)).below hb).set (by simp) _).set (by simp) _).mono (by omega)
 ·rw[aM];omega
 ·exact((((((Jt _ _).alloc (Jr _) _).alloc (by simp) _).alloc (by simp;omega) _).drew.trans (hb.mono (by simp;omega))).setCell (by simp) _).setCell (by simp) _
variable {o:Nat} {u v:Value}
theorem PA.og(h:PA w K p n nc es zs)(hp:0<n->Off g p)(hq:∀j,j<n->0<(ge es j).n->Off g (ge es j).p):PA ((w.setCell ⟨g,o,none⟩ u).setCell ⟨g,o+1,none⟩ v) K p n nc es zs:=by
 refine⟨h.el,h.zl,h.cap,h.bnd,h.pn,fun hx=>?_,fun j hj=>(h.ev j hj).b8 (hq j hj)⟩
 have ho:=hp (by rw[h.el] at hx;exact hx)
 exact((h.pl.ah ⟨g,o,none⟩ u ho).ah ⟨g,o+1,none⟩ v ho) hx
theorem Bu(args:Array Value)(w':World):Sem.run Tryz.prog (callFunc 133 args) w'=.ok (.enter 133 args) w':=by
 have h1:¬Tryz.f133.name = "runtime.NumGoroutine" := of_decide_eq_false (by kernel_rfl)
 have h2:¬Tryz.f133.body=none:=fun h=>by cases h
 simp only[callFunc,Tryz.func133,go_sem];simp[h1,h2,go_sem]
theorem callParts(args:Array Value)(w':World):Sem.run Tryz.prog (callFunc 121 args) w'=.ok (.enter 121 args) w':=by
 have h1:¬Tryz.f121.name = "runtime.NumGoroutine" := of_decide_eq_false (by kernel_rfl)
 have h2:¬Tryz.f121.body=none:=fun h=>by cases h
 simp only[callFunc,Tryz.func121,go_sem];simp[h1,h2,go_sem]
theorem AZ(hX:Bx w g (.bool e.s) (.slice e.p e.n e.c))(hx:EV w L x e)(h:EV w K z f)(hL:L<80):
  Calls Tryz.prog 133 #[.agg #[.bool f.s,.slice f.p f.n f.c],.pointer (some ⟨g,0,none⟩)] w fun r w'=>∃u:Ent,r=.returned (.agg #[.bool u.s,.slice u.p u.n u.c])/\NV w.heap.size w' (L+K) (x*z) u/\Below w.heap.size w w':=by
 obtain⟨a0,a1,-,-⟩:=((hX.alloc (.cells #[.bool f.s,.slice f.p f.n f.c] 50)).alloc (.cells #[.bool false,.slice none 0 0] 50));have hR0:Bx ((w.alloc (.cells #[.bool f.s,.slice f.p f.n f.c] 50)).alloc (.cells #[.bool false,.slice none 0 0] 50)) (w.heap.size+1) (.bool false) (.slice none 0 0):=Bx.new _ _ _ (by simp)
 have hW0:Below w.heap.size w ((w.alloc (.cells #[.bool f.s,.slice f.p f.n f.c] 50)).alloc (.cells #[.bool false,.slice none 0 0] 50)):=((Jt _ _).alloc (Jr _) _).alloc (by simp) _
 go_enter Tryz.func133,Tryz.ntmps133;go_wp2_with fail;generalize (w.alloc (.cells #[.bool f.s,.slice f.p f.n f.c] 50)).alloc (.cells #[.bool false,.slice none 0 0] 50)=W0 at *
 refine(Bi (hx.below hW0) (h.below hW0) hL).mono ?_;rintro r w1 ⟨u,rfl,hN,hb1⟩;have sR:w.heap.size+1<W0.heap.size:=block_lt_of_cell hR0.c0;obtain⟨r0,r1,f0,f1⟩:=hR0.later hb1;have HN:Hid (NV W0.heap.size w1 (L+K) (x*z) u):=hN;clear hN a0 a1 hR0;go_wp2;refine bodyPost_ret (v:=.agg #[.bool u.s,.slice u.p u.n u.c]) (by simp[results,Tryz.results133,go_sem,r0,r1]) rfl ⟨u,rfl,?_,?_⟩
 ·exact(HN.out.b8 (g:=w.heap.size+1) (o:=0) sR _ _).mono hW0.size
 ·exact dD (ae hW0 hb1) (by omega) _ _
theorem EV.bd(h:EV w K z e):(z.natAbs:Int)<pw K:=by
 obtain⟨xs,h1,h2,h3⟩:=h;have h4:=h1.lt e.s;rw[h2] at h4
 have:=aW h3;omega
theorem zf(x:Int)(zs:List Int)(j:Nat):gx (zs.map (x * ·)) j=x*gx zs j:=by
 unfold gx;rw[List.getD_eq_getElem?_getD,List.getD_eq_getElem?_getD,List.getElem?_map]
 cases h:zs[j]? with
 |none=>simp
 |some v=>simp
theorem jS(h:PA w K p n nc es zs)(hx:EV w L x e)(hn:n<=1000000)(hL:L<80)(hK:K<=500):
  Calls Tryz.prog 73 #[.slice p n nc,.agg #[.bool e.s,.slice e.p e.n e.c]] w (PnP (tr ((tr zs).map (x * ·))) (L+K) w):=by
 have htl:=aj zs;have hzl:=h.zl;go_enter Tryz.func73,Tryz.ntmps73;go_wp2_with fail;have hal:=ag (o:=.cells #[.bool e.s,.slice e.p e.n e.c] 50) (Jt w.heap.size w);have hX1:Bx (w.alloc (.cells #[.bool e.s,.slice e.p e.n e.c] 50)) w.heap.size (.bool e.s) (.slice e.p e.n e.c):=Bx.new _ _ _ rfl;have h1:=h.below hal;have hx1:=hx.below hal;have hoff:Hid (0<e.n->Off w.heap.size e.p):=fun h0=>by obtain⟨xs,q1,-⟩:=hx;exact q1.rd.off (Jr _) (by rw[q1.len];exact h0)
 have hpo:Hid (0<n->Off w.heap.size p):=fun h0=>h.pl.off (Jr _) (by rw[h.el];exact h0)
 have hpe:Hid (∀j,j<n->0<(ge es j).n->Off w.heap.size (ge es j).p):=fun j hj h0=>by obtain⟨xs,q1,-⟩:=h.ev j hj;exact q1.rd.off (Jr _) (by rw[q1.len];exact h0)
 generalize w.alloc (.cells #[.bool e.s,.slice e.p e.n e.c] 50)=W1 at *
 refine(vU hx1 (by omega)).mono ?_
 rintro r v1 ⟨f,rfl,hfp,hfn,hf,hb1⟩;obtain⟨r0,r1,f0,f1⟩:=hX1.later hb1;have HI:Hid (PA ((v1.setCell ⟨w.heap.size,0,none⟩ (.bool f.s)).setCell ⟨w.heap.size,1,none⟩ (.slice f.p f.n f.c)) K p n nc es zs/\EV ((v1.setCell ⟨w.heap.size,0,none⟩ (.bool f.s)).setCell ⟨w.heap.size,1,none⟩ (.slice f.p f.n f.c)) L x f/\Bx ((v1.setCell ⟨w.heap.size,0,none⟩ (.bool f.s)).setCell ⟨w.heap.size,1,none⟩ (.slice f.p f.n f.c)) w.heap.size (.bool f.s) (.slice f.p f.n f.c)/\Below w.heap.size w ((v1.setCell ⟨w.heap.size,0,none⟩ (.bool f.s)).setCell ⟨w.heap.size,1,none⟩ (.slice f.p f.n f.c))):=by
  refine⟨(h1.below hb1).og (o:=0) hpo.out hpe.out,hf.ev.b8 (o:=0) fun h0=>?_,eg (hX1.later hb1),dD (ae hal hb1) (Jr _) _ _⟩
  rw[hfp];exact hoff.out (by omega)
 clear h1 hx1 hX1 hf hb1 hal hfp hfn h hx;go_wp2_with fail;generalize (v1.setCell ⟨w.heap.size,0,none⟩ (.bool f.s)).setCell ⟨w.heap.size,1,none⟩ (.slice f.p f.n f.c)=W2 at *
 obtain⟨h2,hx2,hX2,hB2⟩:=HI.out;refine(cN K p n nc es zs _ h2 hn).mono ?_;rintro r v2 ⟨rfl,hb2⟩;have h3:=(h2.below hb2).trim;have hx3:=hx2.below hb2;have hX3:=hX2.later hb2;have hB3:=ae hB2 hb2;have he:=km K _ _ _ _ _ v2 h3 (by omega) 133 #[.pointer (some ⟨w.heap.size,0,none⟩)] Bu (fun w z e=>NV v2.heap.size w (L+K) z e) (x * ·) (fun _ _ _ _ h hb=>h.below hb) (fun _ _ _ _ _ _ _ h ho=>h.nw ho)
  (fun w' z e hb hv=>(AZ (hX3.later hb) (hx3.below hb) hv hL).mono fun r w'' ⟨u,a,b,c⟩=>⟨u,a,b.mono hb.size,fun _=>.inr (by obtain⟨xs,k,-⟩:=b;exact k.fr),c⟩)
 clear h2 hx2 hX2 hb2 h3 hx3 hX3 HI r0 r1 f0 f1;go_wp2_with fail;refine he.mono ?_;rintro r v3 ⟨q,fs,rfl,k1,k2,k3,k4,hb3⟩;clear he;have hml:((tr zs).map (x * ·)).length=ad zs:=by rw[List.length_map,af]
 have hpa:PA v3 (L+K) q (ad zs) (ad zs) fs ((tr zs).map (x * ·)):=by
  refine⟨k1,hml,Jr _,by unfold maxLen;omega,fun e=>?_,k2,fun j hj=>by rw[zf];exact(k4 j hj).ev (by omega)⟩
  rcases Jw (ad zs) with h0|h0
  ·exact h0
  ·obtain⟨b,o,hp,-⟩:=k2 (by omega)
   rw[hp] at e
   exact absurd e (by simp)
 go_wp2_with fail;refine(cN (L+K) q _ _ fs _ _ hpa (by omega)).mono ?_
 rintro r v4 ⟨rfl,hb4⟩;have HK:Hid (fs.length=ad zs/\PL v3 q fs/\aJ v2.heap.size q/\(∀j,j<ad zs->NV v2.heap.size v3 (L+K) (x*gx (tr zs) j) (ge fs j))):=⟨k1,k2,k3,k4⟩;clear k1 k2 k3 k4 hpa;go_wp2;go_ret;obtain⟨k1,k2,k3,k4⟩:=HK.out;have hs:=hB3.size;have htl2:=aj ((tr zs).map (x * ·));refine⟨q,_,fs.take (ad ((tr zs).map (x * ·))),rfl,⟨by simp;omega,af _,aM _,(k2.below hb4).take _,fun a ha=>JA hs (k3 a ha),fun j hj=>?_⟩,ae (ae hB3 hb3) hb4⟩
 rw[aN,e_ _ _ _ hj,zf];exact((k4 j (by omega)).below hb4).mono hs
end Go.Proofs.YtdjjlghlcffflaaGreatDoor
