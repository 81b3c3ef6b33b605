/- Own. -/
import Derived.Test.YtfnkomoickanfaaGreatDoorGf
import Derived.Shelf.SlicesE.Clone
import Derived.Ground.SlgnProg
import Derived.Deep.CutRange
set_option linter.unusedVariables false
set_option linter.unusedSimpArgs false
set_option maxHeartbeats 8000000
set_option maxRecDepth 100000
namespace Go.Proofs.YtfnkomoickanfaaGreatDoor
open Go.RowKit
theorem Ad(s t:Bool)(xs ys:List Int):Int.gcd (ak s xs) (ak t ys)=Int.gcd (val xs) (val ys):=by
 cases s<;>cases t<;>simp[ak,Int.gcd_neg,Int.neg_gcd]
theorem Bz(s t:Bool)(p q:Option Addr)(n nc m mc:Nat)(xs ys:List Int)(w:World)(hA:AI w p n nc xs)(hB:AI w q m mc ys)(K:Nat)(hK2:2≤K)(hK:K≤150)(hn:n<K)(hm:m<K):
  Calls Tryz.prog 113 #[.agg #[.bool s,.slice p n nc],.agg #[.bool t,.slice q m mc]] w fun e w'=>∃s' p' n' zs,e=.returned (.agg #[.bool s',.slice p' n' n'])∧NI w.heap.size w' s' p' n' zs (Int.gcd (ak s xs) (ak t ys))∧n'≤K∧Below w.heap.size w w':=by
 have tx:=ao xs
 have ty:=ao ys
 have lx:=hA.len
 have ly:=hB.len
 rw[Ad]
 obtain⟨g,hg⟩:∃g,g=Int.gcd (val xs) (val ys):=⟨_,rfl⟩
 have HG:Hid (g=Int.gcd (val xs) (val ys)):=hg
 rw[←hg]
 clear hg
 go_enter Tryz.func113,Tryz.ntmps113
 go_wp2
 have hX:=fD w (.bool s) (.slice p n nc) (.bool t) (.slice q m mc) (.bool false) (.slice none 0 0) 24 24 24
 generalize ((w.alloc (Obj.cells #[Value.bool s,Value.slice p n nc] 24)).alloc (Obj.cells #[Value.bool t,Value.slice q m mc] 24)).alloc (Obj.cells #[Value.bool false,Value.slice none 0 0] 24)=W at *
 have hA':=hA.below hX.below
 have hB':=hB.below hX.below
 have k1:=hX.ca1
 have k3:=hX.cb1
 go_region_held3 (fun w'=>w'.cell? ⟨w.heap.size,1,none⟩=some (.slice p n nc)∧w'.cell? ⟨w.heap.size+1,1,none⟩=some (.slice q m mc)) (first|(simp[go_sem, *];done)|exact dO (by assumption) (by assumption))
  (first
   |(go_at_call_of 106 (Value.slice p n nc);refine(aM p n nc xs _ hA.len hA.cap hA.bnd ?_).mono ?_;exact hA'.rd.drew;rintro e w' ⟨rfl,rfl⟩)
   |(go_at_call_of 106 (Value.slice q m mc);refine(aM q m mc ys _ hB.len hB.cap hB.bnd ?_).mono ?_;exact hB'.rd.drew;rintro e w' ⟨rfl,rfl⟩)
   |(go_at_call 149;refine(tX p q (ad xs) nc (ad ys) mc (tr xs) (tr ys) _ hA'.tr.drew hB'.tr.drew K hK2 hK (by omega) (by omega) (aZ xs) (aZ ys)).mono ?_;rintro e w1 ⟨qz,nz,ncz,zs,rfl,z1,z2,z3,z4,z5,z6,z7,z8,z9,hb1⟩)
   |(go_at_call 104;refine(bH false qz nz ncz zs _ z3 z4 z5 ?_).mono ?_;exact z1;rintro e w2 ⟨rfl,hb2⟩;obtain⟨c0,c1,f0,f1⟩:=bM ((aC hb1).trans (hb2.mono (aC hb1).size)) hX.cr0 hX.cr1 hX.fr0 hX.fr1))
 go_wp2
 have hsz:=hX.size
 have htl:=ao zs
 have hv:ak false zs=g:=by
  rw[ak,if_neg (by decide),z7,HG.out,aE,aE]
 have hbb:=aC hb1
 have hs1:=hbb.size
 have hN:=((cA (B:=W.heap.size) false z1 z2 z8 z9).below hb2)
 rw[hv] at hN
 refine bodyPost_ret (v:=.agg #[.bool (nsg false zs),.slice (nad qz zs) (ad zs) (ad zs)]) (by simp[results,Tryz.results113,go_sem,c0,c1]) rfl ⟨_,_,_,tr zs,rfl,?_,by omega,?_⟩
 ·exact((hN.set (by simp;omega) _).set (by simp;omega) _).mono (by omega)
 ·exact((hX.below.trans (ae hbb hb2 |>.mono (by omega))).setCell (by simp;omega) _).setCell (by simp;omega) _
theorem NV.fit{B:Nat}{w:World}{K M:Nat}{z:Int}{e:Ent}(h:NV B w K z e)(hz:(z.natAbs:Int)<pw M):NV B w M z e:=by
 obtain⟨xs,h1,h2,h3⟩:=h
 exact⟨xs,h1,h2,h1.le hz⟩
theorem oY(s:Bool)(p:Option Addr)(n nc:Nat)(xs:List Int)(w:World)(hA:AI w p n nc xs):
  Calls Tryz.prog 112 #[.agg #[.bool s,.slice p n nc]] w fun e w'=>∃s' p' n' ys,e=.returned (.agg #[.bool s',.slice p' n' n'])∧NI w.heap.size w' s' p' n' ys (ak (!s) xs)∧n'≤n∧Below w.heap.size w w':=by
 have ht:=ao xs
 have hl:=hA.len
 have hs:=hA.sml
 go_enter Tryz.func112,Tryz.ntmps112
 go_wp2
 go_region_held3 (fun w'=>w'.cell? ⟨w.heap.size,0,none⟩=some (.bool s)∧w'.cell? ⟨w.heap.size,1,none⟩=some (.slice p n nc)) (first|(simp[go_sem, *,World.cell?_alloc_past];done)|exact dO (by assumption) (by assumption))
  (first
   |(go_at_call 106;refine(aM p n nc xs _ hA.len hA.cap hA.bnd ?_).mono ?_;exact((hA.rd.alloc _).alloc _).drew;rintro e w' ⟨rfl,rfl⟩)
   |(go_at_call 140;refine(eO p (ad xs) nc (tr xs) _ (au xs) (by omega) ?_).mono ?_;exact((hA.rd.tr.alloc _).alloc _).drew;rintro e w' ⟨rfl,rfl⟩)
   |(go_at_call 104;refine(bH (!s) (some ⟨w.heap.size+1+1,0,none⟩) (ad xs) (ad xs) (tr xs) _ (au xs) (Nat.le_refl _) (by unfold maxLen;omega) ?_).mono ?_;exact(Row.Aw w _ _ _ _ _).drew.aQ;rintro e w1 ⟨rfl,hb⟩;obtain⟨c0,c1,f0,f1⟩:=bM (r:=w.heap.size+1) (u:=.bool false) (v:=.slice none 0 0) hb (by simp[go_sem,World.cell?_alloc_past]) (by simp[go_sem,World.cell?_alloc_past]) (by simp[go_sem]) (by simp[go_sem])))
 go_wp2
 refine bodyPost_ret (v:=.agg #[.bool (nsg (!s) (tr xs)),.slice (nad (some ⟨w.heap.size+1+1,0,none⟩) (tr xs)) (ad (tr xs)) (ad (tr xs))]) (by simp[results,Tryz.results112,go_sem,c0,c1]) rfl ⟨_,_,_,tr (tr xs),rfl,?_,?_,?_⟩
 ·rw[←uR (!s) xs]
  exact((((cA (B:=w.heap.size+1+1) (!s) (Row.Aw w _ _ _ _ _).drew.aQ (cF hA.u) (aL (Nat.le_refl _)) ((Row.Aw w _ _ _ _ _).drew.fz 0)).below hb).set (by simp) _).set (by simp) _).mono (by omega)
 ·rw[aZ];omega
 ·exact((((((Below.refl _ _).alloc (Nat.le_refl _) _).alloc (by simp) _).alloc (by simp;omega) _).drew.trans (hb.mono (by simp;omega))).setCell (by simp) _).setCell (by simp) _
section
variable {w w':World} {g:Nat} {t:TypeId} {es:List Ent}
end
shelf_lay_g SlLaysE0.n41 Slgn 41 at Tryz 242 as Tryz.clonePoly
theorem AH{a b Q R:Int}(hb:b≠0)(h:Q*b+R=a)(h0:0≤R)(h1:R<(b.natAbs:Int)):Q=a/b∧R=a%b:=by
 have hz:R/b=0:=by
  rcases Int.lt_or_gt_of_ne hb with hn|hp
  ·have:R/(-b)=0:=Int.ediv_eq_zero_of_lt h0 (by omega)
   rw[Int.ediv_neg] at this
   omega
  ·exact Int.ediv_eq_zero_of_lt h0 (by omega)
 have e:a/b=Q:=by
  rw[←h,Int.add_comm,Int.add_mul_ediv_right _ _ hb,hz,Int.zero_add]
 refine⟨e.symm,?_⟩
 have:=Int.emod_def a b
 rw[e,Int.mul_comm] at this
 omega
theorem CK{w:World}{K L:Nat}{x y:Int}{e f:Ent}(h:EV w K x e)(k:EV w L y f)(hy:y≠0)(hK:K<159):Calls Tryz.prog 65 #[.agg #[.bool e.s,.slice e.p e.n e.c],.agg #[.bool f.s,.slice f.p f.n f.c]] w fun r w'=>∃u v:Ent,r=.returned (.tuple #[.agg #[.bool u.s,.slice u.p u.n u.c],.agg #[.bool v.s,.slice v.p v.n v.c],.int .i64 0])∧NV w.heap.size w' (K+3) (x/y) u∧NV w.heap.size w' (K+L+1) (x%y) v∧Below w.heap.size w w':=by
 obtain⟨xs,h1,rfl,h3⟩:=h
 obtain⟨ys,k1,rfl,k3⟩:=k
 have hv:val ys≠0:=fun e=>hy (by rw[ak,e];simp)
 refine(jx e.s f.s e.p f.p e.n e.c f.n f.c xs ys w h1 k1 (by omega) hv).mono ?_
 rintro r w' ⟨s1,p1,n1,qs,s2,p2,n2,rs,Q,R,g1,g2,g3,g4,g5,g6,g7,g8,g9⟩
 obtain⟨rfl,rfl⟩:=AH hy g4 g5 g6
 exact⟨⟨s1,p1,n1,n1⟩,⟨s2,p2,n2,n2⟩,g1,⟨qs,g2,rfl,by show n1≤_;omega⟩,⟨rs,g3,rfl,by show n2≤_;omega⟩,g9⟩
structure HV1(w wr:World)(T:Nat)(z:Int)(u:Ent):Prop where
 b:Bx wr (w.heap.size+1+1) (.bool u.s) (.slice u.p u.n u.c)
 v:NV (w.heap.size+1+1+1) wr T z u
 rb:Bx wr (w.heap.size+1) (.bool false) (.slice none 0 0)
 bw:Below w.heap.size w wr
theorem RE.tight{w:World}{N K:Nat}{z:Int}{e:Ent}(h:RE w N z e)(hz:(z.natAbs:Int)<pw K):RE w (2*K) z e:=⟨h.1.tight hz,h.2⟩
structure EV2(w wr:World)(g T:Nat)(z:Int)(u f:Ent):Prop where
 b:Bx wr g (.bool u.s) (.slice u.p u.n u.c)
 r:RE wr T z u
 o:0<u.n→Off (w.heap.size+1) u.p
 rb:Bx wr (w.heap.size+1) (.bool false) (.slice none 0 0)
 xb:Bx wr w.heap.size (.bool f.s) (.slice f.p f.n f.c)
 bw:Below w.heap.size w wr
 lt:w.heap.size+1<g
theorem oG{w:World}{N M K L:Nat}{p:Option Addr}{n nc:Nat}{es:List Ent}{zs:List Int}{x:Int}{f:Ent}(h:PR w N p n nc es zs)(hf:RE w M x f)(hn:n≤1000)(hN:N≤400)(hM:M≤400)(hX:∀i,((gx zs i).natAbs:Int)<pw K)(hY:(x.natAbs:Int)<pw L)(hK:K+n*(L+1)≤150)(hK2:2≤K):
  Calls Tryz.prog 20 #[.slice p n nc,.agg #[.bool f.s,.slice f.p f.n f.c]] w fun r w'=>∃u:Ent,r=.returned (.agg #[.bool u.s,.slice u.p u.n u.c])∧RE w' (2*(K+n*(L+1))) (evz x zs) u∧Below w.heap.size w w':=by
 have HX:Hid (PR w N p n nc es zs∧RE w M x f∧(∀i,i≤n→((evz x (zs.drop i)).natAbs:Int)<pw (K+n*(L+1)))):=by
  refine⟨h,hf,fun i hi=>?_⟩
  have h1:=ya (K:=K) hY (zs.drop i) (fun j=>by rw[aY];exact hX _)
  refine Int.lt_of_lt_of_le h1 (bD ?_)
  have h2:(zs.drop i).length≤n:=by rw[List.length_drop,h.zl];omega
  have:=Nat.mul_le_mul_right (L+1) h2
  omega
 have hel:=h.el
 have hzl:=h.zl
 have HK:Hid (K+n*(L+1)≤150∧2≤K+n*(L+1)):=⟨hK,by omega⟩
 clear h hf hX hY hK
 generalize hT:K+n*(L+1)=T at *
 clear hT
 go_enter Tryz.func20,Tryz.ntmps20
 go_wp2_with fail
 have hal0:=af (o:=.cells #[.bool false,.slice none 0 0] 43) (af (o:=.cells #[.bool f.s,.slice f.p f.n f.c] 43) (Below.refl w.heap.size w))
 have hr0:Bx ((w.alloc (.cells #[.bool f.s,.slice f.p f.n f.c] 43)).alloc (.cells #[.bool false,.slice none 0 0] 43)) (w.heap.size+1) (.bool false) (.slice none 0 0):=Bx.new _ _ _ (by simp)
 have hx0:Bx ((w.alloc (.cells #[.bool f.s,.slice f.p f.n f.c] 43)).alloc (.cells #[.bool false,.slice none 0 0] 43)) w.heap.size (.bool f.s) (.slice f.p f.n f.c):=(Bx.new _ _ _ rfl).alloc _
 generalize (w.alloc (.cells #[.bool f.s,.slice f.p f.n f.c] 43)).alloc (.cells #[.bool false,.slice none 0 0] 43)=W0 at *
 refine(wW 0 W0 (by decide) (by decide)).mono ?_
 rintro e w1 ⟨u0,rfl,hR1,hF1,hb1⟩
 have hal:=af (o:=.cells #[.bool u0.s,.slice u0.p u0.n u0.c] 43) (Below.refl w1.heap.size w1)
 have hB1:Bx (w1.alloc (.cells #[.bool u0.s,.slice u0.p u0.n u0.c] 43)) w1.heap.size (.bool u0.s) (.slice u0.p u0.n u0.c):=Bx.new _ _ _ rfl
 have hw0:w.heap.size+1<W0.heap.size:=block_lt_of_cell hr0.c0
 have hlt:w.heap.size+1<w1.heap.size:=Nat.lt_of_lt_of_le hw0 hb1.size
 have HC:Hid (EV2 w (w1.alloc (.cells #[.bool u0.s,.slice u0.p u0.n u0.c] 43)) w1.heap.size (2*T) (evz x (zs.drop n)) u0 f):=by
  rw[List.drop_eq_nil_of_le (by omega)]
  refine⟨hB1,(hR1.wide (by have:=HK.out.2;omega)).below hal,fun h0 a ha e=>?_,(hr0.later hb1).later hal,(hx0.later hb1).later hal,ae (ae hal0 hb1) hal,hlt⟩
  have:=hF1 a ha;omega
 clear hr0 hal0 hR1 hF1 hb1 hal hB1 hw0 hx0
 go_wp2_with fail
 generalize w1.alloc (.cells #[.bool u0.s,.slice u0.p u0.n u0.c] 43)=W1 at *
 generalize w1.heap.size=g at *
 go_loopw [6] (fun iv wr=>∃(k:Nat) (u:Ent),k≤n∧iv=.int .i64 ((k:Int)-1)∧Hid (EV2 w wr g (2*T) (evz x (zs.drop k)) u f)) (fun iv _=>(intOf iv+1).toNat)
 case atStart=>exact⟨n,u0,Nat.le_refl _,by go_num,HC.out⟩
 case round=>
  clear HC
  obtain⟨k,u,hk,rfl,H⟩:=hrel
  have hcs:Hid (k=0∨∃j,k=j+1):=by cases k with|zero=>exact .inl rfl|succ j=>exact .inr ⟨j,rfl⟩
  rcases hcs.out with rfl|⟨j,rfl⟩
  ·have hV:=H.out
   rw[List.drop_zero] at hV
   obtain⟨q0,q1,-,-⟩:=id hV.b
   obtain⟨r0,r1,f0,f1⟩:=id hV.rb
   have HV:Hid (EV2 w wr g (2*T) (evz x zs) u f):=hV
   clear H hV hcs
   go_wp2
   refine bodyPost_ret (v:=.agg #[.bool u.s,.slice u.p u.n u.c]) (by simp[results,Tryz.results20,go_sem,r0,r1]) rfl ⟨u,rfl,?_,?_⟩
   ·exact HV.out.r.eL (o:=0) HV.out.o
   ·exact c8 HV.out.bw (by omega) _ _
  ·have hV:=H.out
   have hP:=HX.out.1.below hV.bw
   obtain⟨b,o,hp,hc⟩:=hP.pl (by omega)
   subst hp
   obtain⟨c0,c1⟩:=hc j (by omega)
   have he:=hP.ev j (by omega)
   have hxe:=HX.out.2.1.below hV.bw
   obtain⟨q0,q1,-,-⟩:=id hV.b
   obtain⟨x0,x1,-,-⟩:=id hV.xb
   have i0:((j+1:Nat):Int)-1=(j:Int):=by omega
   have i1:(j:Int)<(n:Int):=by omega
   have i2:(0:Int)≤(j:Int):=by omega
   have HV:Hid (EV2 w wr g (2*T) (evz x (zs.drop (j+1))) u f):=hV
   have hltg:g<wr.heap.size:=block_lt_of_cell q0
   have hwg:=hV.lt
   rw[i0]
   clear hV hP hc hcs H
   go_upto_region 5 with fail
   go_region_with (first
    |(go_at_call 43;go_fit (tc (HV.out.r.below (Below.refl _ _).drew) (hxe.below (Below.refl _ _).drew) (by have:=HK.out;omega) (by omega));rintro r v1 ⟨u1,rfl,hN1,hF1,hb1⟩;have hB1:=aC hb1;have d0:=cell_later hB1 c0;have d1:=cell_later hB1 c1)
    |(go_at_call 55;go_fit (ft hN1 (he.below hB1) (by have:=HK.out;omega) (by omega));rintro r v2 ⟨u2,rfl,hN2,hF2,hb2⟩;have hB2:=ae hB1 hb2;obtain⟨z0,z1,f0,f1⟩:=HV.out.b.later hB2))
   all_goals
    have hnx:EV2 w ((v2.setCell ⟨g,0,none⟩ (.bool u2.s)).setCell ⟨g,1,none⟩ (.slice u2.p u2.n u2.c)) g (2*T) (evz x (zs.drop j)) u2 f:=by
     rw[←mZ x zs j (by omega)] at hN2
     have hN3:=hN2.tight (HX.out.2.2 j (by omega))
     have hs:=hB1.size
     exact⟨dI (HV.out.b.later hB2),hN3.eL (o:=0) (fun _ a ha e=>by have:=hF2 a ha;omega),fun _ a ha e=>by have:=hF2 a ha;omega,cS (HV.out.rb.later hB2) (by omega),cS (HV.out.xb.later hB2) (by omega),c8 (ae HV.out.bw hB2) (by omega) _ _,hwg⟩
    have HN:=(show Hid _ from hnx)
    clear hnx hN1 hN2 c0 c1 q0 q1 z0 z1 f0 f1 HV d0 d1 he hxe x0 x1
    go_wp2
    refine⟨⟨j,u2,by omega,by go_num,HN.out⟩,by simp[intOf]⟩
theorem mN{s t:Bool}{xs ys:List Int}(hX:U16 xs)(hY:U16 ys)(h:aG (ag s xs)=aG (ag t ys)):aG (ag s xs)*a_ (vd xs) (vd ys)=a_ (ag s xs) (ag t ys):=by
 have h1:=ay hX
 have h2:=ay hY
 rcases cc (ag s xs) with ⟨a1,a2⟩|⟨a1,a2⟩|⟨a1,a2⟩<;>rcases cc (ag t ys) with ⟨b1,b2⟩|⟨b1,b2⟩|⟨b1,b2⟩<;>rw[a2,b2] at h<;>(try (exact absurd h (by decide)))<;>rw[a2]
 ·rw[a1,b1,c5,Int.zero_mul]
 ·have e1:s=true:=by cases s<;>simp_all [ag]<;>omega
  have e2:t=true:=by cases t<;>simp_all [ag]<;>omega
  subst e1 e2
  simp only[ag,if_true]
  rcases Int.lt_trichotomy (vd xs) (vd ys) with g|g|g
  ·rw[bC g,cr (by omega)];rfl
  ·rw[g,c5,c5];rfl
  ·rw[cr g,bC (by omega)];rfl
 ·have e1:s=false:=by cases s<;>simp_all [ag]<;>omega
  have e2:t=false:=by cases t<;>simp_all [ag]<;>omega
  subst e1 e2
  simp only[ag,Bool.false_eq_true,if_false,Int.one_mul]
theorem AL(s t:Bool)(p q:Option Addr)(n nc m mc:Nat)(xs ys:List Int)(w:World)(hn:xs.length=n)(hm:ys.length=m)(hnb:n≤1000000000)(hmb:m≤1000000000)(tx:ad xs=n)(ty:ad ys=m)
  (hX:Rd w p .i64 xs) (hXu:U16 xs) (hY:Rd w q .i64 ys) (hYu:U16 ys):
  Calls Tryz.prog 35 #[.agg #[.bool s,.slice p n nc],.agg #[.bool t,.slice q m mc]] w fun e w'=>e=.returned (.int .i64 (a_ (ag s xs) (ag t ys)))∧Below w.heap.size w w':=by
 have hd:Hid (aG (ag s xs)=aG (ag t ys)∨aG (ag s xs)≠aG (ag t ys)):=Classical.em _
 have q1:-1≤aG (ag s xs)∧aG (ag s xs)≤1:=by rcases cc (ag s xs) with h|h|h<;>omega
 have q2:-1≤a_ (vd xs) (vd ys)∧a_ (vd xs) (vd ys)≤1:=by unfold a_;split<;>(try split)<;>decide
 obtain⟨q1,q1'⟩:=q1
 obtain⟨q2,q2'⟩:=q2
 have HT:Hid (xs.length=n∧ys.length=m∧ad xs=n∧ad ys=m):=⟨hn,hm,tx,ty⟩
 clear hn hm tx ty
 go_enter Tryz.func35,Tryz.ntmps35
 go_wp2_with fail
 have hX0:=C0 w (.bool s) (.slice p n nc) (.bool t) (.slice q m mc) 43 43
 generalize ((w.alloc (Obj.cells #[Value.bool s,Value.slice p n nc] 43)).alloc (Obj.cells #[Value.bool t,Value.slice q m mc] 43))=W0 at *
 refine(c_ s p n nc xs _ hXu HT.out.2.2.1).mono ?_
 rintro e W1 ⟨rfl,hb0⟩
 have hX1:=hX0.later hb0
 clear hX0 hb0 W0
 have k0:=hX1.ca0
 have k1:=hX1.ca1
 have k2:=hX1.cb0
 have k3:=hX1.cb1
 go_wp2_with fail
 refine(c_ t q m mc ys _ hYu HT.out.2.2.2).mono ?_
 rintro e W ⟨rfl,hb0⟩
 have hX2:=hX1.later hb0
 clear hX1 hb0 k0 k1 k2 k3 W1
 have k0:=hX2.ca0
 have k1:=hX2.ca1
 have k2:=hX2.cb0
 have k3:=hX2.cb1
 rcases hd.out with h|h
 ·have hne:(aG (ag s xs) != aG (ag t ys))=false:=by rw[h];simp
  have H:Hid (aG (ag s xs)=aG (ag t ys)):=h
  clear h hd
  go_wp2_with fail
  obtain⟨t1,t2,t3,t4⟩:=HT.out
  refine(fW p q n nc m mc xs ys _ t1 t2 hnb hmb t3 t4 (hX.below hX2.below) hXu (hY.below hX2.below) hYu).mono ?_
  rintro e w1 ⟨rfl,hb1⟩
  have hw:wrap64 (aG (ag s xs)*a_ (vd xs) (vd ys))=a_ (ag s xs) (ag t ys):=by
   rw[mN hXu hYu H.out]
   unfold a_;split<;>(try split)<;>simp[wrap64,IntKind.wrap,IntKind.bits,IntKind.signed]
  clear t1 t2 t3 t4
  go_wp2
  go_ret
  refine⟨?_,hX2.below.trans (hb1.mono hX2.below.size)⟩
  first
   |exact eV hw
   |exact eV (mN hXu hYu H.out)
   |rfl
 ·have hne:(aG (ag s xs) != aG (ag t ys))=true:=by rw[bne_iff_ne];exact h
  clear hd
  rcases Int.lt_or_lt_of_ne h with h1|h1
  ·have hi:=bC h1
   rw[qp h] at hi
   have HI:Hid (a_ (ag s xs) (ag t ys) = -1):=hi
   clear hi h
   go_wp2
   go_ret
   exact⟨eV HI.out.symm,hX2.below⟩
  ·have hi:=cr h1
   rw[qp h] at hi
   have HI:Hid (a_ (ag s xs) (ag t ys)=1):=hi
   have h2:¬aG (ag s xs)<aG (ag t ys):=by omega
   clear hi h
   go_wp2
   go_ret
   exact⟨eV HI.out.symm,hX2.below⟩
theorem vx{w:World}{s t:Bool}{p q:Option Addr}{n m:Nat}{xs ys:List Int}(h:RN w s p n xs)(k:RN w t q m ys):
  Calls Tryz.prog 35 #[.agg #[.bool s,.slice p n n],.agg #[.bool t,.slice q m m]] w fun e w'=>e=.returned (.int .i64 (a_ (ag s xs) (ag t ys)))∧Below w.heap.size w w':=
 AL s t p q n n m m xs ys w h.len k.len h.sml k.sml h.nrm k.nrm h.rd h.u k.rd k.u
theorem lL{w:World}{N M:Nat}{x y:Int}{e f:Ent}(h:RE w N x e)(k:RE w M y f)(hN:N≤1000)(hM:M≤1000):
  Calls Tryz.prog 35 #[.agg #[.bool e.s,.slice e.p e.n e.c],.agg #[.bool f.s,.slice f.p f.n f.c]] w fun r w'=>r=.returned (.int .i64 (a_ x y))∧Below w.heap.size w w':=by
 obtain⟨⟨xs,h1,rfl,h3⟩,h4⟩:=h
 obtain⟨⟨ys,k1,rfl,k3⟩,k4⟩:=k
 rw[h4,k4]
 exact vx h1 k1
def CP(n:Nat)(ds:List Int)(m:Int)(w:World)(e:Ending)(w':World):Prop:=
 ∃Q c,e=.returned (.tuple #[.slice (some ⟨w.heap.size,0,none⟩) n n,.int .i64 c])∧Q.length=n∧U16 Q∧0≤c∧c<m∧vd ds=vd Q*m+c∧Row w' w.heap.size 3 .i64 Q∧Below w.heap.size w w'
theorem iR(xs:List Int)(i:Nat)(h:i<xs.length):vd (xs.drop i)=gx xs i+65536*vd (xs.drop (i+1)):=by
 rw[drop_cons xs i h];rfl
theorem oH(p:Option Addr)(n nc:Nat)(ds:List Int)(m:Int)(w:World)(hl:ds.length=n)(hn:n≤1000000)(hX:Rd w p .i64 ds)(hU:U16 ds)(hm0:0<m)(hm1:m<65536):
  Calls Tryz.prog 153 #[.slice p n nc,.int .i64 m] w (CP n ds m w):=by
 have hmk:=jO n (by omega)
 have HL:Hid (ds.length=n):=hl
 clear hl
 have hrow:=Row.new w 3 .i64 (aw n)
 have hbel:Below w.heap.size w (w.alloc (.cells (ca .i64 (aw n)) 3)):=(Below.refl _ _).alloc (Nat.le_refl _) _
 have HB:Hid (Row (w.alloc (.cells (ca .i64 (aw n)) 3)) w.heap.size 3 .i64 (aw n)∧Below w.heap.size w (w.alloc (.cells (ca .i64 (aw n)) 3))):=⟨hrow,hbel⟩
 clear hrow hbel
 have hmz:(m==0)=false:=beq_eq_false_iff_ne.2 (by omega)
 go_enter Tryz.func153,Tryz.ntmps153
 go_wp2
 generalize w.alloc (.cells (ca .i64 (aw n)) 3)=W at *
 go_loopw [7,8] (fun cv iv wr=>∃(t:Nat) (c:Int) (Q:List Int),t≤n∧iv=.int .i64 ((t:Int)-1)∧cv=.int .i64 c∧0≤c∧c<m∧Hid (Q.length=n∧U16 Q∧vd (ds.drop t)=vd (Q.drop t)*m+c∧Row wr w.heap.size 3 .i64 Q∧Below w.heap.size w wr)) (fun _ iv _=>(intOf iv+1).toNat)
 case atStart=>exact⟨n,0,aw n,Nat.le_refl _,by go_num,rfl,by decide,hm0,aR n,eY n,by rw[List.drop_of_length_le (by have:=HL.out;omega),List.drop_of_length_le (by rw[aR];omega)];simp[vd],HB.out.1,HB.out.2⟩
 case round=>
  obtain⟨t,c,Q,ht,rfl,rfl,hc0,hc1,H⟩:=hrel
  by_cases h0:t=0
  ·subst h0
   go_wp2
   go_ret2
   obtain⟨h1,h2,h3,h4,h5⟩:=H.out
   rw[List.drop_zero,List.drop_zero] at h3
   exact⟨Q,c,rfl,h1,h2,hc0,hc1,h3,h4,h5⟩
  ·obtain⟨i,rfl⟩:∃i,t=i+1:=⟨t-1,by omega⟩
   have ei:((i+1:Nat):Int)-1=(i:Int):=by omega
   rw[ei]
   clear ei
   obtain⟨h1,h2,h3,h4,h5⟩:=H.out
   obtain⟨b,off,rfl,hcell⟩:=(hX.below h5) (by have:=HL.out;omega)
   have g1:=hcell i (by have:=HL.out;omega)
   have g2:=h4.cell i (by omega)
   have g3:=h4.frozen i
   obtain⟨x0,x1⟩:=hU i
   have iI:(i:Int)<(n:Int):=by omega
   have hq0:0≤(c*65536+gx ds i)/m:=Int.ediv_nonneg (by omega) (by omega)
   have hq1:(c*65536+gx ds i)/m<65536:=Int.ediv_lt_of_lt_mul hm0 (by
    have:(c+1)*65536≤m*65536:=Int.mul_le_mul_of_nonneg_right (by omega) (by decide)
    omega)
   have hr0:=Int.emod_nonneg (c*65536+gx ds i) (show m≠0 by omega)
   have hr1:=Int.emod_lt_of_pos (c*65536+gx ds i) hm0
   have hrd:=Int.emod_add_mul_ediv (c*65536+gx ds i) m
   have HR:Hid ((c*65536+gx ds i)%m+m*((c*65536+gx ds i)/m)=c*65536+gx ds i):=hrd
   have q1:(c*65536+gx ds i).tdiv m=(c*65536+gx ds i)/m:=Int.tdiv_eq_ediv_of_nonneg (by omega)
   have q2:(c*65536+gx ds i).tmod m=(c*65536+gx ds i)%m:=Int.tmod_eq_emod_of_nonneg (by omega)
   clear h1 h2 h3 h4 h5 hcell hrd
   go_wp2
   obtain⟨h1,h2,h3,h4,h5⟩:=H.out
   refine⟨⟨i,_,Q.set i ((c*65536+gx ds i)/m),by omega,rfl,rfl,hr0,hr1,by rw[List.length_set];exact h1,ck h2 _ ⟨hq0,hq1⟩,?_,h4.set i _,h5.setCell (p:=⟨w.heap.size,i,none⟩) (Nat.le_refl _) _⟩,by simp[intOf]⟩
   rw[iR ds i (by have:=HL.out;omega),h3,iR _ i (by rw[List.length_set];omega),bt Q i _ (by omega),List.drop_set_of_lt (by omega),Int.add_mul,Int.mul_assoc]
   have e:=HR.out
   have e2:(c*65536+gx ds i)/m*m=m*((c*65536+gx ds i)/m):=Int.mul_comm ..
   rw[e2]
   omega
def CT(n:Nat)(V:Int)(w:World)(e:Ending)(w':World):Prop:=
 ∃R,e=.returned (.slice (some ⟨w.heap.size,0,none⟩) (n+1) (n+1))∧R.length=n+1∧U16 R∧vd R=V∧Row w' w.heap.size 3 .i64 R∧Below w.heap.size w w'
theorem ny{v x:Int}(h1:0≤v∧v<65536)(h2:0≤x∧x≤65536):0≤v*x∧v*x≤4294901760:=by
 refine⟨Int.mul_nonneg h1.1 h2.1,?_⟩
 have a1:v*x≤v*65536:=Int.mul_le_mul_of_nonneg_left (by omega) h1.1
 omega
theorem oI(p:Option Addr)(n nc:Nat)(ds:List Int)(m:Int)(w:World)(hl:ds.length=n)(hn:n≤1000000)(hX:Rd w p .i64 ds)(hU:U16 ds)(hm0:0≤m)(hm1:m≤65536):
  Calls Tryz.prog 154 #[.slice p n nc,.int .i64 m] w (CT n (vd ds*m) w):=by
 have hmk:=jO (n+1) (by omega)
 have ec:((n+1:Nat):Int)=(n:Int)+1:=by omega
 rw[ec] at hmk
 clear ec
 have HL:Hid (ds.length=n):=hl
 clear hl
 have hrow:=Row.new w 3 .i64 (aw (n+1))
 have hbel:Below w.heap.size w (w.alloc (.cells (ca .i64 (aw (n+1))) 3)):=(Below.refl _ _).alloc (Nat.le_refl _) _
 have HB:Hid (Row (w.alloc (.cells (ca .i64 (aw (n+1))) 3)) w.heap.size 3 .i64 (aw (n+1))∧Below w.heap.size w (w.alloc (.cells (ca .i64 (aw (n+1))) 3))):=⟨hrow,hbel⟩
 clear hrow hbel
 go_enter Tryz.func154,Tryz.ntmps154
 go_wp2
 generalize w.alloc (.cells (ca .i64 (aw (n+1))) 3)=W at *
 go_loopw [6,7] (fun cv iv wr=>∃(k:Nat) (c:Int) (R:List Int),k≤n∧iv=.int .i64 k∧cv=.int .i64 c∧0≤c∧c<65536∧Hid (R.length=n+1∧U16 R∧(∀j,k≤j→gx R j=0)∧vd (R.take k)+pd k*c=vd (ds.take k)*m∧Row wr w.heap.size 3 .i64 R∧Below w.heap.size w wr)) (fun _ iv _=>(n-intOf iv).toNat)
 case atStart=>exact⟨0,0,aw (n+1),Nat.zero_le _,by go_num,rfl,by decide,by decide,aR _,eY _,fun j _=>dN _ j,by simp[vd],HB.out.1,HB.out.2⟩
 case round=>
  obtain⟨k,c,R,hk,rfl,rfl,hc0,hc1,H⟩:=hrel
  by_cases hkn:k<n
  ·obtain⟨h1,h2,h3,h4,h5,h6⟩:=H.out
   obtain⟨b,off,rfl,hcell⟩:=(hX.below h6) (by have:=HL.out;omega)
   have g1:=hcell k (by have:=HL.out;omega)
   have g2:=h5.cell k (by omega)
   have g3:=h5.frozen k
   have hb:=ny (hU k) ⟨hm0,hm1⟩
   have hkI:(k:Int)<(n:Int):=by omega
   have hkI2:(k:Int)<(n:Int)+1:=by omega
   have q1:(c+gx ds k*m).tmod 65536=(c+gx ds k*m)%65536:=Int.tmod_eq_emod_of_nonneg (by omega)
   have q2:(c+gx ds k*m).tdiv 65536=(c+gx ds k*m)/65536:=Int.tdiv_eq_ediv_of_nonneg (by omega)
   clear h1 h2 h3 h4 h5 h6 hcell
   go_wp2
   obtain⟨h1,h2,h3,h4,h5,h6⟩:=H.out
   refine⟨⟨k+1,_,R.set k ((c+gx ds k*m)%65536),by omega,by go_num,rfl,by omega,by omega,by rw[List.length_set];exact h1,ck h2 _ (by omega),fun j hj=>?_,?_,h5.set k _,h6.setCell (p:=⟨w.heap.size,k,none⟩) (Nat.le_refl _) _⟩,by simp[intOf];omega⟩
   ·rw[bI R _ _ _ (by omega)];exact h3 j (by omega)
   ·rw[aB _ k,aB ds k,bt R k _ (by omega),List.take_set_of_le (Nat.le_refl _),bu,Int.add_mul,←h4,Int.mul_assoc (pd k)]
    have e1:=gP (pd k) (c+gx ds k*m)
    rw[Int.mul_add] at e1
    omega
  ·obtain rfl:k=n:=by omega
   obtain⟨h1,h2,h3,h4,h5,h6⟩:=H.out
   have g2:=h5.cell k (by omega)
   have g3:=h5.frozen k
   have hkI2:(k:Int)<(k:Int)+1:=by omega
   clear h1 h2 h3 h4 h5 h6
   go_wp2
   go_ret
   obtain⟨h1,h2,h3,h4,h5,h6⟩:=H.out
   refine⟨R.set k c,rfl,by rw[List.length_set];exact h1,ck h2 _ ⟨hc0,hc1⟩,?_,h5.set k _,h6.setCell (p:=⟨w.heap.size,k,none⟩) (Nat.le_refl _) _⟩
   rw[List.take_of_length_le (l:=ds) (by have:=HL.out;omega)] at h4
   have e:=aB (R.set k c) k
   rw[List.take_of_length_le (by rw[List.length_set];omega),List.take_set_of_le (Nat.le_refl _),bt R k c (by omega)] at e
   rw[e,h4]
theorem fC(xs:List Int)(i:Nat):vd (xs.drop i)=gx xs i+65536*vd (xs.drop (i+1)):=by
 by_cases h:i<xs.length
 ·exact iR xs i h
 ·rw[List.drop_of_length_le (by omega),List.drop_of_length_le (by omega),aJ xs i (by omega) i (Nat.le_refl _)];rfl
theorem gL(xs:List Int)(i:Nat):vd xs=vd (xs.take i)+pd i*vd (xs.drop i):=by
 by_cases h:i≤xs.length
 ·exact lX xs i h
 ·rw[List.take_of_length_le (by omega),List.drop_of_length_le (by omega)];simp[vd]
theorem Ae{Uk v top low vt vl P Q:Int}(hP:0<P)(h1:Uk=top*P+low)(h3:low<P)(h4:v=vt*P+vl)(h5:0≤vl)(h6:0<vt)(hQ:0≤Q)(h:Q*v≤Uk):Q≤top/vt:=by
 apply (Int.le_ediv_iff_mul_le h6).2
 have e:Q*v=(Q*vt)*P+Q*vl:=by rw[h4,Int.mul_add,Int.mul_assoc]
 have h7:=Int.mul_nonneg hQ h5
 have h8:(Q*vt)*P<(top+1)*P:=by rw[Int.add_mul,Int.one_mul];omega
 have h9:=Int.lt_of_mul_lt_mul_right h8 (Int.le_of_lt hP)
 omega
theorem Cw(us:List Int)(k n:Nat)(hn:1≤n)(hz:vd (us.drop (k+n+1))=0):vd (us.drop k)=(gx us (k+n)*65536+gx us (k+n-1))*pd (n-1)+vd ((us.drop k).take (n-1)):=by
 rw[gL (us.drop k) (n-1),List.drop_drop,show k+(n-1)=k+n-1 by omega,fC us (k+n-1),show k+n-1+1=k+n by omega,fC us (k+n),hz,Int.mul_comm (pd (n-1))]
 have:gx us (k+n-1)+65536*(gx us (k+n)+65536*0)=gx us (k+n)*65536+gx us (k+n-1):=by omega
 rw[this]
 omega
theorem fg{us:List Int}(h:U16 us){k n:Nat}{v:Int}(h1:vd (us.drop k)<v)(h2:v≤pd n):vd (us.drop (k+n))=0:=by
 have e:=gL (us.drop k) n
 rw[List.drop_drop] at e
 have h3:=ay (cI (eN h k) n)
 have h4:=ay (eN h (k+n))
 rcases(show vd (us.drop (k+n))=0∨1≤vd (us.drop (k+n)) by omega) with h5|h5
 ·exact h5
 ·have:pd n*1≤pd n*vd (us.drop (k+n)):=Int.mul_le_mul_of_nonneg_left h5 (Int.le_of_lt (cB n))
  omega
theorem ij{x y:Int}(hy:0<y):x/y*y≤x∧x<(x/y+1)*y:=by
 have h1:=Int.emod_add_mul_ediv x y
 have h2:=Int.emod_nonneg x (show y≠0 by omega)
 have h3:=Int.emod_lt_of_pos x hy
 rw[Int.mul_comm y] at h1
 rw[Int.add_mul,Int.one_mul]
 constructor<;>omega
end Go.Proofs.YtfnkomoickanfaaGreatDoor
