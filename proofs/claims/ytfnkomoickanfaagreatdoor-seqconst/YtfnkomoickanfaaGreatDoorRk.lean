/- Own. -/
import Derived.Test.YtfnkomoickanfaaGreatDoorRp
import Derived.Deep.DeepFit
set_option linter.unusedVariables false
set_option linter.unusedSimpArgs false
set_option maxHeartbeats 8000000
set_option maxRecDepth 100000
namespace Go.Proofs.YtfnkomoickanfaaGreatDoor
open Go.RowKit
theorem yT(s:Bool)(p q:Option Addr)(n nc m mc:Nat)(xs ys:List Int)(w:World)(hn:xs.length=n)(hm:ys.length=m)(hnb:n≤1000000)(hmb:m≤1000000)(hX:Rd w p .i64 xs)(hXu:U16 xs)(hY:Rd w q .i64 ys)(hYu:U16 ys):
  Calls Tryz.prog 55 #[.agg #[.bool s,.slice p n nc],.agg #[.bool s,.slice q m mc]] w (fc (n+m+1) (ag s xs+ag s ys) w):=by
 have hss:(s==s)=true:=by simp
 have HN:Hid (xs.length=n∧ys.length=m):=⟨hn,hm⟩
 clear hn hm
 go_enter Tryz.func55,Tryz.ntmps55
 go_wp2_with fail
 have hX3:=fD w (.bool s) (.slice p n nc) (.bool s) (.slice q m mc) (.bool false) (.slice none 0 0) 43 43 43
 generalize ((w.alloc (Obj.cells #[Value.bool s,Value.slice p n nc] 43)).alloc (Obj.cells #[Value.bool s,Value.slice q m mc] 43)).alloc (Obj.cells #[Value.bool false,Value.slice none 0 0] 43)=W at *
 have hXW:=hX.below hX3.below
 have hYW:=hY.below hX3.below
 have k0:=hX3.ca0
 have k1:=hX3.ca1
 have k2:=hX3.cb0
 have k3:=hX3.cb1
 go_region_held3 (fun w'=>w'.cell? ⟨w.heap.size,0,none⟩=some (.bool s)∧w'.cell? ⟨w.heap.size,1,none⟩=some (.slice p n nc)∧w'.cell? ⟨w.heap.size+1,0,none⟩=some (.bool s)∧w'.cell? ⟨w.heap.size+1,1,none⟩=some (.slice q m mc)) (first|exact⟨by assumption,by assumption,by assumption,by assumption⟩|exact bB (by assumption) (by assumption)|(simp[go_sem, *];done))
  (first
   |(go_at_call 93;obtain⟨hn,hm⟩:=HN.out;refine(AP p q n nc m mc xs ys _ hn hm hnb hmb hXW.drew hXu hYW.drew hYu).mono ?_;clear hn hm;rintro e w1 ⟨q1,n1,c1,D,rfl,hl1,hc1,hc2,hR1,hU1,hv1,hn1,hF1,hb1⟩;have HV1:Hid (D.length=n1∧vd D=vd xs+vd ys):=⟨hl1,hv1⟩;clear hl1 hv1)
   |(go_at_call 56;refine(bE s q1 n1 c1 D _ HV1.out.1 hc1 hc2 hR1).mono ?_;rintro e w2 ⟨rfl,hb2⟩;obtain⟨c0',c1',f0,f1⟩:=bM (ae (aC hb1) hb2) hX3.cr0 hX3.cr1 hX3.fr0 hX3.fr1))
 go_wp2
 have hsz:=hX3.size
 refine bodyPost_ret (v:=.agg #[.bool (nsg s D),.slice q1 (ad D) (ad D)]) (by simp[results,Tryz.results55,go_sem,c0',c1']) rfl ?_
 exact mf hX3.below (r:=w.heap.size+1+1) (by omega) (by omega) (aC hb1) hb2 hR1 hF1 hU1 (by have:=HV1.out.1;omega) (by omega) (by rw[ag,HV1.out.2,ag,ag];cases s<;>simp<;>omega)
theorem Cg(s:Bool)(p q:Option Addr)(n nc m mc:Nat)(xs ys:List Int)(w:World)(hn:xs.length=n)(hm:ys.length=m)(hnb:n≤1000000)(hmb:m≤1000000)(tx:ad xs=n)(ty:ad ys=m)(hX:Rd w p .i64 xs)(hXu:U16 xs)(hY:Rd w q .i64 ys)(hYu:U16 ys)(hge:vd ys≤vd xs):
  Calls Tryz.prog 55 #[.agg #[.bool s,.slice p n nc],.agg #[.bool (!s),.slice q m mc]] w (fc (n+m+1) (ag s xs+ag (!s) ys) w):=by
 have hss:(s == !s)=false:=by cases s<;>rfl
 have hic:0≤a_ (vd xs) (vd ys):=by
  rw[a_,if_neg (by omega)];split<;>decide
 have hmn:m≤n:=by
  rcases Nat.lt_or_ge n m with h|h
  ·have:=e_ hXu hYu (by omega);omega
  ·exact h
 have HN:Hid ((xs.length=n∧ys.length=m)∧ad xs=n∧ad ys=m):=⟨⟨hn,hm⟩,tx,ty⟩
 clear hn hm tx ty
 go_enter Tryz.func55,Tryz.ntmps55
 go_wp2_with fail
 have hX0:=fD w (.bool s) (.slice p n nc) (.bool (!s)) (.slice q m mc) (.bool false) (.slice none 0 0) 43 43 43
 generalize ((w.alloc (Obj.cells #[Value.bool s,Value.slice p n nc] 43)).alloc (Obj.cells #[Value.bool !s,Value.slice q m mc] 43)).alloc (Obj.cells #[Value.bool false,Value.slice none 0 0] 43)=W0 at *
 refine(fW p q n nc m mc xs ys _ HN.out.1.1 HN.out.1.2 (by omega) (by omega) HN.out.2.1 HN.out.2.2 (hX.below hX0.below) hXu (hY.below hX0.below) hYu).mono ?_
 rintro e W ⟨rfl,hb0⟩
 have hX3:=hX0.later hb0
 clear hX0 hb0 W0
 have hXW:=hX.below hX3.below
 have hYW:=hY.below hX3.below
 have k0:=hX3.ca0
 have k1:=hX3.ca1
 have k2:=hX3.cb0
 have k3:=hX3.cb1
 go_wp2_with fail
 go_region_held3 (fun w'=>w'.cell? ⟨w.heap.size,0,none⟩=some (.bool s)∧w'.cell? ⟨w.heap.size,1,none⟩=some (.slice p n nc)∧w'.cell? ⟨w.heap.size+1,0,none⟩=some (.bool (!s))∧w'.cell? ⟨w.heap.size+1,1,none⟩=some (.slice q m mc)) (first|exact⟨by assumption,by assumption,by assumption,by assumption⟩|exact bB (by assumption) (by assumption)|(simp[go_sem, *];done))
  (first
   |(go_at_call 94;obtain⟨⟨hn,hm⟩,tx,ty⟩:=HN.out;refine(tC p q n nc m mc xs ys _ hn hm hnb hmn hge hXW.drew hXu hYW.drew hYu).mono ?_;clear hn hm tx ty;rintro e w1 ⟨q1,n1,c1,D,rfl,hl1,hc1,hc2,hR1,hU1,hv1,hn1,hF1,hb1⟩;have HV1:Hid (D.length=n1∧vd D=vd xs-vd ys):=⟨hl1,hv1⟩;clear hl1 hv1)
   |(go_at_call 56;refine(bE s q1 n1 c1 D _ HV1.out.1 hc1 hc2 hR1).mono ?_;rintro e w2 ⟨rfl,hb2⟩;obtain⟨c0',c1',f0,f1⟩:=bM (ae (aC hb1) hb2) hX3.cr0 hX3.cr1 hX3.fr0 hX3.fr1))
 go_wp2
 have hsz:=hX3.size
 refine bodyPost_ret (v:=.agg #[.bool (nsg s D),.slice q1 (ad D) (ad D)]) (by simp[results,Tryz.results55,go_sem,c0',c1']) rfl ?_
 exact mf hX3.below (r:=w.heap.size+1+1) (by omega) (by omega) (aC hb1) hb2 hR1 hF1 hU1 (by have:=HV1.out.1;omega) (by omega) (by rw[ag,HV1.out.2,ag,ag];cases s<;>simp<;>omega)
theorem Ch(s:Bool)(p q:Option Addr)(n nc m mc:Nat)(xs ys:List Int)(w:World)(hn:xs.length=n)(hm:ys.length=m)(hnb:n≤1000000)(hmb:m≤1000000)(tx:ad xs=n)(ty:ad ys=m)(hX:Rd w p .i64 xs)(hXu:U16 xs)(hY:Rd w q .i64 ys)(hYu:U16 ys)(hge:vd xs<vd ys):
  Calls Tryz.prog 55 #[.agg #[.bool s,.slice p n nc],.agg #[.bool (!s),.slice q m mc]] w (fc (n+m+1) (ag s xs+ag (!s) ys) w):=by
 have hss:(s == !s)=false:=by cases s<;>rfl
 have hic:¬0≤a_ (vd xs) (vd ys):=by
  rw[bC hge];decide
 have hmn:n≤m:=by
  rcases Nat.lt_or_ge m n with h|h
  ·have:=e_ hYu hXu (by omega);omega
  ·exact h
 have HN:Hid ((xs.length=n∧ys.length=m)∧ad xs=n∧ad ys=m):=⟨⟨hn,hm⟩,tx,ty⟩
 clear hn hm tx ty
 go_enter Tryz.func55,Tryz.ntmps55
 go_wp2_with fail
 have hX0:=fD w (.bool s) (.slice p n nc) (.bool (!s)) (.slice q m mc) (.bool false) (.slice none 0 0) 43 43 43
 generalize ((w.alloc (Obj.cells #[Value.bool s,Value.slice p n nc] 43)).alloc (Obj.cells #[Value.bool !s,Value.slice q m mc] 43)).alloc (Obj.cells #[Value.bool false,Value.slice none 0 0] 43)=W0 at *
 refine(fW p q n nc m mc xs ys _ HN.out.1.1 HN.out.1.2 (by omega) (by omega) HN.out.2.1 HN.out.2.2 (hX.below hX0.below) hXu (hY.below hX0.below) hYu).mono ?_
 rintro e W ⟨rfl,hb0⟩
 have hX3:=hX0.later hb0
 clear hX0 hb0 W0
 have hXW:=hX.below hX3.below
 have hYW:=hY.below hX3.below
 have k0:=hX3.ca0
 have k1:=hX3.ca1
 have k2:=hX3.cb0
 have k3:=hX3.cb1
 go_wp2_with fail
 go_region_held3 (fun w'=>w'.cell? ⟨w.heap.size,0,none⟩=some (.bool s)∧w'.cell? ⟨w.heap.size,1,none⟩=some (.slice p n nc)∧w'.cell? ⟨w.heap.size+1,0,none⟩=some (.bool (!s))∧w'.cell? ⟨w.heap.size+1,1,none⟩=some (.slice q m mc)) (first|exact⟨by assumption,by assumption,by assumption,by assumption⟩|exact bB (by assumption) (by assumption)|(simp[go_sem, *];done))
  (first
   |(go_at_call 94;obtain⟨⟨hn,hm⟩,tx,ty⟩:=HN.out;refine(tC q p m mc n nc ys xs _ hm hn hmb hmn (by omega) hYW.drew hYu hXW.drew hXu).mono ?_;clear hn hm tx ty;rintro e w1 ⟨q1,n1,c1,D,rfl,hl1,hc1,hc2,hR1,hU1,hv1,hn1,hF1,hb1⟩;have HV1:Hid (D.length=n1∧vd D=vd ys-vd xs):=⟨hl1,hv1⟩;clear hl1 hv1)
   |(go_at_call 56;refine(bE (!s) q1 n1 c1 D _ HV1.out.1 hc1 hc2 hR1).mono ?_;rintro e w2 ⟨rfl,hb2⟩;obtain⟨c0',c1',f0,f1⟩:=bM (ae (aC hb1) hb2) hX3.cr0 hX3.cr1 hX3.fr0 hX3.fr1))
 go_wp2
 have hsz:=hX3.size
 refine bodyPost_ret (v:=.agg #[.bool (nsg (!s) D),.slice q1 (ad D) (ad D)]) (by simp[results,Tryz.results55,go_sem,c0',c1']) rfl ?_
 exact mf hX3.below (r:=w.heap.size+1+1) (by omega) (by omega) (aC hb1) hb2 hR1 hF1 hU1 (by have:=HV1.out.1;omega) (by omega) (by rw[ag,HV1.out.2,ag,ag];cases s<;>simp<;>omega)
theorem pM{w:World}{s t:Bool}{p q:Option Addr}{n m:Nat}{xs ys:List Int}(h:RN w s p n xs)(k:RN w t q m ys)(hn:n≤1000000)(hm:m≤1000000):
  Calls Tryz.prog 55 #[.agg #[.bool s,.slice p n n],.agg #[.bool t,.slice q m m]] w (fc (n+m+1) (ag s xs+ag t ys) w):=by
 by_cases e:s=t
 ·subst e;exact yT s p q n n m m xs ys w h.len k.len hn hm h.rd h.u k.rd k.u
 ·have:t = !s:=by cases s<;>cases t<;>simp_all
  subst this
  rcases Int.lt_or_le (vd xs) (vd ys) with hv|hv
  ·exact Ch s p q n n m m xs ys w h.len k.len hn hm h.nrm k.nrm h.rd h.u k.rd k.u hv
  ·exact Cg s p q n n m m xs ys w h.len k.len hn hm h.nrm k.nrm h.rd h.u k.rd k.u hv
theorem RE.wide{w:World}{N M:Nat}{z:Int}{e:Ent}(h:RE w N z e)(hM:N≤M):RE w M z e:=by
 obtain⟨⟨ds,h1,h2,h3⟩,h4⟩:=h
 exact⟨⟨ds,h1,h2,by omega⟩,h4⟩
theorem ft{w:World}{N M:Nat}{x y:Int}{e f:Ent}(h:RE w N x e)(k:RE w M y f)(hN:N≤1000)(hM:M≤1000):
  Calls Tryz.prog 55 #[.agg #[.bool e.s,.slice e.p e.n e.c],.agg #[.bool f.s,.slice f.p f.n f.c]] w fun r w'=>∃u:Ent,r=.returned (.agg #[.bool u.s,.slice u.p u.n u.c])∧RE w' (N+M+1) (x+y) u∧az w.heap.size u.p∧Below w.heap.size w w':=by
 obtain⟨⟨xs,h1,rfl,h3⟩,h4⟩:=h
 obtain⟨⟨ys,k1,rfl,k3⟩,k4⟩:=k
 rw[h4,k4]
 refine(pM h1 k1 (by omega) (by omega)).mono ?_
 rintro e w1 ⟨s1,p1,n1,d1,rfl,hR1,hv1,hn1,hF1,hb1⟩
 exact⟨⟨s1,p1,n1,n1⟩,rfl,⟨⟨d1,hR1,hv1,by show n1≤_;omega⟩,rfl⟩,hF1,hb1⟩
theorem AU{w:World}(p:Option Addr)(n nc:Nat)(i:Nat)(hi:n≤i)(hn:i≤1000000):
  Calls Tryz.prog 191 #[.slice p n nc,.int .i64 i] w fun r w'=>∃u:Ent,r=.returned (.agg #[.bool u.s,.slice u.p u.n u.c])∧RE w' 4 0 u∧Below w.heap.size w w':=by
 have hal:=af (o:=.cells #[.bool false,.slice none 0 0] 43) (Below.refl w.heap.size w)
 have hX:Bx (w.alloc (.cells #[.bool false,.slice none 0 0] 43)) w.heap.size (.bool false) (.slice none 0 0):=Bx.new _ _ _ rfl
 have i2:¬(i:Int)<0:=by omega
 have i3:(n:Int)≤(i:Int):=by omega
 go_enter Tryz.func191,Tryz.ntmps191
 go_upto_region 1 with fail
 generalize w.alloc (.cells #[.bool false,.slice none 0 0] 43)=W at *
 go_wp2_with fail
 refine(wW 0 _ (by decide) (by decide)).mono ?_
 rintro e w1 ⟨u,rfl,hO,hF,hb1⟩
 obtain⟨r0,r1,f0,f1⟩:=hX.later hb1
 have hlt:w.heap.size<W.heap.size:=block_lt_of_cell hX.c0
 have hB:=ae hal hb1
 go_wp2
 refine bodyPost_ret (v:=.agg #[.bool u.s,.slice u.p u.n u.c]) (by simp[results,Tryz.results191,go_sem,r0,r1]) rfl ⟨u,rfl,?_,c8 hB (Nat.le_refl _) _ _⟩
 exact hO.eL (fun _ a ha=>by have:=hF a ha;omega)
theorem kC{w:World}{N:Nat}{p:Option Addr}{n nc:Nat}{es:List Ent}{zs:List Int}(h:PR w N p n nc es zs)(i:Nat)(hi:i≤1000000)(hn:n≤1000000)(hN:4≤N):
  Calls Tryz.prog 191 #[.slice p n nc,.int .i64 i] w fun r w'=>∃u:Ent,r=.returned (.agg #[.bool u.s,.slice u.p u.n u.c])∧RE w' N (gx zs i) u∧Below w.heap.size w w':=by
 rcases Nat.lt_or_ge i n with hlt|hge
 ·refine(Cq h i hlt hn).mono ?_
  rintro r w1 ⟨rfl,hb⟩
  exact⟨ge es i,rfl,(h.ev i hlt).below hb,hb⟩
 ·refine(AU p n nc i hge hi).mono ?_
  rintro r w1 ⟨u,rfl,hu,hb⟩
  rw[aJ zs n (by rw[h.zl];exact Nat.le_refl _) i hge]
  exact⟨u,rfl,hu.wide hN,hb⟩
theorem lF(op:Int→Int→Int)(zs ys:List Int):(pz op zs ys).length=max zs.length ys.length:=by simp[pz]
theorem yj(op:Int→Int→Int)(zs ys:List Int)(j:Nat)(h:j<max zs.length ys.length):gx (pz op zs ys) j=op (gx zs j) (gx ys j):=by
 rw[bX _ _ (by rw[lF];exact h)]
 simp[pz]
theorem uO{B k:Nat}{es:List Ent}{u:Ent}(hl:es.length=k)(h:∀j,j<k→0<(ge es j).n→az B (ge es j).p)(hu:az B u.p)(j:Nat)(hj:j<k+1)(h0:0<(ge (es++[u]) j).n):az B (ge (es++[u]) j).p:=by
 rcases Nat.lt_or_ge j k with h1|h1
 ·rw[bP _ _ _ (by omega)] at h0 ⊢
  exact h j h1 h0
 ·obtain rfl:j=es.length:=by omega
  rw[ib]
  exact hu
theorem y8{w:World}{N M:Nat}{p q:Option Addr}{n nc m mc:Nat}{es0 fs0:List Ent}{zs ys:List Int}(h:PR w N p n nc es0 zs)(h':PR w M q m mc fs0 ys)(hn:n≤100000)(hm:m≤100000)(hN:N≤400)(hM:M≤400)(hN4:4≤N)(hM4:4≤M):
  Calls Tryz.prog 173 #[.slice p n nc,.slice q m mc] w (PrF (tr (pz (· + ·) zs ys)) (N+M+1) w):=by
 obtain⟨i0,hi,hzz⟩:=Option.map_eq_some_iff.1 fN
 simp only[Prod.mk.injEq] at hzz
 obtain⟨hz0,hz1,hz2⟩:=hzz
 have HI:Hid (Tryz.prog.info? 43=some i0∧i0.zero=some (.agg #[.bool false,.slice none 0 0])∧i0.size=2∧i0.bytes=32):=⟨hi,hz0,hz1,hz2⟩
 have HX:Hid (PR w N p n nc es0 zs∧PR w M q m mc fs0 ys):=⟨h,h'⟩
 have hvl:=lF (· + ·) zs ys
 have hvg:=yj (· + ·) zs ys
 rw[h.zl,h'.zl] at hvl hvg
 generalize hvs:pz (· + ·) zs ys=vs at *
 have HVS:Hid ((∀j,j<max n m→gx vs j=gx zs j+gx ys j)∧vs.length=max n m):=⟨hvg,hvl⟩
 clear h h' hi hz0 hz1 hz2 hvs hvg hvl
 go_enter Tryz.func173,Tryz.ntmps173
 go_wp2_with fail
 go_loopw [5,6] (fun sv iv wr=>∃(k:Nat) (es:List Ent),(k≤n∨k≤m)∧iv=.int .i64 (k:Int)∧Hid (es.length=k∧LG w.heap.size 43 (fun w z e=>RE w (N+M+1) z e) wr sv es (vs.take k)∧Below w.heap.size w wr∧∀j,j<k→0<(ge es j).n→az w.heap.size (ge es j).p)) (fun _ iv _=>max n m-(intOf iv).toNat)
 case atStart=>exact⟨0,[],.inl (Nat.zero_le _),by go_num,rfl,by rw[List.take_zero];exact LG.nil _ _ _ _,Below.refl _ _,fun j hj=>absurd hj (by omega)⟩
 case round=>
  obtain⟨k,es,hk,rfl,H⟩:=hrel
  have hk3:k≤100000:=by omega
  by_cases hlt:k<n∨k<m
  ·have H0:=H.out.2.2.1
   obtain⟨hi,hz0,hz1,hz2⟩:=HI.out
   rcases Nat.lt_or_ge k n with hkn|hkn
   ·have i1:(k:Int)<(n:Int):=by omega
    go_wp2_with fail
    refine(kC (HX.out.1.below H0) k (by omega) (by omega) hN4).mono ?_
    rintro e w1 ⟨x1,rfl,hx1,hb1⟩
    have hB1:=ae H0 hb1
    go_wp2_with fail
    refine(kC (HX.out.2.below hB1) k (by omega) (by omega) hM4).mono ?_
    rintro e w2 ⟨x2,rfl,hx2,hb2⟩
    go_wp2_with fail
    refine(ft (hx1.below hb2) hx2 (by omega) (by omega)).mono ?_
    rintro e w3 ⟨u,rfl,hN1,hF1',hb3⟩
    have hB3:=ae (ae hb1 hb2) hb3
    have hF1:az wr.heap.size u.p:=fun a ha=>Nat.le_trans (ae hb1 hb2).size (hF1' a ha)
    have HN1:Hid (RE w3 (N+M+1) (gx zs k+gx ys k) u):=hN1
    have hown0:=bW H.out.2.1.own hB3
    rw[H.out.1] at hown0
    have HO:Hid (w3.ownsRow w.heap.size 43 2 u5 k (fl es)):=hown0
    have hsz:w.heap.size≤w3.heap.size:=Nat.le_trans H0.size hB3.size
    clear hown0 hN1 hx1 hx2 hb1 hb2 hb3 hB1 hF1'
    go_wp2_with (refine wpList_append_lies _ rfl _ _ 54 rfl w.heap.size 43 i0 (.agg #[.bool false,.slice none 0 0]) 2 32 Tryz.underlying54 hi hz0 hz1 hz2 rfl (by decide) u5 k (fl es) rfl (HO.out.alloc _) ⟨w3.heap.size,0,none⟩ 1 1 [.bool u.s,.slice u.p u.n u.c] rfl rfl ?_ (fun x hx=>by simp at hx;rcases hx with rfl|rfl<;>rfl) (by decide) (by unfold maxLen;omega) (by omega) (by simp;omega) _ rfl ?_;exact World.news_of_block (heap_alloc_new w3 _);intro g cap w4 hown3 hgrow3 hat3 hlt3;have hB4:Below w.heap.size w w4:=((ae H0 hB3).alloc hsz _).grown hgrow3 (by simp;omega) (fun q hq=>(HO.out.lt q hq).1);have HA:Hid (LG w.heap.size 43 (fun w z e=>RE w (N+M+1) z e) w4 (.slice (some ⟨g,0,none⟩) (k+1) cap) (es++[u]) (vs.take k++[gx zs k+gx ys k])):=LG.app (fP _) H.out.1 H.out.2.1 hB3 HN1.out (fun h0 a ha=>.inr (hF1 a ha)) hown3 hgrow3 hat3;clear hown3 hgrow3 hat3)
    refine⟨⟨k+1,es++[u],by omega,by go_num,by have:=H.out.1;simp;omega,?_,hB4,?_⟩,by simp[intOf];omega⟩
    ·have hvl:=HVS.out.2
     rw[fA vs k (by omega),HVS.out.1 k (by omega)]
     exact HA.out
    ·exact fun j hj h0=>uO H.out.1 H.out.2.2.2 (fun a ha=>Nat.le_trans H0.size (hF1 a ha)) j hj h0
   ·have i1:¬(k:Int)<(n:Int):=by omega
    have i2:(k:Int)<(m:Int):=by omega
    go_wp2_with fail
    refine(kC (HX.out.1.below H0) k (by omega) (by omega) hN4).mono ?_
    rintro e w1 ⟨x1,rfl,hx1,hb1⟩
    have hB1:=ae H0 hb1
    go_wp2_with fail
    refine(kC (HX.out.2.below hB1) k (by omega) (by omega) hM4).mono ?_
    rintro e w2 ⟨x2,rfl,hx2,hb2⟩
    go_wp2_with fail
    refine(ft (hx1.below hb2) hx2 (by omega) (by omega)).mono ?_
    rintro e w3 ⟨u,rfl,hN1,hF1',hb3⟩
    have hB3:=ae (ae hb1 hb2) hb3
    have hF1:az wr.heap.size u.p:=fun a ha=>Nat.le_trans (ae hb1 hb2).size (hF1' a ha)
    have HN1:Hid (RE w3 (N+M+1) (gx zs k+gx ys k) u):=hN1
    have hown0:=bW H.out.2.1.own hB3
    rw[H.out.1] at hown0
    have HO:Hid (w3.ownsRow w.heap.size 43 2 u5 k (fl es)):=hown0
    have hsz:w.heap.size≤w3.heap.size:=Nat.le_trans H0.size hB3.size
    clear hown0 hN1 hx1 hx2 hb1 hb2 hb3 hB1 hF1'
    go_wp2_with (refine wpList_append_lies _ rfl _ _ 54 rfl w.heap.size 43 i0 (.agg #[.bool false,.slice none 0 0]) 2 32 Tryz.underlying54 hi hz0 hz1 hz2 rfl (by decide) u5 k (fl es) rfl (HO.out.alloc _) ⟨w3.heap.size,0,none⟩ 1 1 [.bool u.s,.slice u.p u.n u.c] rfl rfl ?_ (fun x hx=>by simp at hx;rcases hx with rfl|rfl<;>rfl) (by decide) (by unfold maxLen;omega) (by omega) (by simp;omega) _ rfl ?_;exact World.news_of_block (heap_alloc_new w3 _);intro g cap w4 hown3 hgrow3 hat3 hlt3;have hB4:Below w.heap.size w w4:=((ae H0 hB3).alloc hsz _).grown hgrow3 (by simp;omega) (fun q hq=>(HO.out.lt q hq).1);have HA:Hid (LG w.heap.size 43 (fun w z e=>RE w (N+M+1) z e) w4 (.slice (some ⟨g,0,none⟩) (k+1) cap) (es++[u]) (vs.take k++[gx zs k+gx ys k])):=LG.app (fP _) H.out.1 H.out.2.1 hB3 HN1.out (fun h0 a ha=>.inr (hF1 a ha)) hown3 hgrow3 hat3;clear hown3 hgrow3 hat3)
    refine⟨⟨k+1,es++[u],by omega,by go_num,by have:=H.out.1;simp;omega,?_,hB4,?_⟩,by simp[intOf];omega⟩
    ·have hvl:=HVS.out.2
     rw[fA vs k (by omega),HVS.out.1 k (by omega)]
     exact HA.out
    ·exact fun j hj h0=>uO H.out.1 H.out.2.2.2 (fun a ha=>Nat.le_trans H0.size (hF1 a ha)) j hj h0
  ·obtain⟨hel,hLR,hB,hfr⟩:=H.out
   have hvl:=HVS.out.2
   rw[List.take_of_length_le (by omega)] at hLR
   obtain⟨r,cap,hv,hPR,hF⟩:=hLR.pr
   subst hv
   rw[hel] at hPR ⊢
   have HB:Hid (Below w.heap.size w wr):=hB
   have HF:Hid (∀j,j<k→0<(ge es j).n→az w.heap.size (ge es j).p):=hfr
   have i1:¬(k:Int)<(n:Int):=by omega
   have i2:¬(k:Int)<(m:Int):=by omega
   clear H hLR hB hk hvl hfr
   go_wp2_with fail
   refine(eU (N+M+1) r k cap es vs _ hPR (by omega)).mono ?_
   rintro e w1 ⟨rfl,hb1⟩
   have HP:Hid (PR wr (N+M+1) r k cap es vs):=hPR
   clear hPR
   go_wp2
   go_ret
   have htl:=ao vs
   have hcap:=HP.out.cap
   have hvk:=HP.out.zl
   have hT:=(HP.out.below hb1).take (ad vs) (ad vs) (by omega) (Nat.le_refl _) (by omega)
   refine⟨r,ad vs,es.take (ad vs),rfl,hT,hF,aZ vs,fun j hj h0=>?_,ae HB.out hb1⟩
   rw[ic _ _ _ hj] at h0 ⊢
   exact HF.out j (by omega) h0
theorem y6{w:World}{N M:Nat}{p q:Option Addr}{n nc m mc:Nat}{es0 fs0:List Ent}{zs ys:List Int}(h:PR w N p n nc es0 zs)(h':PR w M q m mc fs0 ys)(hn:n≤100000)(hm:m≤100000)(hN:N≤400)(hM:M≤400)(hN4:4≤N)(hM4:4≤M):
  Calls Tryz.prog 173 #[.slice p n nc,.slice q m mc] w (PrP (tr (pz (· + ·) zs ys)) (N+M+1) w):=
 (y8 h h' hn hm hN hM hN4 hM4).mono fun _ _ h=>h.any
theorem C5(op:Int→Int→Int)(h0:op 0 0=0)(zs ys:List Int)(j:Nat):gx (pz op zs ys) j=op (gx zs j) (gx ys j):=by
 rcases Nat.lt_or_ge j (max zs.length ys.length) with h|h
 ·exact yj op zs ys j h
 ·rw[aJ _ (max zs.length ys.length) (by rw[lF];exact Nat.le_refl _) j h,aJ zs zs.length (Nat.le_refl _) j (by omega),aJ ys ys.length (Nat.le_refl _) j (by omega),h0]
theorem gZ(a:Int)(w:World)(h0:-9223372036854775808≤a)(h1:a≤9223372036854775807):
  Calls Tryz.prog 21 #[.int .i64 a] w fun r w'=>∃u:Ent,r=.returned (.agg #[.bool u.s,.slice u.p u.n u.c])∧RE w' 4 a u∧az w.heap.size u.p∧Below w.heap.size w w':=by
 refine(eg a w h0 h1).mono ?_
 rintro e w1 ⟨s1,p1,n1,d1,rfl,hR1,hv1,hn1,hF1,hb1⟩
 exact⟨⟨s1,p1,n1,n1⟩,rfl,⟨⟨d1,hR1,hv1,hn1⟩,rfl⟩,hF1,hb1⟩
def eJ(zs ys:List Int):List Int:=(List.range (zs.length+ys.length-1)).map (ps zs ys zs.length)
theorem dD(zs ys:List Int):(eJ zs ys).length=zs.length+ys.length-1:=by simp[eJ]
theorem pD(zs ys:List Int)(t:Nat)(h:t<zs.length+ys.length-1):gx (eJ zs ys) t=ps zs ys zs.length t:=by
 rw[bX _ _ (by rw[dD];exact h)]
 simp[eJ]
theorem sQ(zs ys:List Int)(t:Nat):∀i,i+ys.length≤t+1→ps zs ys i t=0
 |0,_=>rfl
 |i+1,h=>by
  rw[ps,sQ zs ys t i (by omega),aJ ys ys.length (Nat.le_refl _) (t-i) (by omega)]
  simp
theorem Au{zs ys:List Int}(h1:ad zs=zs.length)(h2:ad ys=ys.length)(hz:0<zs.length)(hy:0<ys.length):ad (eJ zs ys)=zs.length+ys.length-1:=by
 refine cP _ _ (fun j hj=>aJ _ _ (by rw[dD];exact Nat.le_refl _) j hj) (.inr ?_)
 rw[pD _ _ _ (by omega)]
 obtain⟨a,ha⟩:∃a,zs.length=a+1:=⟨zs.length-1,by omega⟩
 rw[ha,ps,sQ _ _ _ _ (by omega),if_pos (by omega)]
 have e1:=cd zs (by omega)
 have e2:=cd ys (by omega)
 rw[h1,ha] at e1
 rw[h2] at e2
 have e3:a+1+ys.length-1-1-a=ys.length-1:=by omega
 rw[e3]
 have e4:a+1-1=a:=by omega
 rw[e4] at e1
 rw[Int.zero_add]
 exact Int.mul_ne_zero e1 e2
def fo(zs ys:List Int):List Int:=if zs.length=0∨ys.length=0 then [] else eJ zs ys
theorem vn(zs ys:List Int)(t:Nat):∀m,ps zs ys (zs.length+m) t=ps zs ys zs.length t
 |0=>rfl
 |m+1=>by rw[←Nat.add_assoc,Ce zs ys _ t (aJ zs _ (Nat.le_refl _) _ (by omega)),vn zs ys t m]
theorem vm(zs ys:List Int)(t:Nat):∀m,ps zs ys (t+1+m) t=ps zs ys (t+1) t
 |0=>rfl
 |m+1=>by
  rw[←Nat.add_assoc,ps,vm zs ys t m,if_neg (by omega),Int.add_zero]
theorem yN(zs:List Int)(t:Nat):∀i,ps zs [] i t=0
 |0=>rfl
 |i+1=>by rw[ps,yN zs t i];simp[gx]
theorem BS(zs ys:List Int)(t:Nat):gx (fo zs ys) t=ps zs ys (t+1) t:=by
 have h0:ps zs ys (t+1) t=ps zs ys zs.length t:=by
  have h1:=vm zs ys t (zs.length)
  have h2:=vn zs ys t (t+1)
  rw[Nat.add_comm] at h2
  rw[←h1,h2]
 rw[h0,fo]
 by_cases h:zs.length=0∨ys.length=0
 ·rw[if_pos h]
  rcases h with h|h
  ·rw[h];rfl
  ·rw[List.eq_nil_of_length_eq_zero h,yN];rfl
 ·rw[if_neg h]
  rcases Nat.lt_or_ge t (zs.length+ys.length-1) with h1|h1
  ·rw[pD _ _ _ h1]
  ·rw[aJ _ (zs.length+ys.length-1) (by rw[dD];exact Nat.le_refl _) t h1,sQ zs ys t zs.length (by omega)]
def hor(a:Int):List Int→List Int
 | []=>[]
 |c::cs=>(c+a*gx (hor a cs) 0)::hor a cs
def shr(a:Int):Nat→List Int→List Int
 |0,zs=>zs
 |i+1,zs=>(shr a i zs).take i++hor a ((shr a i zs).drop i)
theorem Ar(n:Nat)(h:n≤1000000000)(w:World):(Instr.makeSlice 54 (.int .i64 n) (.int .i64 n)).run Tryz.prog w =
  .ok (.slice (some ⟨w.heap.size,0,none⟩) n n) (w.alloc (.cells (ca2 (ezs n)) 43)):=by
 have hi:=fN
 cases hq:Tryz.prog.info? 43 with
 |none=>rw[hq] at hi;cases hi
 |some i=>
  rw[hq] at hi
  simp only[Option.map_some,Option.some.injEq,Prod.mk.injEq] at hi
  obtain⟨h1,h2,h3⟩:=hi
  have hr:=run_make (P:=Tryz.prog) w 54 43 i (.agg #[.bool false,.slice none 0 0]) Tryz.underlying54 hq h1 .i64 .i64 n n (by omega) (Int.le_refl _) (by rw[h3];omega) (by omega)
  rw[Int.toNat_natCast,h2] at hr
  rw[hr]
  exact congrArg (fun c=>Result.ok (Value.slice (some ⟨w.heap.size,0,none⟩) n n) (w.alloc (.cells c 43))) (uT n)
def RF(B:Nat)(w:World)(N:Nat)(z:Int)(e:Ent):Prop:=RE w N z e∧az B e.p
theorem RF.below{B:Nat}{w w':World}{N:Nat}{z:Int}{e:Ent}(h:RF B w N z e)(hb:Below w.heap.size w w'):RF B w' N z e:=⟨h.1.below hb,h.2⟩
theorem RF.mono{B B':Nat}{w:World}{N:Nat}{z:Int}{e:Ent}(h:RF B w N z e)(hB:B'≤B):RF B' w N z e:=⟨h.1,fun a ha=>Nat.le_trans hB (h.2 a ha)⟩
theorem RF.eL{B:Nat}{w:World}{N:Nat}{z:Int}{e:Ent}{g o:Nat}(h:RF B w N z e)(hg:g<B)(u v:Value):RF B ((w.setCell ⟨g,o,none⟩ u).setCell ⟨g,o+1,none⟩ v) N z e:=
 ⟨h.1.eL (fun _ a ha=>by have:=h.2 a ha;omega),h.2⟩
theorem RF.le{B:Nat}{w:World}{N M:Nat}{z:Int}{e:Ent}(h:RF B w N z e)(hz:(z.natAbs:Int)<pd M):RF B w M z e:=by
 obtain⟨⟨⟨ds,h1,h2,h3⟩,h4⟩,h5⟩:=h
 exact⟨⟨⟨ds,h1,h2,h1.fit (by rw[h2];exact hz)⟩,h4⟩,h5⟩
theorem RF.ez(B:Nat)(w:World)(N:Nat):RF B w N 0 ez:=⟨⟨⟨[],⟨rfl,Rd.nil,fun j=>by simp[gx],by decide,fun _=>rfl,Nat.zero_le _⟩,by decide,Nat.zero_le _⟩,rfl⟩,fun a ha=>by cases ha⟩
def PrR(F:Nat→Int)(M g N:Nat)(W0 wr:World):Prop:=
 ∃es,cK wr g 43 es∧es.length=N∧(∀t,t<N→RF (g+1) wr M (F t) (ge es t))∧Below g W0 wr
theorem xn{w W0 W2 v2 v3:World}{M M' N i j t:Nat}{zs ys:List Int}{us:List Ent}{e2:Ent}(hR1:cK W2 w.heap.size 43 us)(hul:us.length=N)(hev:∀t,t<N→RF (w.heap.size+1) W2 M (pj zs ys i j t) (ge us t))(hB1:Below w.heap.size W0 W2)
  (hpb:((pj zs ys i (j+1) t).natAbs:Int)<pd M) (ht:t=i+j) (htN:t<N) (hs0:w.heap.size+1≤W0.heap.size)
  (hV2:Below W2.heap.size W2 v2) (hb3:Below v2.heap.size v2 v3) (hN2:RF v2.heap.size v3 M' (pj zs ys i j t+gx zs i*gx ys j) e2):
  PrR (pj zs ys i (j+1)) M w.heap.size N W0 ((v3.setCell ⟨w.heap.size,t*2,none⟩ (.bool e2.s)).setCell ⟨w.heap.size,t*2+1,none⟩ (.slice e2.p e2.n e2.c)):=by
 have hb:=ae hV2 hb3
 have hR3:=hR1.below hb hR1.lt
 have hs1:=hB1.size
 have hs2:=hV2.size
 have hval:pj zs ys i j t+gx zs i*gx ys j=pj zs ys i (j+1) t:=by subst ht;exact(sO zs ys i j).symm
 rw[hval] at hN2
 refine⟨us.set t e2,hR3.set t e2 (by omega),by simpa using hul,fun t' ht'=>?_,?_⟩
 ·by_cases he:t'=t
  ·subst he
   rw[mM _ _ _ (by omega)]
   exact((hN2.le hpb).mono (by omega)).eL (by omega) _ _
  ·rw[ll _ _ _ _ he,qR _ _ _ _ _ (by omega)]
   exact((hev t' ht').below hb).eL (by omega) _ _
 ·exact((hB1.trans (hb.mono (by omega))).setCell (p:=⟨w.heap.size,t*2,none⟩) (Nat.le_refl _) _).setCell (p:=⟨w.heap.size,t*2+1,none⟩) (Nat.le_refl _) _
theorem uo{w:World}{A B K L:Nat}{p q:Option Addr}{n nc m mc:Nat}{es fs:List Ent}{zs ys:List Int}(h:PR w A p n nc es zs)(k:PR w B q m mc fs ys)(hn:n≤1000)(hm:m≤1000)(hn1:1≤n)(hm1:1≤m)(hA:A≤200)(hB:B≤200)(hX:∀i,((gx zs i).natAbs:Int)<pw K)(hY:∀i,((gx ys i).natAbs:Int)<pw L)(hKL:K+L≤100):
  Calls Tryz.prog 172 #[.slice p n nc,.slice q m mc] w (PrF (tr (eJ zs ys)) (2*(K+L+1)) w):=by
 have hel:=h.el
 have hfl:=k.el
 have hzl:=h.zl
 have hyl:=k.zl
 obtain⟨N,hN⟩:∃N,N=n+m-1:=⟨_,rfl⟩
 have hNI:(n:Int)+(m:Int)-1=(N:Int):=by omega
 have w1:IntKind.i64.wrap ((n:Int)+(m:Int))=(n:Int)+(m:Int):=by rw[IntKind.wrap_i64];omega
 have w2:IntKind.i64.wrap (N:Int)=(N:Int):=by rw[IntKind.wrap_i64];omega
 have g1:((n:Int)==0)=false:=by rw[beq_eq_false_iff_ne];omega
 have g2:((m:Int)==0)=false:=by rw[beq_eq_false_iff_ne];omega
 have g3:¬(n:Int)=0:=by omega
 have g4:¬(m:Int)=0:=by omega
 have HN:Hid (N=n+m-1):=hN
 have hN3:N≤2000:=by omega
 obtain⟨S,hS⟩:∃S,S=2*(K+L+1):=⟨_,rfl⟩
 rw[←hS]
 have HS:Hid (S=2*(K+L+1)):=hS
 have hS2:S≤202:=by omega
 clear hN hS
 have hmk:=Ar N (by omega)
 have HX:=(show Hid (∀i,((gx zs i).natAbs:Int)<pw K) from hX)
 have HY:=(show Hid (∀i,((gx ys i).natAbs:Int)<pw L) from hY)
 clear hX hY
 go_enter Tryz.func172,Tryz.ntmps172
 go_wp2_with fail
 have hR0:=cK.new w 43 (ezs N)
 have hW0:Below w.heap.size w (w.alloc (.cells (ca2 (ezs N)) 43)):=(Below.refl _ _).alloc (Nat.le_refl _) _
 have hs0:w.heap.size+1≤(w.alloc (.cells (ca2 (ezs N)) 43)).heap.size:=by simp
 generalize w.alloc (.cells (ca2 (ezs N)) 43)=W0 at *
 clear hmk
 go_loopw [6,7] (fun iv jv wr=>∃i:Nat,i≤n∧iv=.int .i64 i∧Hid (PrR (ps zs ys i) S w.heap.size N W0 wr)) (fun iv _ _=>n-(intOf iv).toNat)
 case atStart=>exact⟨0,Nat.zero_le _,by go_num,ezs N,hR0,gV N,fun t ht=>by rw[sq];exact RF.ez _ _ _,Below.refl _ _⟩
 case round=>
  obtain⟨i,hi,rfl,H⟩:=hrel
  rcases Nat.lt_or_ge i n with hlt|hge
  ·have i1:(i:Int)<(n:Int):=by omega
   go_wp2_with fail
   go_loopw [7] (fun jv w3=>∃j:Nat,j≤m∧jv=.int .i64 j∧Hid (PrR (pj zs ys i j) S w.heap.size N W0 w3)) (fun jv _=>m-(intOf jv).toNat)
   case atStart=>
    obtain⟨es',hR,hel',hev,hB⟩:=H.out
    exact⟨0,Nat.zero_le _,by go_num,es',hR,hel',fun t ht=>by rw[Cd];exact hev t ht,hB⟩
   case round=>
    obtain⟨j,hj,rfl,HJ⟩:=hrel
    rcases Nat.lt_or_ge j m with hjm|hjm
    ·obtain⟨us,hR1,hul,hev,hB1⟩:=HJ.out
     have hBw:Below w.heap.size w wr:=hW0.trans hB1
     have hPA:=h.below hBw
     have hQA:=k.below hBw
     obtain⟨b,o,hp,hc⟩:=hPA.pl (by omega)
     obtain⟨c,r,hq,hd⟩:=hQA.pl (by omega)
     subst hp hq
     obtain⟨c0,c1⟩:=hc i (by omega)
     obtain⟨d0,d1⟩:=hd j (by omega)
     have hv:=hPA.ev i hlt
     have hu:=hQA.ev j hjm
     have j1:(j:Int)<(m:Int):=by omega
     obtain⟨t,ht⟩:∃t,t=i+j:=⟨_,rfl⟩
     have hwt:IntKind.i64.wrap ((i:Int)+(j:Int))=(t:Int):=by rw[IntKind.wrap_i64];omega
     have htN:t<N:=by have:=HN.out;omega
     have HT:Hid (t=i+j):=ht
     obtain⟨x0,x1⟩:=hR1.cell t (by omega)
     have HE:Hid (∀t,t<N→RF (w.heap.size+1) wr S (pj zs ys i j t) (ge us t)):=hev
     have hpb:Hid (((pj zs ys i (j+1) t).natAbs:Int)<pd S):=by
      show _<_
      rw[HS.out,sN]
      exact D0 HX.out HY.out i (j+1) t (by omega)
     have hmu:=tc hv.drew hu.drew (by omega) (by omega)
     clear ht hev hc hd hPA hQA HJ
     go_wp2_with fail
     go_region_with (first
      |(go_at_call 43;go_fit hmu;rintro r v2 ⟨e1,rfl,hN1,hF1,hb2⟩;have hV2:=aC hb2;have hR2:=hR1.below hV2 hR1.lt;obtain⟨y0,y1⟩:=hR2.cell t (by omega);have had:=ft ((HE.out t htN).1.below hV2) hN1 (by omega) (by omega))
      |(go_at_call 55;go_fit had;rintro r v3 ⟨e2,rfl,hN2,hF2,hb3⟩;have hR3:=hR2.below hb3 hR2.lt;obtain⟨z0,z1⟩:=hR3.cell t (by omega);have f0:=hR3.frozen (t*2);have f1:=hR3.frozen (t*2+1)))
     all_goals
      have hstep:=xn (zs:=zs) (ys:=ys) (i:=i) (j:=j) hR1 hul HE.out hB1 hpb.out HT.out htN hs0 hV2 hb3 ⟨hN2,hF2⟩
      have HST:=(show Hid _ from hstep)
      clear hstep x0 x1 y0 y1 c0 c1 d0 d1 hR1 hB1 HE hN1 hN2 hR2 hR3 hv hu hmu had
      go_wp2
      refine⟨⟨j+1,by omega,by go_num,HST.out⟩,by simp[intOf];omega⟩
    ·obtain rfl:j=m:=by omega
     have HQ:Hid (PrR (ps zs ys (i+1)) S w.heap.size N W0 wr):=by
      obtain⟨us,hR,hul,hev,hB⟩:=HJ.out
      exact⟨us,hR,hul,fun t ht=>by rw[←Dp,hyl];exact hev t ht,hB⟩
     clear HJ hjm
     go_wp2
     refine⟨⟨i+1,by omega,by go_num,HQ.out⟩,by simp[intOf];omega⟩
  ·obtain rfl:i=n:=by omega
   obtain⟨us,hR,hul,hev,hB⟩:=H.out
   have hvl:=dD zs ys
   have hPR:PR wr S (some ⟨w.heap.size,0,none⟩) N N us (eJ zs ys):=⟨hul,by have:=HN.out;omega,Nat.le_refl _,by unfold maxLen;omega,hR.pl,fun t ht=>by
    rw[pD _ _ _ (by have:=HN.out;omega),hzl]
    exact(hev t ht).1⟩
   have HB:Hid (Below w.heap.size w wr):=hW0.trans hB
   have HEV:Hid (∀t,t<N→az w.heap.size (ge us t).p):=fun t ht a ha=>Nat.le_trans (Nat.le_succ _) ((hev t ht).2 a ha)
   clear H hge hR hev hB
   go_wp2_with fail
   refine(eU S _ N N us (eJ zs ys) _ hPR (by omega)).mono ?_
   rintro e w1 ⟨rfl,hb1⟩
   have HP:Hid (PR wr S (some ⟨w.heap.size,0,none⟩) N N us (eJ zs ys)):=hPR
   clear hPR
   go_wp2
   go_ret
   have htl:=ao (eJ zs ys)
   have hvk:=HP.out.zl
   have hT:=(HP.out.below hb1).take (ad (eJ zs ys)) (ad (eJ zs ys)) (by omega) (Nat.le_refl _) (by omega)
   refine⟨_,ad (eJ zs ys),us.take (ad (eJ zs ys)),rfl,hT,(fun a ha=>by cases ha;exact Nat.le_refl _),aZ _,fun j hj h0=>?_,ae HB.out hb1⟩
   rw[ic _ _ _ hj]
   exact HEV.out j (by omega)
end Go.Proofs.YtfnkomoickanfaaGreatDoor
