/- Own. -/
import Derived.Test.YtfnkomoickanfaaGreatDoorYa
set_option linter.unusedVariables false
set_option linter.unusedSimpArgs false
set_option maxHeartbeats 8000000
set_option maxRecDepth 100000
namespace Go.Proofs.YtfnkomoickanfaaGreatDoor
open Go.RowKit
def WiP(zs:List Int)(lo hi:Int)(M:Nat)(e:Ent)(w:World)(r:Ending)(w':World):Prop:=
 ∃v es,r=.returned v∧LR w.heap.size w' M v es (rts zs lo (hi+1-lo).toNat)∧(es=[]→v=.slice none 0 0)∧(∀j,j<es.length→(ge es j).p=e.p∨az w.heap.size (ge es j).p)∧Below w.heap.size w w'
structure WiI(w:World)(N K L n nc:Nat)(p:Option Addr)(es:List Ent)(zs:List Int)(lo hi:Int)(e f:Ent):Prop where
 p:PR w N p n nc es zs
 nz:∃t,gx zs t≠0
 rl:RE w (2*L) lo e
 rh:RE w (2*L) hi f
 l0:0≤lo
 lh:lo≤hi+1
 h0:0≤hi
 hL:hi+1<pw L
 rg:hi<1099511627776
 n30:n≤30
 nN:N≤60
 N4:4≤N
 L1:1≤L
 L9:L≤40
 K2:2≤K
 bd:∀i,((gx zs i).natAbs:Int)<pw K
 sz:K+1+n*(L+1)+L≤40
theorem lZ{P:Program}{w:World}{ops:Array Oper}{rest:List Oper}{o:Oper}{a:Act}{Q:Exit→Act→World→Prop}(hgd:o.guard=none)(s x:Operand)(t:TypeId)
  (ho:o.op=.call {callee:=.builtin .append,args:=#[s,x],argTypes:=#[t,t]}) (base:Nat) (e:TypeId) (i:TypeInfo) (size:Nat) (ht:P.underlying t=some (.slice e)) (hi:P.info? e=some i)
  (v:Value) (n:Nat) (xs:List Value) (hs:a.eval s=v) (hx:a.eval x=.slice none 0 0) (hown:w.ownsRow base e size v n xs) (h:wpList P ops Q rest (a.put o.dst v) w):wpList P ops Q (o::rest) a w:=by
 refine wpList_plain hgd fun K hK=>?_
 have hr:=run_append_owned_none (P:=P) (w:=w) base t o.type e i size ht hi v n xs hown
 unfold Oper.wp
 simp[execOp,ho,resolve,invoke,builtin,hs,hx,hr,Result.andThen]
 exact hK _ _ h
theorem LR.later{base:Nat}{w w':World}{N:Nat}{v:Value}{es:List Ent}{zs:List Int}(h:LR base w N v es zs)(hb:Below w.heap.size w w'):LR base w' N v es zs:=⟨bW h.own hb,h.zl,fun j hj=>(h.ev j hj).below hb,h.off⟩
theorem LR.low{base b:Nat}{w:World}{N:Nat}{v:Value}{es:List Ent}{zs:List Int}(h:LR base w N v es zs)(hb:b≤base):LR b w N v es zs:=by
 refine⟨⟨h.own.1,?_⟩,h.zl,h.ev,h.off⟩
 rcases h.own.2 with h1|⟨g,cap,cur,h1,h2,h3⟩
 ·exact .inl h1
 ·exact .inr ⟨g,cap,cur,h1,by omega,h3⟩
theorem gT{w w':World}{a1 a2 a3 a4 a5 a6:Addr}{v1 v2 v3 v4 v5 v6:Value}(h:w.cell? a1=some v1∧w.cell? a2=some v2∧w.cell? a3=some v3∧w.cell? a4=some v4∧w.cell? a5=some v5∧w.cell? a6=some v6)(hb:Below w.heap.size w w'):
  w'.cell? a1=some v1∧w'.cell? a2=some v2∧w'.cell? a3=some v3∧w'.cell? a4=some v4∧w'.cell? a5=some v5∧w'.cell? a6=some v6:=
 ⟨cell_later hb h.1,cell_later hb h.2.1,cell_later hb h.2.2.1,cell_later hb h.2.2.2.1,cell_later hb h.2.2.2.2.1,cell_later hb h.2.2.2.2.2⟩
theorem yW{w:World}{N M:Nat}{x y:Int}{e f:Ent}(h:RE w N x e)(k:RE w M y f)(hx:0<x)(hy:0<y)(hN:N≤1000)(hM:M≤1000):
  Calls Tryz.prog 87 #[.agg #[.bool e.s,.slice e.p e.n e.c],.agg #[.bool f.s,.slice f.p f.n f.c]] w fun r w'=>∃u v:Ent,r=.returned (.tuple #[.agg #[.bool u.s,.slice u.p u.n u.c],.agg #[.bool v.s,.slice v.p v.n v.c]])∧(∃B,RE w' B (x/y) u)∧Below w.heap.size w w':=by
 obtain⟨⟨ds,h1,rfl,h3⟩,h4⟩:=h
 obtain⟨⟨es,k1,rfl,k3⟩,k4⟩:=k
 have a1:=ay h1.u
 have a2:=ay k1.u
 have s1:e.s=false:=by
  cases hs:e.s with
  |false=>rfl
  |true=>rw[hs] at hx;exact absurd hx (by show ¬0 < - vd ds;omega)
 have s2:f.s=false:=by
  cases hs:f.s with
  |false=>rfl
  |true=>rw[hs] at hy;exact absurd hy (by show ¬0 < - vd es;omega)
 rw[s1] at h1 hx
 rw[s2] at k1 hy
 rw[h4,k4,s1,s2]
 have hx':0<vd ds:=hx
 have hy':0<vd es:=hy
 have hm0:0<f.n:=by
  rcases Nat.eq_zero_or_pos f.n with h0|h0
  ·have h9:es=[]:=List.eq_nil_of_length_eq_zero (by rw[k1.len];exact h0)
   rw[h9] at hy'
   exact absurd hy' (by decide)
  ·exact h0
 refine(td e.p f.p e.n f.n ds es w h1 k1 (by omega) (by omega) hm0).mono ?_
 rintro r w' ⟨p1,n1,d1,p2,n2,d2,rfl,g1,g2,g3,g4,g5,g6,-⟩
 refine⟨⟨false,p1,n1,n1⟩,⟨false,p2,n2,n2⟩,rfl,⟨n1,⟨d1,g1,?_,Nat.le_refl _⟩,rfl⟩,g6⟩
 show vd d1=vd ds/vd es
 rw[←g3,Int.add_comm,Int.add_mul_ediv_right _ _ (by omega),Int.ediv_eq_zero_of_lt (ay g2.u) g4]
 omega
theorem xA(N K L n nc:Nat)(p:Option Addr)(es:List Ent)(zs:List Int)(d:Nat):∀{w:World} {lo hi:Int} {e f:Ent},(hi-lo).toNat≤d→WiI w N K L n nc p es zs lo hi e f→
  Calls Tryz.prog 118 #[.slice p n nc,.agg #[.bool e.s,.slice e.p e.n e.c],.agg #[.bool f.s,.slice f.p f.n f.c]] w (WiP zs lo hi (2*L) e w):=by
 induction d using Nat.strongRecOn with
 |_ d ih=>
 intro w lo hi e f hd h
 have HI:Hid (∀m,m<d→∀{w:World} {lo hi:Int} {e f:Ent},(hi-lo).toNat≤m→WiI w N K L n nc p es zs lo hi e f→
  Calls Tryz.prog 118 #[.slice p n nc,.agg #[.bool e.s,.slice e.p e.n e.c],.agg #[.bool f.s,.slice f.p f.n f.c]] w (WiP zs lo hi (2*L) e w)):=ih
 have HX:Hid (WiI w N K L n nc p es zs lo hi e f):=h
 have hL9:=h.L9
 clear ih h
 go_enter Tryz.func118,Tryz.ntmps118
 have hal:Below w.heap.size w ((w.alloc (.cells #[.bool e.s,.slice e.p e.n e.c] 43)).alloc (.cells #[.bool f.s,.slice f.p f.n f.c] 43)):=af (af (Below.refl _ _))
 have hX0:Bx ((w.alloc (.cells #[.bool e.s,.slice e.p e.n e.c] 43)).alloc (.cells #[.bool f.s,.slice f.p f.n f.c] 43)) w.heap.size (.bool e.s) (.slice e.p e.n e.c):=(Bx.new _ _ _ rfl).alloc _
 have hX1:Bx ((w.alloc (.cells #[.bool e.s,.slice e.p e.n e.c] 43)).alloc (.cells #[.bool f.s,.slice f.p f.n f.c] 43)) (w.heap.size+1) (.bool f.s) (.slice f.p f.n f.c):=Bx.new _ _ _ (by rw[World.size_alloc])
 obtain⟨k0,k1,-,-⟩:=id hX0
 obtain⟨l0,l1,-,-⟩:=id hX1
 have hlo:=HX.out.rl.below hal
 have hhi:=HX.out.rh.below hal
 have hc1:=lL hlo hhi (by omega) (by omega)
 go_wp2_with fail
 generalize (w.alloc (.cells #[.bool e.s,.slice e.p e.n e.c] 43)).alloc (.cells #[.bool f.s,.slice f.p f.n f.c] 43)=W at *
 refine hc1.mono ?_
 rintro r w1 ⟨rfl,hb1⟩
 have hX2:=hX0.later hb1
 have hX3:=hX1.later hb1
 have hlo1:=hlo.below hb1
 have hhi1:=hhi.below hb1
 have hB1:=ae hal hb1
 clear hX0 hX1 k0 k1 l0 l1 hlo hhi hc1 hb1 hal
 have hc3:hi<lo∨lo=hi∨lo<hi:=by omega
 rcases hc3 with h0|h0|h0
 ·rw[cr h0]
  have HB:Hid (Below w.heap.size w w1∧(hi+1-lo).toNat=0):=⟨hB1,by have:=HX.out.lh;omega⟩
  clear hX2 hX3 hlo1 hhi1 hB1 hd h0
  go_wp2
  go_ret
  refine⟨_,[],rfl,?_,fun _=>rfl,fun j hj=>absurd hj (Nat.not_lt_zero j),HB.out.1⟩
  rw[HB.out.2]
  exact LR.nil _ _ _
 ·subst h0
  rw[c5]
  obtain⟨k0,k1,-,-⟩:=id hX2
  obtain⟨l0,l1,-,-⟩:=id hX3
  have hc2:=lL hlo1 hhi1 (by omega) (by omega)
  rw[c5] at hc2
  go_wp2_with fail
  refine hc2.mono ?_
  rintro r w2 ⟨rfl,hb2⟩
  have hB2:=ae hB1 hb2
  have hY:=hX2.later hb2
  have hlo2:=hlo1.below hb2
  have hP2:=HX.out.p.below hB2
  clear k0 k1 l0 l1 hc2 hX2 hX3 hb2 hB1 hlo1 hhi1
  obtain⟨k0,k1,-,-⟩:=id hY
  have hev:=oG (K:=K) (L:=L) hP2 hlo2 (by have:=HX.out.n30;omega) (by have:=HX.out.nN;omega) (by omega) HX.out.bd (by have:=HX.out.hL;have:=HX.out.l0;omega) (by have:=HX.out.sz;omega) HX.out.K2
  go_wp2_with fail
  refine hev.mono ?_
  rintro r w3 ⟨u,rfl,hu,hb3⟩
  have hB3:=ae hB2 hb3
  have hu3:=hu.below (af (o:=.cells #[.bool u.s,.slice u.p u.n u.c] 43) (Below.refl _ _))
  have hZ:Bx (w3.alloc (.cells #[.bool u.s,.slice u.p u.n u.c] 43)) w3.heap.size (.bool u.s) (.slice u.p u.n u.c):=Bx.new _ _ _ rfl
  have hY3:=(hY.later hb3).alloc (.cells #[.bool u.s,.slice u.p u.n u.c] 43)
  have hB4:=af (o:=.cells #[.bool u.s,.slice u.p u.n u.c] 43) hB3
  have hlo4:=(hlo2.below hb3).below (af (o:=.cells #[.bool u.s,.slice u.p u.n u.c] 43) (Below.refl _ _))
  obtain⟨m0,m1,-,-⟩:=id hZ
  have hsg:=pO hu3
  clear k0 k1 hev hu hY hB2 hb3 hlo2 hP2 hB3
  go_wp2_with fail
  generalize w3.alloc (.cells #[.bool u.s,.slice u.p u.n u.c] 43)=W4 at *
  generalize w3.heap.size=g3 at *
  refine hsg.mono ?_
  rintro r w5 ⟨rfl,hb5⟩
  obtain⟨k0,k1,-,-⟩:=hY3.later hb5
  have hB5:=ae hB4 hb5
  have hlo5:=hlo4.below hb5
  clear hsg hZ hu3 hY3 m0 m1 hb5 hB4 hlo4
  have e1:(lo+1-lo).toNat=1:=by omega
  rcases cc (evz lo zs) with ⟨hz,hs⟩|⟨hz,hs⟩|⟨hz,hs⟩
  ·rw[hs]
   have hown:=World.ownsRow_lit (base:=w.heap.size) (e:=43) (size:=2) w5 #[.bool e.s,.slice e.p e.n e.c] 1 hB5.size (by decide) rfl
   have HF:Hid (Below w.heap.size w w5∧RE w5 (2*L) lo e∧evz lo zs=0∧(lo+1-lo).toNat=1∧(w5.alloc (.cells #[.bool e.s,.slice e.p e.n e.c] 43)).ownsRow w.heap.size 43 2 (.slice (some ⟨w5.heap.size,0,none⟩) 1 1) 1 [.bool e.s,.slice e.p e.n e.c]):=⟨hB5,hlo5,hz,e1,hown⟩
   clear hB5 hlo5 hz hs e1 hown hd
   go_wp2
   go_ret
   refine⟨_,[e],rfl,?_,(fun h9=>by cases h9),fun j hj=>.inl ?_,af HF.out.1⟩
   ·rw[HF.out.2.2.2.1,vG,if_pos HF.out.2.2.1]
    refine⟨HF.out.2.2.2.2,rfl,fun j hj=>?_,fun j hj hn a ha=>?_⟩
    ·obtain rfl:j=0:=by simp at hj;omega
     exact HF.out.2.1.below (af (Below.refl _ _))
    ·obtain rfl:j=0:=by simp at hj;omega
     have:=HF.out.2.1.lt hn a ha
     intro h9
     have h8:a.block=w5.heap.size:=Option.some.inj h9
     omega
   ·obtain rfl:j=0:=by simp at hj;omega
    rfl
  all_goals
   rw[hs]
   have HF:Hid (Below w.heap.size w w5∧evz lo zs≠0∧(lo+1-lo).toNat=1):=⟨hB5,by omega,e1⟩
   clear hB5 hlo5 hz hs e1 hd k0 k1
   go_wp2
   go_ret
   refine⟨_,[],rfl,?_,fun _=>rfl,fun j hj=>absurd hj (Nat.not_lt_zero j),HF.out.1⟩
   rw[HF.out.2.2,vG,if_neg HF.out.2.1]
   exact LR.nil _ _ _
 ·rw[bC h0]
  obtain⟨k0,k1,-,-⟩:=id hX2
  obtain⟨l0,l1,-,-⟩:=id hX3
  have hc2:=lL hlo1 hhi1 (by omega) (by omega)
  rw[bC h0] at hc2
  go_wp2_with fail
  refine hc2.mono ?_
  rintro r w2 ⟨rfl,hb2⟩
  have hB2:=ae hB1 hb2
  have hX4:=hX2.later hb2
  have hX5:=hX3.later hb2
  have hlo2:=hlo1.below hb2
  have hhi2:=hhi1.below hb2
  clear k0 k1 l0 l1 hc2 hX2 hX3 hb2 hB1 hlo1 hhi1
  go_wp2_with fail
  refine(gZ 1 _ (by decide) (by decide)).mono ?_
  rintro r w3 ⟨u,rfl,hu,hFu,hb3⟩
  have hal3:=af (o:=.cells #[.bool u.s,.slice u.p u.n u.c] 43) (Below.refl w3.heap.size w3)
  have hX6:=(hX4.later hb3).later hal3
  have hX7:=(hX5.later hb3).later hal3
  have hX8:Bx (w3.alloc (.cells #[.bool u.s,.slice u.p u.n u.c] 43)) w3.heap.size (.bool u.s) (.slice u.p u.n u.c):=Bx.new _ _ _ rfl
  have hlo3:=(hlo2.below hb3).below hal3
  have hhi3:=(hhi2.below hb3).below hal3
  have hu3:=hu.below hal3
  have hB3:=ae (ae hB2 hb3) hal3
  clear hX4 hX5 hlo2 hhi2 hu hFu hB2 hb3 hal3
  obtain⟨k0,k1,-,-⟩:=id hX6
  obtain⟨l0,l1,-,-⟩:=id hX7
  obtain⟨m0,m1,-,-⟩:=id hX8
  go_upto_region 9 with fail
  generalize w3.alloc (.cells #[.bool u.s,.slice u.p u.n u.c] 43)=V at *
  generalize w3.heap.size=g8 at *
  have hPV:=HX.out.p.below hB3
  have hK6:V.cell? ⟨w.heap.size,0,none⟩=some (.bool e.s)∧V.cell? ⟨w.heap.size,1,none⟩=some (.slice e.p e.n e.c)∧V.cell? ⟨w.heap.size+1,0,none⟩=some (.bool f.s)∧V.cell? ⟨w.heap.size+1,1,none⟩=some (.slice f.p f.n f.c)∧V.cell? ⟨g8,0,none⟩=some (.bool u.s)∧V.cell? ⟨g8,1,none⟩=some (.slice u.p u.n u.c):=⟨k0,k1,l0,l1,m0,m1⟩
  clear k0 k1 l0 l1 m0 m1
  have h1L:(1:Int)<pw L:=by have:=HX.out.hL;have:=HX.out.l0;omega
  go_region_held3 (fun w'=>w'.cell? ⟨w.heap.size,0,none⟩=some (.bool e.s)∧w'.cell? ⟨w.heap.size,1,none⟩=some (.slice e.p e.n e.c)∧w'.cell? ⟨w.heap.size+1,0,none⟩=some (.bool f.s)∧w'.cell? ⟨w.heap.size+1,1,none⟩=some (.slice f.p f.n f.c)∧w'.cell? ⟨g8,0,none⟩=some (.bool u.s)∧w'.cell? ⟨g8,1,none⟩=some (.slice u.p u.n u.c)) (first|with_reducible exact hK6|with_reducible exact gT hK6 (Below.refl _ _).drew|with_reducible exact hK61|with_reducible exact hK62|with_reducible exact hK63)
   (first
    |(go_at_call 122;(first
      |(go_fit (yZ hlo3.drew hu3.drew (by omega) (by omega));rintro r v1 ⟨ua,rfl,hRa,-,hb1⟩;have hB1:=aC hb1;have hK61:=gT hK6 hB1)
      |(go_fit (yZ (hlo3.below hB1) (hu3.below hB1) (by omega) (by omega));rintro r v2 ⟨ua,rfl,hRa,-,hB2⟩;have hRb2:=hRb.below hB2;have hRa2:=hRa;have hK62:=gT hK61 hB2)))
    |(go_at_call 55;(first
      |(go_fit (ft hhi3.drew hu3.drew (by omega) (by omega));rintro r v1 ⟨ub,rfl,hRb,-,hb1⟩;have hB1:=aC hb1;have hK61:=gT hK6 hB1)
      |(go_fit (ft (hhi3.below hB1) (hu3.below hB1) (by omega) (by omega));rintro r v2 ⟨ub,rfl,hRb,-,hB2⟩;have hRa2:=hRa.below hB2;have hRb2:=hRb;have hK62:=gT hK61 hB2)))
    |(go_at_call 150;go_fit (tT (K:=K) (L:=L) ((hPV.below hB1).below hB2) hRa2 hRb2 HX.out.n30 (by have:=HX.out.nN;omega) HX.out.N4 (by omega) (by omega) HX.out.bd (by have:=HX.out.hL;have:=HX.out.l0;omega) (by have:=HX.out.hL;have:=HX.out.l0;omega) HX.out.L1 HX.out.sz);rintro r v3 ⟨c,hcn,rfl,hcz,hB9⟩;have hK63:=gT hK62 hB9))
  all_goals
   have hBv:=ae (ae hB1 hB2) hB9
   have hY1:=hX6.later hBv
   have hY2:=hX7.later hBv
   have hY3:=hX8.later hBv
   have hlo4:=hlo3.below hBv
   have hhi4:=hhi3.below hBv
   have hu4:=hu3.below hBv
   have hB4:=ae hB3 hBv
   clear hX6 hX7 hX8 hlo3 hhi3 hu3 hB3 hPV hK6 hK61 hK62 hK63 hRa hRb hRa2 hRb2 hB1 hB2 hB9 hBv hb1
   have hc0:Hid (c=0∨0<c):=by show _∨_;omega
   rcases hc0.out with rfl|hcp
   ·have HF:Hid (Below w.heap.size w v3∧rts zs lo (hi+1-lo).toNat=[]):=by
     refine⟨hB4,tD fun z h1 h2=>Ds.B4 HX.out.nz (a:=lo-1) (b:=hi+1) (by omega) (by omega) ?_⟩
     have hl:=HX.out.p.zl
     have h9:=hcz rfl
     rw[←hl] at h9
     exact h9
    clear hc0 hcz hB4 hY1 hY2 hY3 hlo4 hhi4 hu4
    go_wp2
    go_ret
    refine⟨_,[],rfl,?_,fun _=>rfl,fun j hj=>absurd hj (Nat.not_lt_zero j),HF.out.1⟩
    rw[HF.out.2]
    exact LR.nil _ _ _
   ·have i1:((c:Int)==0)=false:=by rw[beq_eq_false_iff_ne];omega
    rw[i1]
    obtain⟨k0,k1,-,-⟩:=id hY1
    obtain⟨l0,l1,-,-⟩:=id hY2
    clear hc0 hcz i1
    go_wp2_with fail
    refine(ft hlo4 hhi4 (by omega) (by omega)).mono ?_
    rintro r v4 ⟨us,rfl,hus,-,hb4⟩
    go_wp2_with fail
    refine(gZ 2 _ (by decide) (by decide)).mono ?_
    rintro r v5 ⟨ut,rfl,hut,-,hb5⟩
    have hq:=yW (hus.below hb5) hut (by have:=HX.out.l0;omega) (by decide) (by omega) (by decide)
    go_wp2_with fail
    refine hq.mono ?_
    rintro r v6 ⟨um,uv,rfl,⟨B6,hum⟩,hb6⟩
    go_upto_region 12 with fail
    have hbz:Below v6.heap.size v6 ((v6.alloc (.cells #[.bool um.s,.slice um.p um.n um.c] 43)).alloc (.cells #[.bool uv.s,.slice uv.p uv.n uv.c] 43)):=af (af (Below.refl _ _))
    have hbz3:=ae (ae (ae hb4 hb5) hb6) hbz
    have hZ9:Bx ((v6.alloc (.cells #[.bool um.s,.slice um.p um.n um.c] 43)).alloc (.cells #[.bool uv.s,.slice uv.p uv.n uv.c] 43)) v6.heap.size (.bool um.s) (.slice um.p um.n um.c):=(Bx.new _ _ _ rfl).alloc _
    have hm1:lo≤(lo+hi)/2:=by omega
    have hm2:(lo+hi)/2<hi:=by omega
    have hmid:=(hum.below hbz).tight (K:=L) (by have:=HX.out.hL;have:=HX.out.l0;omega)
    have hlz:=hlo4.below hbz3
    have hhz:=hhi4.below hbz3
    have huz:=hu4.below hbz3
    have hZ1:=hY1.later hbz3
    have hZ2:=hY2.later hbz3
    have hZ3:=hY3.later hbz3
    have hBz:=ae hB4 hbz3
    clear hlo4 hhi4 hu4 hY1 hY2 hY3 hB4 hus hut hq hum hb4 hb5 hb6 hbz hbz3 k0 k1 l0 l1 hcp hcn
    generalize (v6.alloc (.cells #[.bool um.s,.slice um.p um.n um.c] 43)).alloc (.cells #[.bool uv.s,.slice uv.p uv.n uv.c] 43)=Z at *
    generalize v6.heap.size=g9 at *
    generalize hmm:(lo+hi)/2=mid at *
    clear hmm
    have HW:Hid (WiI Z N K L n nc p es zs lo mid e um):=by
     have X:=HX.out
     have a1:=X.l0
     have a2:=X.hL
     have a3:=X.rg
     exact⟨X.p.below hBz,X.nz,hlz,hmid,a1,by omega,by omega,by omega,by omega,X.n30,X.nN,X.N4,X.L1,X.L9,X.K2,X.bd,X.sz⟩
    have hcall:=HI.out (mid-lo).toNat (by omega) (Nat.le_refl _) HW.out
    obtain⟨k0,k1,-,-⟩:=id hZ1
    obtain⟨n0,n1,-,-⟩:=id hZ9
    go_wp2_with fail
    refine hcall.mono ?_
    rintro r z1 ⟨v,es1,rfl,hLR,hnil,hpe,hbx⟩
    have hhx:=hhz.below hbx
    have hmx:=hmid.below hbx
    have hux:=huz.below hbx
    have hX2:=hZ2.later hbx
    have hX3:=hZ3.later hbx
    have hX9:=hZ9.later hbx
    have hBx:=ae hBz hbx
    have hsz:=hBz.size
    have hPx:=HX.out.p.below hBx
    have hK6:z1.cell? ⟨g9,0,none⟩=some (.bool um.s)∧z1.cell? ⟨g9,1,none⟩=some (.slice um.p um.n um.c)∧z1.cell? ⟨g8,0,none⟩=some (.bool u.s)∧z1.cell? ⟨g8,1,none⟩=some (.slice u.p u.n u.c)∧z1.cell? ⟨w.heap.size+1,0,none⟩=some (.bool f.s)∧z1.cell? ⟨w.heap.size+1,1,none⟩=some (.slice f.p f.n f.c):=⟨hX9.c0,hX9.c1,hX3.c0,hX3.c1,hX2.c0,hX2.c1⟩
    have HL:Hid (LR w.heap.size z1 (2*L) v es1 (rts zs lo (mid+1-lo).toNat)∧(es1=[]→v=.slice none 0 0)∧(∀j,j<es1.length→(ge es1 j).p=e.p∨az w.heap.size (ge es1 j).p)):=⟨hLR.low hsz,hnil,fun j hj=>(hpe j hj).imp id fun h9 a ha=>Nat.le_trans hsz (h9 a ha)⟩
    clear k0 k1 n0 n1 hcall hLR hnil hpe hlz hhz huz hmid hZ1 hZ2 hZ3 hZ9 hBz hbx hX2 hX3 hX9 HW hsz
    go_upto_region 13 with fail
    go_region_held3 (fun w'=>w'.cell? ⟨g9,0,none⟩=some (.bool um.s)∧w'.cell? ⟨g9,1,none⟩=some (.slice um.p um.n um.c)∧w'.cell? ⟨g8,0,none⟩=some (.bool u.s)∧w'.cell? ⟨g8,1,none⟩=some (.slice u.p u.n u.c)∧w'.cell? ⟨w.heap.size+1,0,none⟩=some (.bool f.s)∧w'.cell? ⟨w.heap.size+1,1,none⟩=some (.slice f.p f.n f.c)) (first|with_reducible exact hK6|with_reducible exact gT hK6 (Below.refl _ _).drew|with_reducible exact hK61|with_reducible exact hK62)
     (first
      |(go_at_call 55;go_fit (ft hmx.drew hux.drew (by omega) (by omega));rintro r z2 ⟨un,rfl,hRn,hFn,hb1⟩;have hB1:=aC hb1;have hK61:=gT hK6 hB1)
      |(go_at_call 118;go_fit (HI.out (hi-(mid+1)).toNat (by omega) (Nat.le_refl _) (show WiI _ N K L n nc p es zs (mid+1) hi un f from⟨hPx.below hB1,HX.out.nz,hRn.tight (K:=L) (by have:=HX.out.hL;have:=HX.out.l0;omega),hhx.below hB1,by have:=HX.out.l0;omega,by omega,HX.out.h0,HX.out.hL,HX.out.rg,HX.out.n30,HX.out.nN,HX.out.N4,HX.out.L1,HX.out.L9,HX.out.K2,HX.out.bd,HX.out.sz⟩));rintro r z3 ⟨v2,es2,rfl,hLR2,hnil2,hpe2,hB2⟩;have hK62:=gT hK61 hB2))
    all_goals
     have hB3:=ae hB1 hB2
     have hA:=HL.out.1.later hB3
     have hl1:es1.length≤1099511627776:=by
      have h1:=mA zs lo (mid+1-lo).toNat
      have h2:=HL.out.1.zl
      have h3:=HX.out.rg
      have h4:=HX.out.l0
      omega
     have hl2:es2.length≤1099511627776:=by
      have h1:=mA zs (mid+1) (hi+1-(mid+1)).toNat
      have h2:=hLR2.zl
      have h3:=HX.out.rg
      have h4:=HX.out.l0
      omega
     have hj:rts zs lo (hi+1-lo).toNat=rts zs lo (mid+1-lo).toNat++rts zs (mid+1) (hi+1-(mid+1)).toNat:=by
      have h1:=vF zs lo (mid+1-lo).toNat (hi+1-(mid+1)).toNat
      rw[show lo+((mid+1-lo).toNat:Int)=mid+1 by omega] at h1
      rw[←h1]
      congr 1
      omega
     have hoff:∀j,j<es2.length→0<(ge es2 j).n→∀a,(ge es2 j).p=some a→some a.block≠v.ownBlock:=fun j hj _ a ha hq=>by
      have h1:=(HL.out.1.own.lt a.block hq.symm).2
      have h2:az z1.heap.size un.p:=hFn
      rcases hpe2 j hj with h3|h3
      ·rw[h3] at ha
       have:=h2 a ha
       omega
      ·have:=h3 a ha
       have:=hB1.size
       omega
     have hfr:∀j,j<es2.length→az w.heap.size (ge es2 j).p:=fun j hj a ha=>by
      have h0:=hBx.size
      have h2:az z1.heap.size un.p:=hFn
      rcases hpe2 j hj with h3|h3
      ·rw[h3] at ha
       have:=h2 a ha
       omega
      ·have:=h3 a ha
       have:=hB1.size
       omega
     have HF:Hid (LR w.heap.size z3 (2*L) v es1 (rts zs lo (mid+1-lo).toNat)∧LR z2.heap.size z3 (2*L) v2 es2 (rts zs (mid+1) (hi+1-(mid+1)).toNat)∧rts zs lo (hi+1-lo).toNat=rts zs lo (mid+1-lo).toNat++rts zs (mid+1) (hi+1-(mid+1)).toNat∧(∀j,j<es2.length→0<(ge es2 j).n→∀a,(ge es2 j).p=some a→some a.block≠v.ownBlock)∧(∀j,j<es2.length→az w.heap.size (ge es2 j).p)∧Below w.heap.size w z3∧(es2=[]→v2=.slice none 0 0)):=⟨hA,hLR2,hj,hoff,hfr,ae hBx hB3,hnil2⟩
     clear hA hLR2 hj hoff hfr hBx hB3 hnil2 hpe2 hB1 hB2 hb1 hK6 hK61 hK62 hRn hFn hPx hhx hmx hux
     obtain⟨i0,hi0,hzz⟩:=Option.map_eq_some_iff.1 fN
     simp only[Prod.mk.injEq] at hzz
     obtain⟨hz0,hz1,hz2⟩:=hzz
     have hce:Hid (es2=[]∨0<es2.length):=by cases es2 with|nil=>exact .inl rfl|cons=>exact .inr (Nat.succ_pos _)
     rcases hce.out with rfl|hne
     ·have hv2:=HF.out.2.2.2.2.2.2 rfl
      subst hv2
      clear hce
      go_wp2_with (at_builtin;refine lZ rfl _ _ 53 rfl w.heap.size 43 i0 2 Tryz.underlying53 hi0 v es1.length (fl es1) rfl rfl HF.out.1.own ?_)
      go_ret
      have h9:rts zs (mid+1) (hi+1-(mid+1)).toNat=[]:=List.eq_nil_of_length_eq_zero HF.out.2.1.zl
      refine⟨v,es1,rfl,?_,HL.out.2.1,HL.out.2.2,HF.out.2.2.2.2.2.1⟩
      rw[HF.out.2.2.1,h9,List.append_nil]
      exact HF.out.1
     ·obtain⟨q2,c2,hv2,hcap2,hcm2,hF2,hnone2⟩:=ky HF.out.2.1.own
      have ho2:=HF.out.2.1.own
      subst hv2
      obtain⟨b2,o2,hq2,hcl2⟩:=nC ho2 hne
      subst hq2
      have hnw:=BK hcl2
      clear hce hcl2 ho2 hnone2 hF2
      go_wp2_with (at_builtin;refine wpList_append_lies _ rfl _ _ 53 rfl w.heap.size 43 i0 (.agg #[.bool false,.slice none 0 0]) 2 32 Tryz.underlying53 hi0 hz0 hz1 hz2 rfl (by decide) v es1.length (fl es1) rfl HF.out.1.own ⟨b2,o2,none⟩ es2.length c2 (fl es2) rfl (qw es2) hnw (C4 es2) hne (by unfold maxLen;omega) (by omega) HF.out.2.2.2.2.2.1.size _ rfl ?_;intro g cap w9 hown9 hgrow9 hat9 hlt9)
      go_ret
      refine⟨_,es1++es2,rfl,?_,fun h9=>absurd (List.append_eq_nil_iff.1 h9).2 (fun h8=>by rw[h8] at hne;exact absurd hne (Nat.lt_irrefl _)),fun j hj=>?_,?_⟩
      ·rw[HF.out.2.2.1]
       exact LR.append rfl rfl HF.out.1 HF.out.2.1.zl HF.out.2.1.ev HF.out.2.2.2.1 hown9 hgrow9 hat9
      ·rcases Nat.lt_or_ge j es1.length with h8|h8
       ·rw[bP _ _ _ h8]
        exact HL.out.2.2 j h8
       ·rw[fi _ _ _ h8]
        exact .inr (HF.out.2.2.2.2.1 _ (by rw[List.length_append] at hj;omega))
      ·exact HF.out.2.2.2.2.2.1.grown hgrow9 HF.out.2.2.2.2.2.1.size (fun q hq=>(HF.out.1.own.lt q hq).1)
end Go.Proofs.YtfnkomoickanfaaGreatDoor
