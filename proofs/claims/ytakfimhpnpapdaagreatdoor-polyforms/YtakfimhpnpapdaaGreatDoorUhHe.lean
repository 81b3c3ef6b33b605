/-
  upoly.Eq.
-/
import Derived.Test.YtakfimhpnpapdaaGreatDoorUeUfUg
import Derived.Test.YtakfimhpnpapdaaGreatDoorHcHd
import Derived.Test.YtakfimhpnpapdaaGreatDoorUiWiWj
namespace Go.Proofs.YtakfimhpnpapdaaGreatDoor
open Go.RowKit
set_option linter.unusedVariables false
set_option linter.unusedSimpArgs false

theorem Cmp_ev {w : World} {K L : Nat} {x y : Int} {e f : Ent} (h : EV w K x e) (k : EV w L y f) : Calls Tryz.prog 37 #[.agg #[.bool e.s, .slice e.p e.n e.c], .agg #[.bool f.s, .slice f.p f.n f.c]] w fun r w' => r = .returned (.int .i64 (icmp x y)) ∧ Below w.heap.size w w' := by
  obtain ⟨xs, h1, rfl, h3⟩ := h
  obtain ⟨ys, k1, rfl, k3⟩ := k
  exact Cmp_any e.s f.s e.p f.p e.n e.c f.n f.c xs ys w h1 k1
theorem icmp_dec (x y : Int) : (icmp x y == 0) = decide (x = y) := by
  unfold icmp
  rcases Int.lt_trichotomy x y with h | h | h
  · rw [if_pos h]; simp; omega
  · subst h; simp
  · rw [if_neg (by omega), if_pos h]; simp; omega
set_option maxHeartbeats 2000000 in
set_option maxRecDepth 100000 in
theorem eqSame_any {w : World} {K L : Nat} {x y : Int} {e f : Ent} (h : EV w K x e) (k : EV w L y f) : Calls Tryz.prog 36 #[.agg #[.bool e.s, .slice e.p e.n e.c], .agg #[.bool f.s, .slice f.p f.n f.c]] w fun r w' => r = .returned (.bool (decide (x = y))) ∧ Below w.heap.size w w' := by
  have hd : Hid ((icmp x y == 0) = decide (x = y)) := icmp_dec x y
  go_enter Tryz.func36, Tryz.ntmps36
  go_wp2_with fail
  have hW : Below w.heap.size w ((w.alloc (.cells #[.bool e.s, .slice e.p e.n e.c] 29)).alloc (.cells #[.bool f.s, .slice f.p f.n f.c] 29)) := ((Below.refl _ _).alloc (Nat.le_refl _) _).alloc (by simp) _
  generalize (w.alloc (.cells #[.bool e.s, .slice e.p e.n e.c] 29)).alloc (.cells #[.bool f.s, .slice f.p f.n f.c] 29) = W at *
  refine (Cmp_ev (h.below hW) (k.below hW)).mono ?_
  rintro r w1 ⟨rfl, hb1⟩
  go_wp2
  go_ret
  exact ⟨by rw [hd.out]; rfl, bnext' hW hb1⟩
theorem callSame (args : Array Value) (w' : World) : Sem.run Tryz.prog (callFunc 36 args) w' = .ok (.enter 36 args) w' := by
  have h1 : ¬ Tryz.f36.name = "runtime.NumGoroutine" := of_decide_eq_false (by kernel_rfl)
  have h2 : ¬ Tryz.f36.body = none := fun h => by cases h
  simp only [callFunc, Tryz.func36, go_sem]
  simp [h1, h2, go_sem]
set_option maxHeartbeats 2000000 in
set_option maxRecDepth 100000 in
/-- slices.EqualFunc. -/
theorem eqFunc_any {w : World} {K L : Nat} {p q : Option Addr} {n nc m mc : Nat} {es fs : List Ent} {zs ys : List Int} (h : PA w K p n nc es zs) (k : PA w L q m mc fs ys) (hn : n ≤ 1000000) (hm : m ≤ 1000000) :
    Calls Tryz.prog 38 #[.slice p n nc, .slice q m mc, .func (.func 36) #[] #[]] w fun r w' => r = .returned (.bool (decide (zs = ys))) ∧ Below w.heap.size w w' := by
  have hel := h.el
  have hfl := k.el
  have hzl := h.zl
  have hyl := k.zl
  by_cases hnm : n = m
  · subst hnm
    go_enter Tryz.func38, Tryz.ntmps38
    go_wp2_with fail
    have hE := callSame
    go_loopw [7, 8, 9, 17] (fun iv av bv kv wr => ∃ j : Nat, j ≤ n ∧ kv = .int .i64 j ∧ Hid ((∀ i, i < j → gx zs i = gx ys i) ∧ Below w.heap.size w wr)) (fun _ _ _ kv _ => n - (intOf kv).toNat)
    case atStart => exact ⟨0, Nat.zero_le _, by go_num, fun i hi => by omega, Below.refl _ _⟩
    case round =>
      obtain ⟨j, hj, rfl, H⟩ := hrel
      rcases Nat.lt_or_ge j n with hlt | hge
      · have hh := h.below H.out.2
        have hk := k.below H.out.2
        have hv := hh.ev j hlt
        have hw := hk.ev j hlt
        obtain ⟨b, o, hp, hc⟩ := hh.pl (by omega)
        obtain ⟨c, r, hq, hd⟩ := hk.pl (by omega)
        subst hp hq
        obtain ⟨c0, c1⟩ := hc j (by omega)
        obtain ⟨d0, d1⟩ := hd j (by omega)
        have sb : b < wr.heap.size := block_lt_of_cell c0
        have sc : c < wr.heap.size := block_lt_of_cell d0
        clear hc hd hh hk
        go_wp2_with fail
        have hal := bel_al (o := .cells #[.bool (ge fs j).s, .slice (ge fs j).p (ge fs j).n (ge fs j).c] 29) (bel_al (o := .cells #[.bool (ge es j).s, .slice (ge es j).p (ge es j).n (ge es j).c] 29) (Below.refl wr.heap.size wr))
        refine (eqSame_any (hv.below hal) (hw.below hal)).mono ?_
        rintro e w1 ⟨rfl, hb1⟩
        have hB := bnext' H.out.2 (bnext' hal hb1)
        have hcs : Hid (gx zs j = gx ys j ∨ ¬ gx zs j = gx ys j) := Classical.em _
        clear c0 c1 d0 d1 hv hw hal hb1 sb sc
        rcases hcs.out with hz | hz
        · rw [decide_eq_true hz]
          have HZ : Hid (gx zs j = gx ys j) := hz
          clear hz hcs
          go_wp2
          go_roundw
          case rel => exact ⟨j + 1, by omega, by go_num, fun i hi => by
            rcases Nat.lt_or_ge i j with h' | h'
            · exact H.out.1 i h'
            · obtain rfl : i = j := by omega
              exact HZ.out, hB⟩
          case measure => simp [intOf]; omega
        · rw [decide_eq_false hz]
          have HD : Hid (decide (zs = ys) = false) := decide_eq_false fun e => hz (by rw [e])
          clear hz hcs
          go_wp2
          go_ret
          exact ⟨by rw [HD.out]; rfl, hB⟩
      · obtain rfl : j = n := by omega
        have HD : Hid (decide (zs = ys) = true) := decide_eq_true (gx_ext _ _ (by omega) fun i hi => H.out.1 i (by omega))
        have hB := H.out.2
        clear hge
        go_wp2
        go_ret
        exact ⟨by rw [HD.out]; rfl, hB⟩
  · have hne : ¬ zs = ys := fun e => hnm (by rw [← hzl, ← hyl, e])
    have HD : Hid (decide (zs = ys) = false) := decide_eq_false hne
    have hI : ((n : Int) != (m : Int)) = true := by rw [bne_iff_ne]; omega
    clear hne hel hfl hzl hyl
    go_enter Tryz.func38, Tryz.ntmps38
    go_wp2
    go_ret
    exact ⟨by rw [HD.out]; rfl, Below.refl _ _⟩
set_option maxHeartbeats 2000000 in
set_option maxRecDepth 100000 in
/-- upoly.Eq. -/
theorem uEq_any {w : World} {K L : Nat} {p q : Option Addr} {n nc m mc : Nat} {es fs : List Ent} {zs ys : List Int} (h : PA w K p n nc es zs) (k : PA w L q m mc fs ys) (hn : n ≤ 1000000) (hm : m ≤ 1000000) :
    Calls Tryz.prog 12 #[.slice p n nc, .slice q m mc] w fun r w' => r = .returned (.bool (decide (tr zs = tr ys))) ∧ Below w.heap.size w w' := by
  have htl := tlen_le zs
  have htl' := tlen_le ys
  have hzl := h.zl
  have hyl := k.zl
  go_enter Tryz.func12, Tryz.ntmps12
  go_wp2_with fail
  refine (utrim_any K p n nc es zs _ h hn).mono ?_
  rintro e w1 ⟨rfl, hb1⟩
  go_wp2_with fail
  refine (utrim_any L q m mc fs ys _ (k.below hb1) hm).mono ?_
  rintro e w2 ⟨rfl, hb2⟩
  have h2 := ((h.below hb1).below hb2).trim
  have k2 := ((k.below hb1).below hb2).trim
  go_wp2_with fail
  refine (eqFunc_any h2 k2 (by omega) (by omega)).mono ?_
  rintro e w3 ⟨rfl, hb3⟩
  go_wp2
  go_ret
  exact ⟨rfl, bnext' (bnext' hb1 hb2) hb3⟩
end Go.Proofs.YtakfimhpnpapdaaGreatDoor
/-
  ashlarlaw3.begun.
-/
namespace Go.Proofs.YtakfimhpnpapdaaGreatDoor
open Go.RowKit Go.Shelf
set_option linter.unusedVariables false
set_option linter.unusedSimpArgs false
attribute [local go_sem] Oper.semAt_some

theorem eq_nilf (f : Fn) (a b : Array Value) (w : World) : (binOp .eql 51 (.func f a b) .nilFunc).run Tryz.prog w = .ok (.bool false) w := by
  have h : ∀ d : Nat, (Op.equalIn (d + 1) 51 (.func f a b) .nilFunc).run Tryz.prog w = .ok false w := fun d => by
    simp [Op.equalIn, run_underlying Tryz.underlying51]
  simp only [binOp]
  simp [Op.equal, Op.maxDepth, h 9999]
set_option maxHeartbeats 4000000 in
set_option maxRecDepth 100000 in
/-- ashlarlaw3.begun. -/
theorem begun3_any (w : World) : Calls Tryz.prog 6 #[] w fun r w' => r = .returned (.bool true) ∧ Below w.heap.size w w' := by
  refine (callsIn_wide (n := 5)).1 ?_
  refine callsIn_of_wp_marks Tryz.func6 rfl trivial ?_ rfl
  simp only [Tryz.ntmps6, List.size_toArray, List.length_cons, List.length_nil, Nat.reduceAdd, Nat.reduceSub, Array.replicate_succ, Array.replicate_zero, List.push_toArray, List.append_toArray, List.nil_append, List.cons_append]
  gi_wp2_with fail
  have hr0 : Rd (w.alloc (.cells #[.int .i64 1, .int .i64 2] 2)) (some ⟨w.heap.size, 0, none⟩) .i64 [1, 2] := fun _ => ⟨w.heap.size, 0, rfl, fun j hj => by
    rcases (show j = 0 ∨ j = 1 by simp at hj; omega) with rfl | rfl <;> simp [go_sem, gx]⟩
  have hal := bel_al (o := .cells #[.int .i64 1, .int .i64 2] 2) (Below.refl w.heap.size w)
  have hof := uOf_any _ 2 2 [1, 2] _ rfl (by decide) hr0 (fun j => by
    rcases (show j = 0 ∨ j = 1 ∨ 2 ≤ j by omega) with rfl | rfl | h
    · decide
    · decide
    · rw [gx_past [1, 2] 2 (by decide) j h]; decide)
  have e1 : tr [1, 2] = [1, 2] := by decide
  have e2 : tr [1, 4, 4] = [1, 4, 4] := by decide
  rw [e1] at hof
  generalize w.alloc (.cells #[.int .i64 1, .int .i64 2] 2) = W0 at *
  refine ⟨trivial, (callsIn_wide.2 hof).mono ?_⟩
  rintro r w1 ⟨p1, n1, es1, rfl, h1, hb1⟩
  obtain rfl : n1 = 2 := h1.zl.symm
  have hB1 := bnext' hal hb1
  have hpa1 := h1.pa (by decide) (by decide)
  have hmul := uMul_rows hpa1 hpa1 (by decide) (by decide) (by decide) (by decide) (by decide) (by decide) (by rw [e1]; decide) (by rw [e1]; decide) (by rw [e1]; decide)
  have e3 : mulz [1, 2] [1, 2] = [1, 4, 4] := by decide
  rw [e1, e3] at hmul
  clear hr0 hof hal hb1
  gi_wp2_with fail
  refine ⟨trivial, (callsIn_wide.2 hmul).mono ?_⟩
  rintro r w2 ⟨p2, n2, es2, rfl, h2, hb2⟩
  obtain rfl : n2 = 3 := h2.zl.symm
  have hB2 := bnext' hB1 hb2
  have hpa2 := h2.pa (by decide) (by decide)
  have hg := uGcd_start hpa2 (hpa1.below hb2) (by decide) (by decide) (by decide) (by decide)
  clear hmul
  gi_wp2_with fail
  refine ⟨trivial, (callsIn_wide.2 hg).mono ?_⟩
  rintro r w3 ⟨p3, n3, es3, rfl, h3, hb3⟩
  obtain rfl : n3 = 2 := h3.zl.symm
  have hB3 := bnext' hB2 hb3
  have hpa3 := h3.pa (by decide) (by decide)
  have hex := uExact_goes (qs := [1, 2]) (m' := 1) (k := 2) (M := 1) (hpa2.below hb3) ((hpa1.below hb2).below hb3) (by rw [e1, e2]; exact eg_start) (by decide) (by decide) (by decide) (by decide) (by decide)
  clear hg
  gi_wp2_with fail
  refine ⟨trivial, (callsIn_wide.2 hex).mono ?_⟩
  rintro r w4 ⟨p4, es4, rfl, l4, h4, f4, v4, hb4⟩
  have hB4 := bnext' hB3 hb4
  have hpa4 : PA w4 1 p4 2 2 es4 [1, 2] := ⟨l4, rfl, by decide, by decide, fun e => by subst e; obtain ⟨b, o, hp, -⟩ := h4 (by omega); exact absurd hp (by simp), h4, fun j hj => (v4 j hj).ev (by decide)⟩
  have hte := uTerms_any ((hpa2.below hb3).below hb4) (by decide) (by decide)
  rw [e2] at hte
  clear hex h4 f4 v4
  gi_wp2_with fail
  refine ⟨trivial, (callsIn_wide.2 hte).mono ?_⟩
  rintro r w5 ⟨g5, p5, n5, es5, rfl, c5, h5, hb5⟩
  obtain rfl : n5 = 3 := h5.zl.symm
  have hB5 := bnext' hB4 hb5
  have hpa5 := h5.pa (by decide) (by decide)
  have HP : Hid (PA w5 2 p1 2 2 es1 [1, 2] ∧ PA w5 5 p2 3 3 es2 [1, 4, 4] ∧ PA w5 3 p3 2 2 es3 [1, 2] ∧ PA w5 1 p4 2 2 es4 [1, 2] ∧ Below w.heap.size w w5) := ⟨(((hpa1.below hb2).below hb3).below hb4).below hb5, ((hpa2.below hb3).below hb4).below hb5, (hpa3.below hb4).below hb5, hpa4.below hb5, hB5⟩
  clear hte hpa1 hpa2 hpa3 hpa4 h1 h2 h3 h5 hb2 hb3 hb4 hb5 hB1 hB2 hB3 hB4 hB5
  have hnf := eq_nilf
  gi_wp2_with fail
  clear hnf
  have hs : (w5.alloc (.cells #[.int .i64 0] 3)).cell? ⟨w5.heap.size, 0, none⟩ = some (.int .i64 0) ∧ (w5.alloc (.cells #[.int .i64 0] 3)).frozen? ⟨w5.heap.size, 0, none⟩ = false := ⟨by simp [go_sem], by simp [go_sem]⟩
  have hB0 : Below w5.heap.size w5 (w5.alloc (.cells #[.int .i64 0] 3)) := (Below.refl _ _).alloc (Nat.le_refl _) _
  have hst := terms_stops (5 - 1) (by decide) g5 w5 hpa5 (by decide) (by decide) c5
  refine wpIn_rangeFunc_ownF rfl (by decide) (gf := 45) (lb := #[.pointer (some ⟨g5, 0, none⟩)]) rfl trivial (enters_of Tryz.func45 (by kernel_rfl) rfl)
    hst belowK_t (belowK_b (by simp)) hB0 (fun _ => rfl)
    (fun pre W => (W.cell? ⟨w5.heap.size, 0, none⟩ = some (.int .i64 (pre.length : Int)) ∧ W.frozen? ⟨w5.heap.size, 0, none⟩ = false) ∧ Below w5.heap.size w5 W)
    (fun _ _ _ => False)
    (OwnFrom.and (Own.from (fun s A B row hs hg hr => ⟨cell_kept hs.1 hg hr, (frozen_kept hs.1 hg hr).trans hs.2⟩) _) (ownFrom_below (Nat.le_refl _) (by simp)))
    (fun _ _ _ _ _ hs _ _ => hs)
    ⟨⟨hs.1, hs.2⟩, hB0⟩
    ?a1 ?assign ?body ?done ?stop
  case assign =>
    intro l x W K hK
    gi_wp2
    exact hK
  case body =>
    rintro l pre x W ⟨⟨hc, hf⟩, hB⟩ hlt
    gi_wp2
    exact ⟨KeepsOthers.setCell _ _ _, (Below.refl w5.heap.size W).setCell (p := ⟨w5.heap.size, 0, none⟩) (Nat.le_refl _) _, ⟨by rw [List.length_append]; exact World.cell?_setCell_same' _ _ _ (by rw [hc]; rfl), by rw [World.frozen?_setCell]; exact hf⟩, hB.setCell (p := ⟨w5.heap.size, 0, none⟩) (Nat.le_refl _) _⟩
  case done =>
    rintro D ys W hD hys ⟨⟨hc, _⟩, hB⟩ hK
    have hyl : ys.length = 3 := by
      have := congrArg List.length hys
      rw [List.length_map] at this
      rw [this]
      decide
    rw [hyl] at hc
    obtain ⟨a1, a2, a3, a4, hBw⟩ := HP.out
    have b1 := a1.below hB
    have b2 := a2.below hB
    have b3 := a3.below hB
    have b4 := a4.below hB
    have hBW := bnext' hBw hB
    have hDw : w.heap.size ≤ D := by have := hBw.size; simp at hD; omega
    clear HP a1 a2 a3 a4 hBw hB hys hyl hst hs hB0 c5 hpa5 hD e3
    have hdg := uDeg_any _ _ _ _ _ _ W b2 (by decide)
    rw [show ((tlen [1, 4, 4] : Int) - 1) = 2 from by decide] at hdg
    gi_wp2_with fail
    refine ⟨trivial, (callsIn_wide.2 hdg).mono ?_⟩
    rintro r x1 ⟨rfl, hx1⟩
    have h1 := uEq_any (b3.below hx1) (b1.below hx1) (by decide) (by decide)
    rw [decide_eq_true rfl] at h1
    clear hdg
    gi_wp2_with fail
    refine ⟨trivial, (callsIn_wide.2 h1).mono ?_⟩
    rintro r x2 ⟨rfl, hx2⟩
    have hX2 := bnext' hx1 hx2
    have h2 := uEq_any (b4.below hX2) (b1.below hX2) (by decide) (by decide)
    rw [decide_eq_true rfl] at h2
    clear h1
    gi_wp2_with fail
    refine ⟨trivial, (callsIn_wide.2 h2).mono ?_⟩
    rintro r x3 ⟨rfl, hx3⟩
    have hX3 := bnext' hX2 hx3
    have hc3 := cell_later hX3 hc
    have h3 := uAdd_any (b1.below hX3) (b2.below hX3) (by decide) (by decide) (by decide)
    rw [show tr (pz (· + ·) (tr [1, 2]) (tr [1, 4, 4])) = [2, 6, 4] from by decide] at h3
    clear h2
    gi_wp2_with fail
    refine ⟨trivial, (callsIn_wide.2 h3).mono ?_⟩
    rintro r x4 ⟨p6, n6, es6, rfl, h6, hx4⟩
    obtain rfl : n6 = 3 := h6.zl.symm
    have hX4 := bnext' hX3 hx4
    clear h3 h6
    gi_wp2_with fail
    have hR := Row2.new x4 29 (ezs 2)
    have ece : ca2 (ezs 2) = #[.bool false, .slice none 0 0, .bool false, .slice none 0 0] := rfl
    rw [ece] at hR
    have hal := bel_al (o := .cells #[.bool false, .slice none 0 0, .bool false, .slice none 0 0] 29) (Below.refl x4.heap.size x4)
    generalize x4.alloc (.cells #[.bool false, .slice none 0 0, .bool false, .slice none 0 0] 29) = X4 at *
    have hz : PA X4 1 (some ⟨x4.heap.size, 0, none⟩) 2 2 (ezs 2) (zeros 2) := ⟨rfl, rfl, Nat.le_refl _, by decide, fun e => by simp at e, hR.pl, fun j hj => by
      rw [gx_zeros, ge_ezs]
      exact (NV.ez 0 X4 1).ev (by decide)⟩
    have hnm := uNorm_any 1 _ _ _ _ _ X4 hz (by decide) (by decide)
    rw [show tr (zeros 2) = [] from by decide] at hnm
    clear hR ece hz
    refine ⟨trivial, (callsIn_wide.2 hnm).mono ?_⟩
    rintro r x5 ⟨p7, n7, es7, rfl, h7, hx5⟩
    obtain rfl : n7 = 0 := h7.zl.symm
    have hX5 := bnext' (bnext' hX4 hal) hx5
    have hDl : D < W.heap.size := (Array.getElem?_eq_some_iff.1 hK).1
    have hK5 : x5.heap[D]? = some (.deferred (some [])) := (hX5.block D hDl).trans hK
    have HF : Hid (Below w.heap.size w x5) := bnext' hBW hX5
    clear hnm h7 hX4 hal hx5 hX3 hc3 hX2 hx1 hx2 hx3 hx4 b1 b2 b3 b4 hBW hc
    gi_wp2
    refine ⟨by simp, .inl ⟨_, _, rfl, run_takeDeferred hK5, ?_⟩⟩
    exact ⟨_, results_tmp rfl _ _ _, rfl, HF.out.trans (belowK_b (w := w) (Nat.le_refl _) x5 D _ _ hDw hK5 rfl rfl)⟩
  case stop =>
    rintro D c pre W _ _ h _
    exact h.elim
end Go.Proofs.YtakfimhpnpapdaaGreatDoor
