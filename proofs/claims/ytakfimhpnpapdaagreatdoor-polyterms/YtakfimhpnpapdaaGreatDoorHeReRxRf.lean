/-
  ashlarlaw3.begun.
-/
import Derived.Test.YtakfimhpnpapdaaGreatDoorUoHcUh
import Derived.Test.YtakfimhpnpapdaaGreatDoorHdNa
import Derived.Test.YtakfimhpnpapdaaGreatDoorLeUkUi
import Derived.Test.YtakfimhpnpapdaaGreatDoorBeRd
import Derived.Test.YtakfimhpnpapdaaGreatDoorUbUcUdOwRa
import Derived.Test.YtakfimhpnpapdaaGreatDoorWlBxBbCvNj
namespace Go.Proofs.YtakfimhpnpapdaaGreatDoor
open Go.RowKit Go.Shelf
set_option linter.unusedVariables false
set_option linter.unusedSimpArgs false
attribute [local go_sem] Oper.semAt_some

theorem eq_nilf (f : Fn) (a b : Array Value) (w : World) : (binOp .eql 51 (.func f a b) .nilFunc).run Tryz.prog w = .ok (.bool false) w := by
  have h : ∀ d : Nat, (Op.equalIn (d + 1) 51 (.func f a b) .nilFunc).run Tryz.prog w = .ok false w := fun d => by
    simp [Op.equalIn, run_underlying Tryz.underlying51]
  simp only [binOp]
  simp [Op.equal, Op.maxDepth, h 9999]
set_option maxHeartbeats 4000000 in
set_option maxRecDepth 100000 in
/-- ashlarlaw3.begun. -/
theorem begun3_any (w : World) : Calls Tryz.prog 6 #[] w fun r w' => r = .returned (.bool true) ∧ Below w.heap.size w w' := by
  refine (callsIn_wide (n := 5)).1 ?_
  refine callsIn_of_wp_marks Tryz.func6 rfl trivial ?_ rfl
  simp only [Tryz.ntmps6, List.size_toArray, List.length_cons, List.length_nil, Nat.reduceAdd, Nat.reduceSub, Array.replicate_succ, Array.replicate_zero, List.push_toArray, List.append_toArray, List.nil_append, List.cons_append]
  gi_wp2_with fail
  have hr0 : Rd (w.alloc (.cells #[.int .i64 1, .int .i64 2] 2)) (some ⟨w.heap.size, 0, none⟩) .i64 [1, 2] := fun _ => ⟨w.heap.size, 0, rfl, fun j hj => by
    rcases (show j = 0 ∨ j = 1 by simp at hj; omega) with rfl | rfl <;> simp [go_sem, gx]⟩
  have hal := bel_al (o := .cells #[.int .i64 1, .int .i64 2] 2) (Below.refl w.heap.size w)
  have hof := uOf_any _ 2 2 [1, 2] _ rfl (by decide) hr0 (fun j => by
    rcases (show j = 0 ∨ j = 1 ∨ 2 ≤ j by omega) with rfl | rfl | h
    · decide
    · decide
    · rw [gx_past [1, 2] 2 (by decide) j h]; decide)
  have e1 : tr [1, 2] = [1, 2] := by decide
  have e2 : tr [1, 4, 4] = [1, 4, 4] := by decide
  rw [e1] at hof
  generalize w.alloc (.cells #[.int .i64 1, .int .i64 2] 2) = W0 at *
  refine ⟨trivial, (callsIn_wide.2 hof).mono ?_⟩
  rintro r w1 ⟨p1, n1, es1, rfl, h1, hb1⟩
  obtain rfl : n1 = 2 := h1.zl.symm
  have hB1 := bnext' hal hb1
  have hpa1 := h1.pa (by decide) (by decide)
  have hmul := uMul_rows hpa1 hpa1 (by decide) (by decide) (by decide) (by decide) (by decide) (by decide) (by rw [e1]; decide) (by rw [e1]; decide) (by rw [e1]; decide)
  have e3 : mulz [1, 2] [1, 2] = [1, 4, 4] := by decide
  rw [e1, e3] at hmul
  clear hr0 hof hal hb1
  gi_wp2_with fail
  refine ⟨trivial, (callsIn_wide.2 hmul).mono ?_⟩
  rintro r w2 ⟨p2, n2, es2, rfl, h2, hb2⟩
  obtain rfl : n2 = 3 := h2.zl.symm
  have hB2 := bnext' hB1 hb2
  have hpa2 := h2.pa (by decide) (by decide)
  have hg := uGcd_start hpa2 (hpa1.below hb2) (by decide) (by decide) (by decide) (by decide)
  clear hmul
  gi_wp2_with fail
  refine ⟨trivial, (callsIn_wide.2 hg).mono ?_⟩
  rintro r w3 ⟨p3, n3, es3, rfl, h3, hb3⟩
  obtain rfl : n3 = 2 := h3.zl.symm
  have hB3 := bnext' hB2 hb3
  have hpa3 := h3.pa (by decide) (by decide)
  have hex := uExact_goes (qs := [1, 2]) (m' := 1) (k := 2) (M := 1) (hpa2.below hb3) ((hpa1.below hb2).below hb3) (by rw [e1, e2]; exact eg_start) (by decide) (by decide) (by decide) (by decide) (by decide)
  clear hg
  gi_wp2_with fail
  refine ⟨trivial, (callsIn_wide.2 hex).mono ?_⟩
  rintro r w4 ⟨p4, es4, rfl, l4, h4, f4, v4, hb4⟩
  have hB4 := bnext' hB3 hb4
  have hpa4 : PA w4 1 p4 2 2 es4 [1, 2] := ⟨l4, rfl, by decide, by decide, fun e => by subst e; obtain ⟨b, o, hp, -⟩ := h4 (by omega); exact absurd hp (by simp), h4, fun j hj => (v4 j hj).ev (by decide)⟩
  have hte := uTerms_any ((hpa2.below hb3).below hb4) (by decide) (by decide)
  rw [e2] at hte
  clear hex h4 f4 v4
  gi_wp2_with fail
  refine ⟨trivial, (callsIn_wide.2 hte).mono ?_⟩
  rintro r w5 ⟨g5, p5, n5, es5, rfl, c5, h5, hb5⟩
  obtain rfl : n5 = 3 := h5.zl.symm
  have hB5 := bnext' hB4 hb5
  have hpa5 := h5.pa (by decide) (by decide)
  have HP : Hid (PA w5 2 p1 2 2 es1 [1, 2] ∧ PA w5 5 p2 3 3 es2 [1, 4, 4] ∧ PA w5 3 p3 2 2 es3 [1, 2] ∧ PA w5 1 p4 2 2 es4 [1, 2] ∧ Below w.heap.size w w5) := ⟨(((hpa1.below hb2).below hb3).below hb4).below hb5, ((hpa2.below hb3).below hb4).below hb5, (hpa3.below hb4).below hb5, hpa4.below hb5, hB5⟩
  clear hte hpa1 hpa2 hpa3 hpa4 h1 h2 h3 h5 hb2 hb3 hb4 hb5 hB1 hB2 hB3 hB4 hB5
  have hnf := eq_nilf
  gi_wp2_with fail
  clear hnf
  have hs : (w5.alloc (.cells #[.int .i64 0] 3)).cell? ⟨w5.heap.size, 0, none⟩ = some (.int .i64 0) ∧ (w5.alloc (.cells #[.int .i64 0] 3)).frozen? ⟨w5.heap.size, 0, none⟩ = false := ⟨by simp [go_sem], by simp [go_sem]⟩
  have hB0 : Below w5.heap.size w5 (w5.alloc (.cells #[.int .i64 0] 3)) := (Below.refl _ _).alloc (Nat.le_refl _) _
  have hst := terms_stops (5 - 1) (by decide) g5 w5 hpa5 (by decide) (by decide) c5
  refine wpIn_rangeFunc_ownF rfl (by decide) (gf := 45) (lb := #[.pointer (some ⟨g5, 0, none⟩)]) rfl trivial (enters_of Tryz.func45 (by kernel_rfl) rfl)
    hst belowK_t (belowK_b (by simp)) hB0 (fun _ => rfl)
    (fun pre W => (W.cell? ⟨w5.heap.size, 0, none⟩ = some (.int .i64 (pre.length : Int)) ∧ W.frozen? ⟨w5.heap.size, 0, none⟩ = false) ∧ Below w5.heap.size w5 W)
    (fun _ _ _ => False)
    (OwnFrom.and (Own.from (fun s A B row hs hg hr => ⟨cell_kept hs.1 hg hr, (frozen_kept hs.1 hg hr).trans hs.2⟩) _) (ownFrom_below (Nat.le_refl _) (by simp)))
    (fun _ _ _ _ _ hs _ _ => hs)
    ⟨⟨hs.1, hs.2⟩, hB0⟩
    ?a1 ?assign ?body ?done ?stop
  case assign =>
    intro l x W K hK
    gi_wp2
    exact hK
  case body =>
    rintro l pre x W ⟨⟨hc, hf⟩, hB⟩ hlt
    gi_wp2
    exact ⟨KeepsOthers.setCell _ _ _, (Below.refl w5.heap.size W).setCell (p := ⟨w5.heap.size, 0, none⟩) (Nat.le_refl _) _, ⟨by rw [List.length_append]; exact World.cell?_setCell_same' _ _ _ (by rw [hc]; rfl), by rw [World.frozen?_setCell]; exact hf⟩, hB.setCell (p := ⟨w5.heap.size, 0, none⟩) (Nat.le_refl _) _⟩
  case done =>
    rintro D ys W hD hys ⟨⟨hc, _⟩, hB⟩ hK
    have hyl : ys.length = 3 := by
      have := congrArg List.length hys
      rw [List.length_map] at this
      rw [this]
      decide
    rw [hyl] at hc
    obtain ⟨a1, a2, a3, a4, hBw⟩ := HP.out
    have b1 := a1.below hB
    have b2 := a2.below hB
    have b3 := a3.below hB
    have b4 := a4.below hB
    have hBW := bnext' hBw hB
    have hDw : w.heap.size ≤ D := by have := hBw.size; simp at hD; omega
    clear HP a1 a2 a3 a4 hBw hB hys hyl hst hs hB0 c5 hpa5 hD e3
    have hdg := uDeg_any _ _ _ _ _ _ W b2 (by decide)
    rw [show ((tlen [1, 4, 4] : Int) - 1) = 2 from by decide] at hdg
    gi_wp2_with fail
    refine ⟨trivial, (callsIn_wide.2 hdg).mono ?_⟩
    rintro r x1 ⟨rfl, hx1⟩
    have h1 := uEq_any (b3.below hx1) (b1.below hx1) (by decide) (by decide)
    rw [decide_eq_true rfl] at h1
    clear hdg
    gi_wp2_with fail
    refine ⟨trivial, (callsIn_wide.2 h1).mono ?_⟩
    rintro r x2 ⟨rfl, hx2⟩
    have hX2 := bnext' hx1 hx2
    have h2 := uEq_any (b4.below hX2) (b1.below hX2) (by decide) (by decide)
    rw [decide_eq_true rfl] at h2
    clear h1
    gi_wp2_with fail
    refine ⟨trivial, (callsIn_wide.2 h2).mono ?_⟩
    rintro r x3 ⟨rfl, hx3⟩
    have hX3 := bnext' hX2 hx3
    have hc3 := cell_later hX3 hc
    have h3 := uAdd_any (b1.below hX3) (b2.below hX3) (by decide) (by decide) (by decide)
    rw [show tr (pz (· + ·) (tr [1, 2]) (tr [1, 4, 4])) = [2, 6, 4] from by decide] at h3
    clear h2
    gi_wp2_with fail
    refine ⟨trivial, (callsIn_wide.2 h3).mono ?_⟩
    rintro r x4 ⟨p6, n6, es6, rfl, h6, hx4⟩
    obtain rfl : n6 = 3 := h6.zl.symm
    have hX4 := bnext' hX3 hx4
    clear h3 h6
    gi_wp2_with fail
    have hR := Row2.new x4 29 (ezs 2)
    have ece : ca2 (ezs 2) = #[.bool false, .slice none 0 0, .bool false, .slice none 0 0] := rfl
    rw [ece] at hR
    have hal := bel_al (o := .cells #[.bool false, .slice none 0 0, .bool false, .slice none 0 0] 29) (Below.refl x4.heap.size x4)
    generalize x4.alloc (.cells #[.bool false, .slice none 0 0, .bool false, .slice none 0 0] 29) = X4 at *
    have hz : PA X4 1 (some ⟨x4.heap.size, 0, none⟩) 2 2 (ezs 2) (zeros 2) := ⟨rfl, rfl, Nat.le_refl _, by decide, fun e => by simp at e, hR.pl, fun j hj => by
      rw [gx_zeros, ge_ezs]
      exact (NV.ez 0 X4 1).ev (by decide)⟩
    have hnm := uNorm_any 1 _ _ _ _ _ X4 hz (by decide) (by decide)
    rw [show tr (zeros 2) = [] from by decide] at hnm
    clear hR ece hz
    refine ⟨trivial, (callsIn_wide.2 hnm).mono ?_⟩
    rintro r x5 ⟨p7, n7, es7, rfl, h7, hx5⟩
    obtain rfl : n7 = 0 := h7.zl.symm
    have hX5 := bnext' (bnext' hX4 hal) hx5
    have hDl : D < W.heap.size := (Array.getElem?_eq_some_iff.1 hK).1
    have hK5 : x5.heap[D]? = some (.deferred (some [])) := (hX5.block D hDl).trans hK
    have HF : Hid (Below w.heap.size w x5) := bnext' hBW hX5
    clear hnm h7 hX4 hal hx5 hX3 hc3 hX2 hx1 hx2 hx3 hx4 b1 b2 b3 b4 hBW hc
    gi_wp2
    refine ⟨by simp, .inl ⟨_, _, rfl, run_takeDeferred hK5, ?_⟩⟩
    exact ⟨_, results_tmp rfl _ _ _, rfl, HF.out.trans (belowK_b (w := w) (Nat.le_refl _) x5 D _ _ hDw hK5 rfl rfl)⟩
  case stop =>
    rintro D c pre W _ _ h _
    exact h.elim
end Go.Proofs.YtakfimhpnpapdaaGreatDoor
/-
  ashlarref1.Eq, where both are the same.
-/
namespace Go.Proofs.YtakfimhpnpapdaaGreatDoor
open Go.RowKit
set_option linter.unusedVariables false
set_option linter.unusedSimpArgs false

set_option maxHeartbeats 1000000 in
/-- ashlarref1.Eq: the same. -/
theorem rEq_same (s : Bool) (p q : Option Addr) (n nc mc : Nat) (xs : List Int) (w : World) (hA : AI w p n nc xs) (hB : AI w q n mc xs) :
    Calls Tryz.prog 48 #[.agg #[.bool s, .slice p n nc], .agg #[.bool s, .slice q n mc]] w fun e w' => e = .returned (.bool true) ∧ Below w.heap.size w w' := by
  have hl := hA.len
  have hsm := hA.sml
  have hss : (s != s) = false := by cases s <;> rfl
  have hnn : ((n : Int) != (n : Int)) = false := by simp
  go_enter Tryz.func48, Tryz.ntmps48
  go_wp2
  have hX := boxes2 w (.bool s) (.slice p n nc) (.bool s) (.slice q n mc) 29 29
  generalize ((w.alloc (Obj.cells #[Value.bool s, Value.slice p n nc] 29)).alloc (Obj.cells #[Value.bool s, Value.slice q n mc] 29)) = W at *
  go_loopw [5] (fun iv wr => ∃ k : Nat, k ≤ n ∧ iv = .int .i64 k ∧ Hid (Below W.heap.size W wr)) (fun iv _ => n - (intOf iv).toNat)
  case atStart => exact ⟨0, Nat.zero_le _, rfl, Below.refl _ _⟩
  case round =>
    obtain ⟨k, hk, rfl, H⟩ := hrel
    have hXr := hX.later H.out
    have k1 := hXr.ca1
    have k3 := hXr.cb1
    by_cases hlt : k < n
    · have hltI : (k : Int) < (n : Int) := by omega
      obtain ⟨b1, o1, rfl, hc1⟩ := ((hA.below hX.below).rd.below H.out) (by omega)
      obtain ⟨b2, o2, rfl, hc2⟩ := ((hB.below hX.below).rd.below H.out) (by omega)
      have g1 := hc1 k (by omega)
      have g2 := hc2 k (by omega)
      have hq : (gx xs k != gx xs k) = false := by simp
      clear hc1 hc2 hXr
      go_wp2
      go_quiet (fail)
      go_wp2
      refine ⟨⟨k + 1, by omega, by go_num, below_drewN H.out nq⟩, by simp [intOf]; omega⟩
    · have hltI : ¬ (k : Int) < (n : Int) := by omega
      go_wp2
      go_ret
      exact ⟨rfl, hX.below.trans (H.out.mono hX.below.size)⟩

/-- ashlarref1.Eq of two answers with the same number. -/
theorem rEq_ni {B1 B2 : Nat} {w : World} {s t : Bool} {p q : Option Addr} {n m : Nat} {xs ys : List Int} {z : Int} (h : NI B1 w s p n xs z) (k : NI B2 w t q m ys z) (hn : n ≤ 1000) :
    Calls Tryz.prog 48 #[.agg #[.bool s, .slice p n n], .agg #[.bool t, .slice q m m]] w fun e w' => e = .returned (.bool true) ∧ Below w.heap.size w w' := by
  obtain ⟨rfl, rfl⟩ := nn_same h.nn k.nn
  obtain rfl : n = m := h.len.symm.trans k.len
  exact rEq_same s p q n n n xs w (h.ai (by omega)) (k.ai (by omega))
end Go.Proofs.YtakfimhpnpapdaaGreatDoor
/-
  Small rules for digits.
-/
namespace Go.Proofs.YtakfimhpnpapdaaGreatDoor
open Go.RowKit
set_option linter.unusedVariables false
set_option linter.unusedSimpArgs false

theorem info_int : (Tryz.prog.info? 3).map (fun i => (i.zero, i.size, i.bytes)) = some (some (.int .i64 0), 1, 8) := by kernel_rfl
theorem spl_snoc (xs : List Int) (k : Nat) (h : k < xs.length) : spl (xs.take (k + 1)) = spl (xs.take k) ++ [gx xs k % 65536, gx xs k / 65536] := by
  rw [take_snoc xs k h, spl_append]; rfl

theorem bel_alw {W x : World} {o : Obj} (h : Below W.heap.size W x) : Below W.heap.size W (x.alloc o) := h.alloc h.size o

end Go.Proofs.YtakfimhpnpapdaaGreatDoor
/-
  ashlarref1.To.
-/
namespace Go.Proofs.YtakfimhpnpapdaaGreatDoor
open Go.RowKit
set_option linter.unusedVariables false
set_option linter.unusedSimpArgs false

set_option maxRecDepth 100000 in
set_option maxHeartbeats 2000000 in
/-- ashlarref1.To. -/
theorem rTo_anyF (s : Bool) (p : Option Addr) (n nc : Nat) (ds : List Int) (w : World) (hl : ds.length = n) (hs : n ≤ 1000) (hX : Rd w p .i64 ds) (hU : U16 ds) :
    Calls Tryz.prog 49 #[.agg #[.bool s, .slice p n nc]] w fun e w' => ∃ p' m cap, e = .returned (.agg #[.bool s, .slice p' m cap]) ∧ AI w' p' m cap (jn ds m) ∧ Hid (m = (n + 1) / 2) ∧ Go.Proofs.YtakfimhpnpapdaaGreatDoor.From w.heap.size p' ∧ Below w.heap.size w w' := by
  obtain ⟨i0, hi, hzz⟩ := Option.map_eq_some_iff.1 info_u32
  simp only [Prod.mk.injEq] at hzz
  obtain ⟨hz0, hz1, hz2⟩ := hzz
  have HI : Hid (Tryz.prog.info? 26 = some i0 ∧ i0.zero = some (.int .u32 0) ∧ i0.size = 1 ∧ i0.bytes = 4) := ⟨hi, hz0, hz1, hz2⟩
  clear hi hz0 hz1 hz2
  go_enter Tryz.func49, Tryz.ntmps49
  go_wp2
  have hb1 : Bx ((w.alloc (.cells #[.bool s, .slice p n nc] 46)).alloc (.cells #[.bool false, .slice none 0 0] 29)) w.heap.size (.bool s) (.slice p n nc) := (Bx.new _ _ _ rfl).alloc _
  have hb2 : Bx ((w.alloc (.cells #[.bool s, .slice p n nc] 46)).alloc (.cells #[.bool false, .slice none 0 0] 29)) (w.heap.size + 1) (.bool false) (.slice none 0 0) := Bx.new _ _ _ (World.size_alloc ..).symm
  have hbw : Below w.heap.size w ((w.alloc (.cells #[.bool s, .slice p n nc] 46)).alloc (.cells #[.bool false, .slice none 0 0] 29)) := ((Below.refl _ _).alloc (Nat.le_refl _) _).alloc (by simp) _
  have hsz : ((w.alloc (.cells #[.bool s, .slice p n nc] 46)).alloc (.cells #[.bool false, .slice none 0 0] 29)).heap.size = w.heap.size + 1 + 1 := by simp
  generalize ((w.alloc (.cells #[.bool s, .slice p n nc] 46)).alloc (.cells #[.bool false, .slice none 0 0] 29)) = W at *
  have HS : Hid (W.heap.size = w.heap.size + 1 + 1) := hsz
  clear hsz
  have hXW := hX.below hbw
  go_loopw [3, 4, 5] (fun lv iv nv wr => ∃ (k : Nat), 2 * k ≤ n + 1 ∧ iv = .int .i64 ((2 * k : Nat) : Int) ∧ Hid (wr.ownsRow W.heap.size 26 1 lv k ((jn ds k).map (Value.int .u32)) ∧ Below W.heap.size W wr)) (fun _ iv _ _ => n + 2 - (intOf iv).toNat)
  case atStart => exact ⟨0, by omega, rfl, World.ownsRow_nil _ _ _ _, Below.refl _ _⟩
  case round =>
    obtain ⟨k, hk, rfl, H⟩ := hrel
    have hBr := H.out.2
    have hb1r := hb1.later hBr
    have hb2r := hb2.later hBr
    have k0 := hb1r.c0
    have k1 := hb1r.c1
    by_cases hlt : 2 * k < n
    · obtain ⟨b, off, rfl, hcell⟩ := (hXW.below hBr) (by omega)
      have hck := hcell (2 * k) (by omega)
      have hltI : 2 * (k : Int) < (n : Int) := by omega
      obtain ⟨x0, x1⟩ := hU (2 * k)
      obtain ⟨y0, y1⟩ := hU (2 * k + 1)
      obtain ⟨hi, hz0, hz1, hz2⟩ := HI.out
      have HO : Hid (wr.ownsRow W.heap.size 26 1 u3 k ((jn ds k).map (Value.int .u32))) := H.out.1
      by_cases hlt2 : 2 * k + 1 < n
      · have hck2 := hcell (2 * k + 1) (by omega)
        have hlt2I : 2 * (k : Int) + 1 < (n : Int) := by omega
        clear hcell
        go_wp2_with (refine wpList_append_lies _ rfl _ _ 27 rfl W.heap.size 26 i0 (.int .u32 0) 1 4 Tryz.underlying27 hi hz0 hz1 hz2 rfl (by decide) u3 k ((jn ds k).map (Value.int .u32)) rfl (HO.out.alloc _) ⟨wr.heap.size, 0, none⟩ 1 1 [.int .u32 (gx ds (2 * k) + gx ds (2 * k + 1) * 65536)] rfl rfl ?_ (fun x hx => by simp at hx; subst hx; rfl) (by decide) (by unfold maxLen; omega) (by omega) (by have := hBr.size; simp; omega) _ rfl ?_; exact World.news_of_block (heap_alloc_new wr _); intro g cap w3 hown3 hgrow3 hat3 hlt3; have hB3 : Below W.heap.size W w3 := (bel_alw hBr).grown hgrow3 (by have := hBr.size; simp; omega) (fun q hq => (HO.out.lt q hq).1))
        refine ⟨⟨k + 1, by omega, by go_num, ?_, hB3⟩, by simp [intOf]; omega⟩
        rw [jn_succ, List.map_append, Int.mul_comm 65536]
        exact hown3
      · have hlt2I : ¬ 2 * (k : Int) + 1 < (n : Int) := by omega
        clear hcell
        go_wp2_with (refine wpList_append_lies _ rfl _ _ 27 rfl W.heap.size 26 i0 (.int .u32 0) 1 4 Tryz.underlying27 hi hz0 hz1 hz2 rfl (by decide) u3 k ((jn ds k).map (Value.int .u32)) rfl (HO.out.alloc _) ⟨wr.heap.size, 0, none⟩ 1 1 [.int .u32 (gx ds (2 * k))] rfl rfl ?_ (fun x hx => by simp at hx; subst hx; rfl) (by decide) (by unfold maxLen; omega) (by omega) (by have := hBr.size; simp; omega) _ rfl ?_; exact World.news_of_block (heap_alloc_new wr _); intro g cap w3 hown3 hgrow3 hat3 hlt3; have hB3 : Below W.heap.size W w3 := (bel_alw hBr).grown hgrow3 (by have := hBr.size; simp; omega) (fun q hq => (HO.out.lt q hq).1))
        have hg0 : gx ds (2 * k + 1) = 0 := gx_past ds n (by omega) _ (by omega)
        refine ⟨⟨k + 1, by omega, by go_num, ?_, hB3⟩, by simp [intOf]; omega⟩
        rw [jn_succ, List.map_append, hg0, Int.mul_zero, Int.add_zero]
        exact hown3
    · have hltI : ¬ 2 * (k : Int) < (n : Int) := by omega
      have c0 := hb2r.c0
      have c1 := hb2r.c1
      have f0 := hb2r.f0
      have f1 := hb2r.f1
      have hform : ∃ q cap, u3 = .slice q k cap ∧ k ≤ cap ∧ cap ≤ maxLen ∧ Rd wr q .u32 (jn ds k) ∧ Go.Proofs.YtakfimhpnpapdaaGreatDoor.From W.heap.size q := by
        have hown := H.out.1
        rcases hown.2 with ⟨h1, h2⟩ | ⟨g, cap, cur, h1, hbg, _, h4, h5, _⟩
        · refine ⟨none, 0, by rw [h1, h2], by omega, Nat.zero_le _, ?_, from_none⟩
          have : jn ds k = [] := List.eq_nil_of_length_eq_zero (by rw [length_jn]; omega)
          rw [this]; exact Rd.nil
        · subst h1
          exact ⟨_, cap, rfl, h4, h5, rd_owns hown, from_new hbg⟩
      obtain ⟨q, cap, rfl, hq1, hq2, hq3, hq4⟩ := hform
      go_wp2
      have hsW := HS.out
      refine bodyPost_ret (v := .agg #[.bool s, .slice q k cap]) (by simp [results, Tryz.results49, go_sem, c0, c1]) rfl ?_
      refine ⟨q, k, cap, rfl, ⟨length_jn _ _, hq1, hq2, by omega, ?_, u32_jn hU k⟩, show k = (n + 1) / 2 by omega, fun a ha => by have := hq4 a ha; omega, ?_⟩
      · exact (hq3.set_other _ _ (fun a ha => by have := hq4 a ha; simp; omega)).set_other _ _ (fun a ha => by have := hq4 a ha; simp; omega)
      · exact ((hbw.trans (hBr.mono hbw.size)).setCell (by simp) _).setCell (by simp) _

theorem rTo_any (s : Bool) (p : Option Addr) (n nc : Nat) (ds : List Int) (w : World) (hl : ds.length = n) (hs : n ≤ 1000) (hX : Rd w p .i64 ds) (hU : U16 ds) :
    Calls Tryz.prog 49 #[.agg #[.bool s, .slice p n nc]] w fun e w' => ∃ p' m cap, e = .returned (.agg #[.bool s, .slice p' m cap]) ∧ AI w' p' m cap (jn ds m) ∧ Hid (m = (n + 1) / 2) ∧ Below w.heap.size w w' := by
  refine (rTo_anyF s p n nc ds w hl hs hX hU).mono ?_
  rintro e w' ⟨p', m, cap, h1, h2, h3, -, h5⟩
  exact ⟨p', m, cap, h1, h2, h3, h5⟩
/-- ashlarref1.Eq of an answer and of a number in normal form, both of the same number. -/
theorem rEq_nn {B1 : Nat} {w : World} {s t : Bool} {p q : Option Addr} {n m mc : Nat} {xs ys : List Int} {z : Int} (h : NI B1 w s p n xs z) (hA : AI w q m mc ys) (k : NN t ys z) (hn : n ≤ 1000) :
    Calls Tryz.prog 48 #[.agg #[.bool s, .slice p n n], .agg #[.bool t, .slice q m mc]] w fun e w' => e = .returned (.bool true) ∧ Below w.heap.size w w' := by
  obtain ⟨rfl, rfl⟩ := nn_same h.nn k
  obtain rfl : n = m := h.len.symm.trans hA.len
  exact rEq_same s p q n n mc xs w (h.ai (by omega)) hA

end Go.Proofs.YtakfimhpnpapdaaGreatDoor
