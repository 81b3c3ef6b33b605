/-
  ashlarlaw3.begun.
-/
import Derived.Test.YtkjpeehbhmcojaaGreatDoorUsHaHbHc
import Derived.Test.YtkjpeehbhmcojaaGreatDoorRtDhVeRsVfVcAjDqDrBmBqDuAkBrAlApAqNrNaHdNbFvOiDyEo
import Derived.Test.YtkjpeehbhmcojaaGreatDoorRkUiVq
import Derived.Test.YtkjpeehbhmcojaaGreatDoorUoDmVtAfBpBnBoAhAdBsDtAgWvUhAiRzVd
import Derived.Test.YtkjpeehbhmcojaaGreatDoorCyViDsAeVuWxUpUq
import Derived.Test.YtkjpeehbhmcojaaGreatDoorRmRpDkDlDbRiRjRg
import Derived.Test.YtkjpeehbhmcojaaGreatDoorBbCvNjUbUcUdOwRaWmBe
import Derived.Test.YtkjpeehbhmcojaaGreatDoorWkWlBx
namespace Go.Proofs.YtkjpeehbhmcojaaGreatDoor
open Go.RowKit Go.Shelf
set_option linter.unusedVariables false
set_option linter.unusedSimpArgs false
set_option maxHeartbeats 8000000
attribute [local go_sem] Oper.semAt_some
theorem eq_nilf (f : Fn) (a b : Array Value) (w : World) : (binOp .eql 42 (.func f a b) .nilFunc).run Tryz.prog w = .ok (.bool false) w := by
  have h : ∀ d : Nat, (Op.equalIn (d + 1) 42 (.func f a b) .nilFunc).run Tryz.prog w = .ok false w := fun d => by
    simp [Op.equalIn, run_underlying Tryz.underlying42]
  simp only [binOp]
  simp [Op.equal, Op.maxDepth, h 9999]
set_option maxRecDepth 100000 in
theorem begun3_any (w : World) : Calls Tryz.prog 5 #[] w fun r w' => r = .returned (.bool true) ∧ Below w.heap.size w w' := by
  refine (callsIn_wide (n := 5)).1 ?_
  refine callsIn_of_wp_marks Tryz.func5 rfl trivial ?_ rfl
  simp only [Tryz.ntmps5, List.size_toArray, List.length_cons, List.length_nil, Nat.reduceAdd, Nat.reduceSub, Array.replicate_succ, Array.replicate_zero, List.push_toArray, List.append_toArray, List.nil_append, List.cons_append]
  gi_wp2_with fail
  have hr0 : Rd (w.alloc (.cells #[.int .i64 1, .int .i64 2] 2)) (some ⟨w.heap.size, 0, none⟩) .i64 [1, 2] := fun _ => ⟨w.heap.size, 0, rfl, fun j hj => by
    rcases (show j = 0 ∨ j = 1 by simp at hj; omega) with rfl | rfl <;> simp [go_sem, gx]⟩
  have hal := bel_al (o := .cells #[.int .i64 1, .int .i64 2] 2) (Below.refl w.heap.size w)
  have hof := uOf_any _ 2 2 [1, 2] _ rfl (by decide) hr0 (fun j => by
    rcases (show j = 0 ∨ j = 1 ∨ 2 ≤ j by omega) with rfl | rfl | h
    · decide
    · decide
    · rw [gx_past [1, 2] 2 (by decide) j h]; decide)
  have e1 : tr [1, 2] = [1, 2] := by decide
  have e2 : tr [1, 4, 4] = [1, 4, 4] := by decide
  rw [e1] at hof
  generalize w.alloc (.cells #[.int .i64 1, .int .i64 2] 2) = W0 at *
  refine ⟨trivial, (callsIn_wide.2 hof).mono ?_⟩
  rintro r w1 ⟨p1, n1, es1, rfl, h1, hb1⟩
  obtain rfl : n1 = 2 := h1.zl.symm
  have hB1 := bnext' hal hb1
  have hpa1 := h1.pa (by decide) (by decide)
  have hmul := uMul_rows hpa1 hpa1 (by decide) (by decide) (by decide) (by decide) (by decide) (by decide) (by rw [e1]; decide) (by rw [e1]; decide) (by rw [e1]; decide)
  have e3 : mulz [1, 2] [1, 2] = [1, 4, 4] := by decide
  rw [e1, e3] at hmul
  clear hr0 hof hal hb1
  gi_wp2_with fail
  refine ⟨trivial, (callsIn_wide.2 hmul).mono ?_⟩
  rintro r w2 ⟨p2, n2, es2, rfl, h2, hb2⟩
  obtain rfl : n2 = 3 := h2.zl.symm
  have hB2 := bnext' hB1 hb2
  have hpa2 := h2.pa (by decide) (by decide)
  have hg := uGcd_start hpa2 (hpa1.below hb2) (by decide) (by decide) (by decide) (by decide)
  clear hmul
  gi_wp2_with fail
  refine ⟨trivial, (callsIn_wide.2 hg).mono ?_⟩
  rintro r w3 ⟨p3, n3, es3, rfl, h3, hb3⟩
  obtain rfl : n3 = 2 := h3.zl.symm
  have hB3 := bnext' hB2 hb3
  have hpa3 := h3.pa (by decide) (by decide)
  have hex := uExact_goes (qs := [1, 2]) (m' := 1) (k := 2) (M := 1) (hpa2.below hb3) ((hpa1.below hb2).below hb3) (by rw [e1, e2]; exact eg_start) (by decide) (by decide) (by decide) (by decide) (by decide)
  clear hg
  gi_wp2_with fail
  refine ⟨trivial, (callsIn_wide.2 hex).mono ?_⟩
  rintro r w4 ⟨p4, es4, rfl, l4, h4, f4, v4, hb4⟩
  have hB4 := bnext' hB3 hb4
  have hpa4 : PA w4 1 p4 2 2 es4 [1, 2] := ⟨l4, rfl, by decide, by decide, fun e => by subst e; obtain ⟨b, o, hp, -⟩ := h4 (by omega); exact absurd hp (by simp), h4, fun j hj => (v4 j hj).ev (by decide)⟩
  have hte := uTerms_any ((hpa2.below hb3).below hb4) (by decide) (by decide)
  rw [e2] at hte
  clear hex h4 f4 v4
  gi_wp2_with fail
  refine ⟨trivial, (callsIn_wide.2 hte).mono ?_⟩
  rintro r w5 ⟨g5, p5, n5, es5, rfl, c5, h5, hb5⟩
  obtain rfl : n5 = 3 := h5.zl.symm
  have hB5 := bnext' hB4 hb5
  have hpa5 := h5.pa (by decide) (by decide)
  have HP : Hid (PA w5 2 p1 2 2 es1 [1, 2] ∧ PA w5 5 p2 3 3 es2 [1, 4, 4] ∧ PA w5 3 p3 2 2 es3 [1, 2] ∧ PA w5 1 p4 2 2 es4 [1, 2] ∧ Below w.heap.size w w5) := ⟨(((hpa1.below hb2).below hb3).below hb4).below hb5, ((hpa2.below hb3).below hb4).below hb5, (hpa3.below hb4).below hb5, hpa4.below hb5, hB5⟩
  clear hte hpa1 hpa2 hpa3 hpa4 h1 h2 h3 h5 hb2 hb3 hb4 hb5 hB1 hB2 hB3 hB4 hB5
  have hnf := eq_nilf
  gi_wp2_with fail
  clear hnf
  have hs : (w5.alloc (.cells #[.int .i64 0] 3)).cell? ⟨w5.heap.size, 0, none⟩ = some (.int .i64 0) ∧ (w5.alloc (.cells #[.int .i64 0] 3)).frozen? ⟨w5.heap.size, 0, none⟩ = false := ⟨by simp [go_sem], by simp [go_sem]⟩
  have hB0 : Below w5.heap.size w5 (w5.alloc (.cells #[.int .i64 0] 3)) := (Below.refl _ _).alloc (Nat.le_refl _) _
  have hst := terms_stops (5 - 1) (by decide) g5 w5 hpa5 (by decide) (by decide) c5
  refine wpIn_rangeFunc_ownF rfl (by decide) (gf := 50) (lb := #[.pointer (some ⟨g5, 0, none⟩)]) rfl trivial (enters_of Tryz.func50 (by kernel_rfl) rfl)
    hst belowK_t (belowK_b (by simp)) hB0 (fun _ => rfl)
    (fun pre W => (W.cell? ⟨w5.heap.size, 0, none⟩ = some (.int .i64 (pre.length : Int)) ∧ W.frozen? ⟨w5.heap.size, 0, none⟩ = false) ∧ Below w5.heap.size w5 W)
    (fun _ _ _ => False)
    (OwnFrom.and (Own.from (fun s A B row hs hg hr => ⟨cell_kept hs.1 hg hr, (frozen_kept hs.1 hg hr).trans hs.2⟩) _) (ownFrom_below (Nat.le_refl _) (by simp)))
    (fun _ _ _ _ _ hs _ _ => hs)
    ⟨⟨hs.1, hs.2⟩, hB0⟩
    ?a1 ?assign ?body ?done ?stop
  case assign =>
    intro l x W K hK
    gi_wp2
    exact hK
  case body =>
    rintro l pre x W ⟨⟨hc, hf⟩, hB⟩ hlt
    gi_wp2
    exact ⟨KeepsOthers.setCell _ _ _, (Below.refl w5.heap.size W).setCell (p := ⟨w5.heap.size, 0, none⟩) (Nat.le_refl _) _, ⟨by rw [List.length_append]; exact World.cell?_setCell_same' _ _ _ (by rw [hc]; rfl), by rw [World.frozen?_setCell]; exact hf⟩, hB.setCell (p := ⟨w5.heap.size, 0, none⟩) (Nat.le_refl _) _⟩
  case done =>
    rintro D ys W hD hys ⟨⟨hc, _⟩, hB⟩ hK
    have hyl : ys.length = 3 := by
      have := congrArg List.length hys
      rw [List.length_map] at this
      rw [this]
      decide
    rw [hyl] at hc
    obtain ⟨a1, a2, a3, a4, hBw⟩ := HP.out
    have b1 := a1.below hB
    have b2 := a2.below hB
    have b3 := a3.below hB
    have b4 := a4.below hB
    have hBW := bnext' hBw hB
    have hDw : w.heap.size ≤ D := by have := hBw.size; simp at hD; omega
    clear HP a1 a2 a3 a4 hBw hB hys hyl hst hs hB0 c5 hpa5 hD e3
    have hdg := uDeg_any _ _ _ _ _ _ W b2 (by decide)
    rw [show ((tlen [1, 4, 4] : Int) - 1) = 2 from by decide] at hdg
    gi_wp2_with fail
    refine ⟨trivial, (callsIn_wide.2 hdg).mono ?_⟩
    rintro r x1 ⟨rfl, hx1⟩
    have h1 := uEq_any (b3.below hx1) (b1.below hx1) (by decide) (by decide)
    rw [decide_eq_true rfl] at h1
    clear hdg
    gi_wp2_with fail
    refine ⟨trivial, (callsIn_wide.2 h1).mono ?_⟩
    rintro r x2 ⟨rfl, hx2⟩
    have hX2 := bnext' hx1 hx2
    have h2 := uEq_any (b4.below hX2) (b1.below hX2) (by decide) (by decide)
    rw [decide_eq_true rfl] at h2
    clear h1
    gi_wp2_with fail
    refine ⟨trivial, (callsIn_wide.2 h2).mono ?_⟩
    rintro r x3 ⟨rfl, hx3⟩
    have hX3 := bnext' hX2 hx3
    have hc3 := cell_later hX3 hc
    have h3 := uAdd_any (b1.below hX3) (b2.below hX3) (by decide) (by decide) (by decide)
    rw [show tr (pz (· + ·) (tr [1, 2]) (tr [1, 4, 4])) = [2, 6, 4] from by decide] at h3
    clear h2
    gi_wp2_with fail
    refine ⟨trivial, (callsIn_wide.2 h3).mono ?_⟩
    rintro r x4 ⟨p6, n6, es6, rfl, h6, hx4⟩
    obtain rfl : n6 = 3 := h6.zl.symm
    have hX4 := bnext' hX3 hx4
    clear h3 h6
    gi_wp2_with fail
    have hR := Row2.new x4 47 (ezs 2)
    have ece : ca2 (ezs 2) = #[.bool false, .slice none 0 0, .bool false, .slice none 0 0] := rfl
    rw [ece] at hR
    have hal := bel_al (o := .cells #[.bool false, .slice none 0 0, .bool false, .slice none 0 0] 47) (Below.refl x4.heap.size x4)
    generalize x4.alloc (.cells #[.bool false, .slice none 0 0, .bool false, .slice none 0 0] 47) = X4 at *
    have hz : PA X4 1 (some ⟨x4.heap.size, 0, none⟩) 2 2 (ezs 2) (zeros 2) := ⟨rfl, rfl, Nat.le_refl _, by decide, fun e => by simp at e, hR.pl, fun j hj => by
      rw [gx_zeros, ge_ezs]
      exact (NV.ez 0 X4 1).ev (by decide)⟩
    have hnm := uNorm_any 1 _ _ _ _ _ X4 hz (by decide) (by decide)
    rw [show tr (zeros 2) = [] from by decide] at hnm
    clear hR ece hz
    refine ⟨trivial, (callsIn_wide.2 hnm).mono ?_⟩
    rintro r x5 ⟨p7, n7, es7, rfl, h7, hx5⟩
    obtain rfl : n7 = 0 := h7.zl.symm
    have hX5 := bnext' (bnext' hX4 hal) hx5
    have hDl : D < W.heap.size := (Array.getElem?_eq_some_iff.1 hK).1
    have hK5 : x5.heap[D]? = some (.deferred (some [])) := (hX5.block D hDl).trans hK
    have HF : Hid (Below w.heap.size w x5) := bnext' hBW hX5
    clear hnm h7 hX4 hal hx5 hX3 hc3 hX2 hx1 hx2 hx3 hx4 b1 b2 b3 b4 hBW hc
    gi_wp2
    refine ⟨by simp, .inl ⟨_, _, rfl, run_takeDeferred hK5, ?_⟩⟩
    exact ⟨_, results_tmp rfl _ _ _, rfl, HF.out.trans (belowK_b (w := w) (Nat.le_refl _) x5 D _ _ hDw hK5 rfl rfl)⟩
  case stop =>
    rintro D c pre W _ _ h _
    exact h.elim
open Go.RowKit
set_option maxRecDepth 100000 in
theorem rpLead_in {w : World} {N : Nat} {p : Option Addr} {n nc : Nat} {es : List Ent} {zs : List Int} (h : PR w N p n nc es zs) (hn1 : 1 ≤ n) (hn : n ≤ 1000000) :
    Calls Tryz.prog 33 #[.slice p n nc] w fun r w' => r = .returned (.agg #[.bool (ge es (n - 1)).s, .slice (ge es (n - 1)).p (ge es (n - 1)).n (ge es (n - 1)).c]) ∧ Below w.heap.size w w' := by
  obtain ⟨i, hi⟩ : ∃ i, i = n - 1 := ⟨_, rfl⟩
  rw [← hi]
  have hal := bel_al (o := .cells #[.bool false, .slice none 0 0] 50) (Below.refl w.heap.size w)
  have hX : Bx (w.alloc (.cells #[.bool false, .slice none 0 0] 50)) w.heap.size (.bool false) (.slice none 0 0) := Bx.new _ _ _ rfl
  have ha := rpAt_in (h.below hal) i (by omega) hn
  have i1 : (n : Int) - 1 = (i : Int) := by omega
  have i2 : IntKind.i64.wrap (i : Int) = (i : Int) := by rw [IntKind.wrap_i64]; omega
  clear h hi
  go_enter Tryz.func33, Tryz.ntmps33
  go_upto_region 1 with fail
  generalize w.alloc (.cells #[.bool false, .slice none 0 0] 50) = W at *
  go_wp2_with fail
  refine ha.mono ?_
  rintro r w1 ⟨rfl, hb1⟩
  obtain ⟨r0, r1, f0, f1⟩ := hX.later hb1
  clear ha hX
  go_wp2
  refine bodyPost_ret (v := .agg #[.bool (ge es i).s, .slice (ge es i).p (ge es i).n (ge es i).c]) (by simp [results, Tryz.results33, go_sem, r0, r1]) rfl ⟨rfl, ?_⟩
  exact bset2 (bnext' hal hb1) (Nat.le_refl _) _ _
def CutPost (s : Bool) (xs : List Int) (w : World) (e : Ending) (w' : World) : Prop :=
  ∃ p' n' nc', e = .returned (.agg #[.bool s, .slice p' n' nc']) ∧ AI w' p' n' nc' (xs.take 24) ∧ n' ≤ 24 ∧ From w.heap.size p' ∧ Below w.heap.size w w'
set_option maxRecDepth 100000 in
theorem Cut_some (s : Bool) (b off n nc k : Nat) (xs : List Int) (w : World) (hl : xs.length = n) (hnc : n ≤ nc) (hb : nc ≤ maxLen) (hX : Rd w (some ⟨b, off, none⟩) .u32 xs) (hU : U32 xs) (hk : k = min n 24) (hk0 : 0 < k) :
    Calls Tryz.prog 37 #[.agg #[.bool s, .slice (some ⟨b, off, none⟩) n nc]] w (CutPost s xs w) := by
  have hb' := hb
  unfold maxLen at hb'
  obtain ⟨i0, hi, hzz⟩ := Option.map_eq_some_iff.1 info_u32
  simp only [Prod.mk.injEq] at hzz
  obtain ⟨hz0, hz1, hz2⟩ := hzz
  have HI : Hid (Tryz.prog.info? 78 = some i0 ∧ i0.zero = some (.int .u32 0) ∧ i0.size = 1 ∧ i0.bytes = 4) := ⟨hi, hz0, hz1, hz2⟩
  clear hi hz0 hz1 hz2
  have HX : Hid (k = min n 24) := hk
  clear hk
  by_cases hn : 24 < n
  · have hn' : 24 < (n : Int) := by omega
    have h24 : (24 : Int) ≤ (nc : Int) := by omega
    have h24n : 24 ≤ nc := by omega
    have h24m : (24 : Int) ≤ (n : Int) := by omega
    obtain rfl : k = 24 := by have := HX.out; omega
    go_enter Tryz.func37, Tryz.ntmps37
    go_wp2
    have hb1 : Bx ((w.alloc (.cells #[.bool s, .slice (some ⟨b, off, none⟩) n nc] 47)).alloc (.cells #[.bool false, .slice none 0 0] 47)) w.heap.size (.bool s) (.slice (some ⟨b, off, none⟩) n nc) := (Bx.new _ _ _ rfl).alloc _
    have hb2 : Bx ((w.alloc (.cells #[.bool s, .slice (some ⟨b, off, none⟩) n nc] 47)).alloc (.cells #[.bool false, .slice none 0 0] 47)) (w.heap.size + 1) (.bool false) (.slice none 0 0) := Bx.new _ _ _ (World.size_alloc ..).symm
    have hbw : Below w.heap.size w ((w.alloc (.cells #[.bool s, .slice (some ⟨b, off, none⟩) n nc] 47)).alloc (.cells #[.bool false, .slice none 0 0] 47)) := ((Below.refl _ _).alloc (Nat.le_refl _) _).alloc (by simp) _
    have hsz : ((w.alloc (.cells #[.bool s, .slice (some ⟨b, off, none⟩) n nc] 47)).alloc (.cells #[.bool false, .slice none 0 0] 47)).heap.size = w.heap.size + 1 + 1 := by simp
    generalize ((w.alloc (.cells #[.bool s, .slice (some ⟨b, off, none⟩) n nc] 47)).alloc (.cells #[.bool false, .slice none 0 0] 47)) = W at *
    have HS : Hid (W.heap.size = w.heap.size + 1 + 1) := hsz
    clear hsz
    have k0 := hb1.c0
    have k1 := hb1.c1
    obtain ⟨hi, hz0, hz1, hz2⟩ := HI.out
    have hsrc : ∀ j v, ((xs.take 24).map (Value.int .u32))[j]? = some v → W.drew.cell? ((⟨b, off, none⟩ : Addr).add j) = some v := by
      obtain ⟨b', off', hp, hc⟩ := ((hX.below hbw).take 24).drew (by simp; omega)
      cases hp
      exact Rd.src hc
    go_region_held3 (fun w' => w'.cell? ⟨w.heap.size, 0, none⟩ = some (.bool s) ∧ w'.cell? ⟨w.heap.size, 1, none⟩ = some (.slice (some ⟨b, off, none⟩) n nc)) (first | (simp [go_sem, *]; done) | exact keepc2 (by assumption) (by assumption))
      (first
        | (refine step_append_lies _ rfl _ _ 45 rfl w.heap.size 78 i0 (.int .u32 0) 1 4 Tryz.underlying45 hi hz0 hz1 hz2 rfl (by decide) (.slice none 0 0) 0 [] rfl (World.ownsRow_nil _ _ _ _) ⟨b, off, none⟩ 24 nc ((xs.take 24).map (Value.int .u32)) rfl (by simp; omega) ?_ (oneCell_ca _ _) (by decide) (by unfold maxLen; decide) (by decide) hbw.size _ rfl ?_; exact hsrc; intro g cap w3 hown3 hgrow3 hat3 hlt3; have hb3 := below_of_grown (w := W.drew) hgrow3; obtain ⟨c0, c1, f0, f1⟩ := resbox (undrew hb3) hb2.c0 hb2.c1 hb2.f0 hb2.f1))
    go_wp2
    obtain rfl : g = W.heap.size := by rcases hat3 with h | h; cases h; exact h
    have hr3 : Rd w3 (some ⟨W.heap.size, 0, none⟩) .u32 (xs.take 24) := rd_owns (by simpa using hown3)
    have hs3 := HS.out
    have hcp : 24 ≤ cap ∧ cap ≤ maxLen := by
      rcases hown3.2 with ⟨h, _⟩ | ⟨g', cap', cur, h, _, _, h4, h5, _⟩
      · cases h
      · cases h; exact ⟨by omega, h5⟩
    refine bodyPost_ret (v := .agg #[.bool s, .slice (some ⟨W.heap.size, 0, none⟩) 24 cap]) (by simp [results, Tryz.results37, go_sem, c0, c1]) rfl ?_
    refine ⟨_, 24, cap, rfl, ⟨by simp; omega, hcp.1, hcp.2, by omega, ?_, u32_take hU 24⟩, by omega, from_new hbw.size, ?_⟩
    · skip
      exact (hr3.set_other _ _ (fun a ha => by cases ha; simp; omega)).set_other _ _ (fun a ha => by cases ha; simp; omega)
    · exact (((hbw.trans ((undrew hb3).mono hbw.size)).setCell (by simp) _).setCell (by simp) _)
  · have hn' : ¬ 24 < (n : Int) := by omega
    obtain rfl : k = n := by have := HX.out; omega
    have hkc : (k : Int) ≤ (nc : Int) := by omega
    have hk24 : k ≤ 24 := by omega
    go_enter Tryz.func37, Tryz.ntmps37
    go_wp2
    have hb1 : Bx ((w.alloc (.cells #[.bool s, .slice (some ⟨b, off, none⟩) k nc] 47)).alloc (.cells #[.bool false, .slice none 0 0] 47)) w.heap.size (.bool s) (.slice (some ⟨b, off, none⟩) k nc) := (Bx.new _ _ _ rfl).alloc _
    have hb2 : Bx ((w.alloc (.cells #[.bool s, .slice (some ⟨b, off, none⟩) k nc] 47)).alloc (.cells #[.bool false, .slice none 0 0] 47)) (w.heap.size + 1) (.bool false) (.slice none 0 0) := Bx.new _ _ _ (World.size_alloc ..).symm
    have hbw : Below w.heap.size w ((w.alloc (.cells #[.bool s, .slice (some ⟨b, off, none⟩) k nc] 47)).alloc (.cells #[.bool false, .slice none 0 0] 47)) := ((Below.refl _ _).alloc (Nat.le_refl _) _).alloc (by simp) _
    have hsz : ((w.alloc (.cells #[.bool s, .slice (some ⟨b, off, none⟩) k nc] 47)).alloc (.cells #[.bool false, .slice none 0 0] 47)).heap.size = w.heap.size + 1 + 1 := by simp
    generalize ((w.alloc (.cells #[.bool s, .slice (some ⟨b, off, none⟩) k nc] 47)).alloc (.cells #[.bool false, .slice none 0 0] 47)) = W at *
    have HS : Hid (W.heap.size = w.heap.size + 1 + 1) := hsz
    clear hsz
    have k0 := hb1.c0
    have k1 := hb1.c1
    obtain ⟨hi, hz0, hz1, hz2⟩ := HI.out
    have hsrc : ∀ j v, ((xs.take k).map (Value.int .u32))[j]? = some v → W.drew.cell? ((⟨b, off, none⟩ : Addr).add j) = some v := by
      obtain ⟨b', off', hp, hc⟩ := ((hX.below hbw).take k).drew (by simp; omega)
      cases hp
      exact Rd.src hc
    go_region_held3 (fun w' => w'.cell? ⟨w.heap.size, 0, none⟩ = some (.bool s) ∧ w'.cell? ⟨w.heap.size, 1, none⟩ = some (.slice (some ⟨b, off, none⟩) k nc)) (first | (simp [go_sem, *]; done) | exact keepc2 (by assumption) (by assumption))
      (first
        | (refine step_append_lies _ rfl _ _ 45 rfl w.heap.size 78 i0 (.int .u32 0) 1 4 Tryz.underlying45 hi hz0 hz1 hz2 rfl (by decide) (.slice none 0 0) 0 [] rfl (World.ownsRow_nil _ _ _ _) ⟨b, off, none⟩ k nc ((xs.take k).map (Value.int .u32)) rfl (by simp; omega) ?_ (oneCell_ca _ _) hk0 (by unfold maxLen; omega) (by omega) hbw.size _ rfl ?_; exact hsrc; intro g cap w3 hown3 hgrow3 hat3 hlt3; have hb3 := below_of_grown (w := W.drew) hgrow3; obtain ⟨c0, c1, f0, f1⟩ := resbox (undrew hb3) hb2.c0 hb2.c1 hb2.f0 hb2.f1))
    go_wp2
    obtain rfl : g = W.heap.size := by rcases hat3 with h | h; cases h; exact h
    have hr3 : Rd w3 (some ⟨W.heap.size, 0, none⟩) .u32 (xs.take k) := rd_owns (by simpa using hown3)
    have hs3 := HS.out
    have hcp : k ≤ cap ∧ cap ≤ maxLen := by
      rcases hown3.2 with ⟨h, _⟩ | ⟨g', cap', cur, h, _, _, h4, h5, _⟩
      · cases h
      · cases h; exact ⟨by omega, h5⟩
    refine bodyPost_ret (v := .agg #[.bool s, .slice (some ⟨W.heap.size, 0, none⟩) k cap]) (by simp [results, Tryz.results37, go_sem, c0, c1]) rfl ?_
    refine ⟨_, k, cap, rfl, ⟨by simp; omega, hcp.1, hcp.2, by omega, ?_, u32_take hU 24⟩, by omega, from_new hbw.size, ?_⟩
    · rw [List.take_of_length_le (l := xs) (i := k) (by omega)] at hr3
      rw [List.take_of_length_le (l := xs) (i := 24) (by omega)]
      exact (hr3.set_other _ _ (fun a ha => by cases ha; simp; omega)).set_other _ _ (fun a ha => by cases ha; simp; omega)
    · exact (((hbw.trans ((undrew hb3).mono hbw.size)).setCell (by simp) _).setCell (by simp) _)
theorem app_none (ty : TypeId) (q : Option Addr) (c : Nat) (w : World) : (Builtin.append_ #[45, 45] ty #[.slice none 0 0, .slice q 0 c]).run Tryz.prog w = .ok (.slice none 0 0) w := by
  obtain ⟨i0, hi, hzz⟩ := Option.map_eq_some_iff.1 info_u32
  cases q <;> simp [Builtin.append_, run_underlying Tryz.underlying45, sizeOf, typeInfo, hi, Builtin.lenOf, Builtin.firstCells, loadCells, loadCellsFrom]
set_option maxRecDepth 100000 in
theorem Cut_none1 (s : Bool)  (w : World) :
    Calls Tryz.prog 37 #[.agg #[.bool s, .slice none 0 0]] w (CutPost s [] w) := by
  have ha := fun ty w => app_none ty none 0 w
  go_enter Tryz.func37, Tryz.ntmps37
  go_wp2
  have hb1 : Bx ((w.alloc (.cells #[.bool s, .slice none 0 0] 47)).alloc (.cells #[.bool false, .slice none 0 0] 47)) w.heap.size (.bool s) (.slice none 0 0) := (Bx.new _ _ _ rfl).alloc _
  have hb2 : Bx ((w.alloc (.cells #[.bool s, .slice none 0 0] 47)).alloc (.cells #[.bool false, .slice none 0 0] 47)) (w.heap.size + 1) (.bool false) (.slice none 0 0) := Bx.new _ _ _ (World.size_alloc ..).symm
  have hbw : Below w.heap.size w ((w.alloc (.cells #[.bool s, .slice none 0 0] 47)).alloc (.cells #[.bool false, .slice none 0 0] 47)) := ((Below.refl _ _).alloc (Nat.le_refl _) _).alloc (by simp) _
  generalize ((w.alloc (.cells #[.bool s, .slice none 0 0] 47)).alloc (.cells #[.bool false, .slice none 0 0] 47)) = W at *
  have k0 := hb1.c0
  have k1 := hb1.c1
  have c0 := hb2.c0
  have c1 := hb2.c1
  have f0 := hb2.f0
  have f1 := hb2.f1
  go_region_held3 (fun w' => w'.cell? ⟨w.heap.size, 0, none⟩ = some (.bool s) ∧ w'.cell? ⟨w.heap.size, 1, none⟩ = some (.slice none 0 0)) (first | (simp [go_sem, *]; done) | exact keepc2 (by assumption) (by assumption)) (fail)
  go_wp2
  refine bodyPost_ret (v := .agg #[.bool s, .slice none 0 0]) (by simp [results, Tryz.results37, go_sem, c0, c1]) rfl ?_
  exact ⟨none, 0, 0, rfl, ⟨rfl, Nat.le_refl _, by unfold maxLen; decide, by decide, Rd.nil, u32_nil⟩, by decide, from_none, (hbw.drew.setCell (by simp) _).setCell (by simp) _⟩
set_option maxRecDepth 100000 in
theorem Cut_none2 (s : Bool) (a : Addr) (nc : Nat) (w : World) (hb : nc ≤ maxLen) :
    Calls Tryz.prog 37 #[.agg #[.bool s, .slice (some a) 0 nc]] w (CutPost s [] w) := by
  have hb' := hb
  unfold maxLen at hb'
  have ha := fun ty w => app_none ty (some a) nc w
  have hnc0 : (0 : Int) ≤ (nc : Int) := by omega
  go_enter Tryz.func37, Tryz.ntmps37
  go_wp2
  have hb1 : Bx ((w.alloc (.cells #[.bool s, .slice (some a) 0 nc] 47)).alloc (.cells #[.bool false, .slice none 0 0] 47)) w.heap.size (.bool s) (.slice (some a) 0 nc) := (Bx.new _ _ _ rfl).alloc _
  have hb2 : Bx ((w.alloc (.cells #[.bool s, .slice (some a) 0 nc] 47)).alloc (.cells #[.bool false, .slice none 0 0] 47)) (w.heap.size + 1) (.bool false) (.slice none 0 0) := Bx.new _ _ _ (World.size_alloc ..).symm
  have hbw : Below w.heap.size w ((w.alloc (.cells #[.bool s, .slice (some a) 0 nc] 47)).alloc (.cells #[.bool false, .slice none 0 0] 47)) := ((Below.refl _ _).alloc (Nat.le_refl _) _).alloc (by simp) _
  generalize ((w.alloc (.cells #[.bool s, .slice (some a) 0 nc] 47)).alloc (.cells #[.bool false, .slice none 0 0] 47)) = W at *
  have k0 := hb1.c0
  have k1 := hb1.c1
  have c0 := hb2.c0
  have c1 := hb2.c1
  have f0 := hb2.f0
  have f1 := hb2.f1
  go_region_held3 (fun w' => w'.cell? ⟨w.heap.size, 0, none⟩ = some (.bool s) ∧ w'.cell? ⟨w.heap.size, 1, none⟩ = some (.slice (some a) 0 nc)) (first | (simp [go_sem, *]; done) | exact keepc2 (by assumption) (by assumption)) (fail)
  go_wp2
  refine bodyPost_ret (v := .agg #[.bool s, .slice none 0 0]) (by simp [results, Tryz.results37, go_sem, c0, c1]) rfl ?_
  exact ⟨none, 0, 0, rfl, ⟨rfl, Nat.le_refl _, by unfold maxLen; decide, by decide, Rd.nil, u32_nil⟩, by decide, from_none, (hbw.drew.setCell (by simp) _).setCell (by simp) _⟩
theorem Cut_any (s : Bool) (p : Option Addr) (n nc : Nat) (xs : List Int) (w : World) (hl : xs.length = n) (hnc : n ≤ nc) (hb : nc ≤ maxLen) (hX : Rd w p .u32 xs) (hU : U32 xs) (hp : p = none → nc = 0) :
    Calls Tryz.prog 37 #[.agg #[.bool s, .slice p n nc]] w (CutPost s xs w) := by
  rcases Nat.eq_zero_or_pos n with h | h
  · subst h
    obtain rfl : xs = [] := List.eq_nil_of_length_eq_zero hl
    cases p with
    | none => rw [hp rfl]; exact Cut_none1 s w
    | some a => exact Cut_none2 s a nc w hb
  · obtain ⟨b, off, rfl, _⟩ := hX (by omega)
    exact Cut_some s b off n nc (min n 24) xs w hl hnc hb hX hU rfl (by omega)
end Go.Proofs.YtkjpeehbhmcojaaGreatDoor
