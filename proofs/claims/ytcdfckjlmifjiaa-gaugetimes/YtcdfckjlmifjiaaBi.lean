/-
  GaugeTimes' walk.
-/
import Derived.Test.YtcdfckjlmifjiaaBc
import Derived.Test.YtcdfckjlmifjiaaDx
import Derived.Test.YtcdfckjlmifjiaaKk
import Derived.Test.YtcdfckjlmifjiaaOw
import Derived.Deep.DeepFit
import Derived.Deep.DeepCutAuto
namespace Go.Proofs.Ytcdfckjlmifjiaa
open Go.RowKit
set_option linter.unusedVariables false
set_option linter.unusedSimpArgs false

set_option maxHeartbeats 1000000 in
/-- gauge.Times. -/
theorem gTimes_any {w : World} {p : Option Addr} {n nc : Nat} {xs : List Int} (hl : xs.length = n) (hX : Rd w p .i64 xs) (hn : n ≤ 1000000) (hx : ∀ j, j < n → gx xs j ≤ 9223372036854775807) :
    Calls Try.prog 21 #[.slice p n nc] w fun e w' => e = .returned (.int .i64 (tms xs)) ∧ Below w.heap.size w w' := by
  have hc := eTimes_any (nc := nc) hl hX hn hx
  clear hX hx hl
  generalize tms xs = v at *
  go_enter Try.func21, Try.ntmps21
  go_wp2_with fail
  go_fit hc
  rintro e w1 ⟨rfl, hb⟩
  clear hc
  go_wp2
  go_ret
  exact ⟨rfl, hb⟩
theorem info_int9 : (Try.prog.info? 3).map (fun i => (i.zero, i.size, i.bytes)) = some (some (.int .i64 0), 1, 8) := by kernel_rfl
theorem bnextT {a b c : World} (h : Below a.heap.size a b) (k : Below b.heap.size b c) : Below a.heap.size a c := h.trans (k.mono h.size)
theorem gx_rev (xs : List Int) (j : Nat) (h : j < xs.length) : gx xs.reverse j = gx xs (xs.length - 1 - j) := by
  rw [gx_mem _ _ (by simpa using h), gx_mem _ _ (by omega), List.getElem_reverse]
theorem owns_rd {w : World} {base n : Nat} {t : TypeId} {v : Value} {xs : List Int} (h : w.ownsRow base t 1 v n (xs.map (Value.int .i64))) (hl : xs.length = n) : ∃ q cap, v = .slice q n cap ∧ Rd w q .i64 xs := by
  rcases h.2 with ⟨h1, h2⟩ | ⟨g, cap, cur, h1, h2, h3, h4, h5, _⟩
  · exact ⟨none, 0, by rw [h1, h2], fun hx => by omega⟩
  · subst h1
    exact ⟨some ⟨g, 0, none⟩, cap, rfl, rd_owns h⟩
theorem drop_rev (xs : List Int) (j : Nat) (h : j < xs.length) : (xs.drop j).reverse = (xs.drop (j + 1)).reverse ++ [gx xs j] := by
  rw [List.drop_eq_getElem_cons h, List.reverse_cons, gx_mem xs j h]
set_option maxHeartbeats 4000000 in
set_option maxRecDepth 100000 in
theorem GaugeTimes_walk {w : World} {p : Option Addr} {n nc : Nat} {xs : List Int} (hl : xs.length = n) (hnc : n ≤ nc) (hb : nc ≤ maxLen) (hX : Rd w p .i64 xs) (hx : ∀ j, -9223372036854775808 ≤ gx xs j ∧ gx xs j ≤ 9223372036854775807) :
    Calls Try.prog 4 #[.slice p n nc] w fun e w' => e = .returned (.bool true) ∧ Below w.heap.size w w' := by
  obtain ⟨i0, hi, hzz⟩ := Option.map_eq_some_iff.1 info_int9
  simp only [Prod.mk.injEq] at hzz
  obtain ⟨hz0, hz1, hz2⟩ := hzz
  have HI : Hid (Try.prog.info? 3 = some i0 ∧ i0.zero = some (.int .i64 0) ∧ i0.size = 1 ∧ i0.bytes = 8) := ⟨hi, hz0, hz1, hz2⟩
  clear hi hz0 hz1 hz2
  have HX : Hid (xs.length = n ∧ Rd w p .i64 xs ∧ ∀ j, gx xs j ≤ 9223372036854775807) := ⟨hl, hX, fun j => (hx j).2⟩
  clear hl hX hx
  unfold maxLen at hb
  rcases Nat.lt_or_ge 50 n with h50 | h50
  · obtain ⟨b0, o0, hp0, hc0⟩ := HX.out.2.1 (by have := HX.out.1; omega)
    subst hp0
    have i1 : (50 : Int) < (n : Int) := by omega
    have i2 : (50 : Int) ≤ (nc : Int) := by omega
    obtain ⟨ys, HY⟩ : ∃ ys : List Int, Hid (ys.length = 50 ∧ Rd w (some ⟨b0, o0, none⟩) .i64 ys ∧ ∀ j, gx ys j ≤ 9223372036854775807) := by
      obtain ⟨h1, h2, h3⟩ := HX.out
      refine ⟨xs.take 50, by simp; omega, h2.take 50, fun j => ?_⟩
      rcases Nat.lt_or_ge j 50 with h | h
      · rw [gx_take _ _ _ h]; exact h3 j
      · rw [gx_past _ 50 (by simp; omega) j h]; decide
    clear HX hc0
    go_enter Try.func4, Try.ntmps4
    go_wp2_with fail
    go_fit (begun9_any w)
    rintro e w1 ⟨rfl, hb1⟩
    have HB1 : Hid (Below w.heap.size w w1) := hb1
    clear hb1
    go_wp2_with fail
    go_loopw [4, 5] (fun bv iv wr => ∃ k : Nat, k ≤ 50 ∧ iv = .int .i64 ((k : Int) - 1) ∧ Hid (wr.ownsRow w.heap.size 3 1 bv (50 - k) (((ys.drop k).reverse).map (Value.int .i64)) ∧ Below w.heap.size w wr)) (fun _ iv _ => (intOf iv + 1).toNat)
    case atStart => exact ⟨50, Nat.le_refl _, by go_num, by rw [Nat.sub_self, List.drop_of_length_le (by rw [HY.out.1]; exact Nat.le_refl _)]; exact World.ownsRow_nil _ _ _ _, HB1.out⟩
    case round =>
      obtain ⟨k, hk, rfl, H⟩ := hrel
      rcases Nat.eq_zero_or_pos k with h0 | h0
      · subst h0
        obtain ⟨q, cap, hv, hR⟩ := owns_rd H.out.1 (by rw [List.length_reverse, List.length_drop, HY.out.1])
        rw [Nat.sub_zero] at hv
        rw [List.drop_zero] at hR
        subst hv
        obtain ⟨hl, hX, hx⟩ := HY.out
        have t1 := fun w' (hb : Below w.heap.size w w') => gTimes_any (nc := nc) hl (hX.below hb) (by omega) (fun j _ => hx j)
        have t2 := fun w' (hb : Below w.heap.size w w') => rTimes_any (nc := nc) hl (hX.below hb) (by omega)
        have t3 := fun w' (hb : Below wr.heap.size wr w') => gTimes_any (nc := cap) (show ys.reverse.length = 50 by rw [List.length_reverse]; exact hl) (hR.below hb) (by omega) (fun j hj => by rw [gx_rev ys j (by omega)]; exact hx _)
        rw [tms_rev] at t3
        obtain ⟨d1, d2⟩ := tms_bd ys 1 (by decide) (by decide)
        have d1' : 1 ≤ tms ys := d1
        have d2' : tms ys ≤ 4611686018427387904 := d2
        have HBW : Hid (Below w.heap.size w wr) := H.out.2
        clear d1 d2 hl hX hx hR H
        generalize tms ys = t at *
        have t1' := t1 wr HBW.out
        go_wp2_with fail
        go_fit t1'
        rintro e w2 ⟨rfl, hb2⟩
        have hB2 := bnextT HBW.out hb2
        have t2' := t2 w2 hB2
        go_wp2_with fail
        go_fit t2'
        rintro e w3 ⟨rfl, hw⟩
        subst w3
        have t3' := t3 w2 hb2
        go_wp2_with fail
        go_fit t3'
        rintro e w4 ⟨rfl, hb4⟩
        have HBE : Hid (Below w.heap.size w w4) := bnextT hB2 hb4
        clear t1 t2 t3 t1' t2' t3' hb2 hB2 hb4
        go_wp2
        go_ret
        exact ⟨rfl, HBE.out⟩
      · obtain ⟨j, rfl⟩ : ∃ j, k = j + 1 := ⟨k - 1, by omega⟩
        obtain ⟨hl, hX, hx⟩ := HY.out
        obtain ⟨b, o, hp, hc⟩ := (hX.below H.out.2) (by omega)
        have c0 := hc j (by omega)
        have HD : Hid ((ys.drop j).reverse = (ys.drop (j + 1)).reverse ++ [gx ys j]) := drop_rev ys j (by omega)
        cases hp
        obtain ⟨hi, hz0, hz1, hz2⟩ := HI.out
        have HO : Hid (wr.ownsRow w.heap.size 3 1 u4 (50 - (j + 1)) (((ys.drop (j + 1)).reverse).map (Value.int .i64))) := H.out.1
        have hsz : w.heap.size ≤ wr.heap.size := H.out.2.size
        have j1 : ¬ ((j : Int) + 1 - 1 < 0) := by omega
        have j2 : (0 : Int) ≤ (j : Int) + 1 - 1 := by omega
        have j3 : (j : Int) < (50 : Int) := by omega
        have v1 : wrap64 ((j : Int) + 1 - 1 - 1) = (j : Int) - 1 := by unfold wrap64; omega
        have v2 : (j : Int) + 1 - 1 = (j : Int) := by omega
        clear hl hX hx hc
        generalize gx ys j = y at *
        go_wp2_with (refine wpList_append_lies _ rfl _ _ 38 rfl w.heap.size 3 i0 (.int .i64 0) 1 8 Try.underlying38 hi hz0 hz1 hz2 rfl (by decide) u4 (50 - (j + 1)) (((ys.drop (j + 1)).reverse).map (Value.int .i64)) rfl (HO.out.alloc _) ⟨wr.heap.size, 0, none⟩ 1 1 [.int .i64 y] rfl rfl ?_ (fun x hx => by simp at hx; subst hx; rfl) (by decide) (by unfold maxLen; omega) (by omega) (by simp; omega) _ rfl ?_; exact World.news_of_block (heap_alloc_new wr _); intro g cap w3 hown3 hgrow3 hat3 hlt3; have hB3 : Below w.heap.size w w3 := (H.out.2.alloc hsz _).grown hgrow3 (by simp; omega) (fun q hq => (HO.out.lt q hq).1); have HA : Hid (w3.ownsRow w.heap.size 3 1 (.slice (some ⟨g, 0, none⟩) (50 - (j + 1) + 1) cap) (50 - (j + 1) + 1) (((ys.drop (j + 1)).reverse).map (Value.int .i64) ++ [.int .i64 y])) := hown3; clear hown3 hgrow3 hat3)
        refine ⟨⟨j, by omega, by first | rfl | go_num, ?_, hB3⟩, by simp [intOf]⟩
        have hh := HA.out
        rw [show 50 - (j + 1) + 1 = 50 - j by omega] at hh
        rw [HD.out, List.map_append]
        first
          | exact hh
          | (rw [show 49 - j + 1 = 50 - j by omega]; exact hh)
  · have i1 : ¬ (50 : Int) < (n : Int) := by omega
    obtain ⟨ys, HY⟩ : ∃ ys : List Int, Hid (ys.length = n ∧ Rd w p .i64 ys ∧ ∀ j, gx ys j ≤ 9223372036854775807) := ⟨xs, HX.out⟩
    clear HX
    have w0 : wrap64 ((n : Int) - 1) = (n : Int) - 1 := by unfold wrap64; omega
    go_enter Try.func4, Try.ntmps4
    go_wp2_with fail
    go_fit (begun9_any w)
    rintro e w1 ⟨rfl, hb1⟩
    have HB1 : Hid (Below w.heap.size w w1) := hb1
    clear hb1
    go_wp2_with fail
    go_loopw [4, 5] (fun bv iv wr => ∃ k : Nat, k ≤ n ∧ iv = .int .i64 ((k : Int) - 1) ∧ Hid (wr.ownsRow w.heap.size 3 1 bv (n - k) (((ys.drop k).reverse).map (Value.int .i64)) ∧ Below w.heap.size w wr)) (fun _ iv _ => (intOf iv + 1).toNat)
    case atStart => exact ⟨n, Nat.le_refl _, by go_num, by rw [Nat.sub_self, List.drop_of_length_le (by rw [HY.out.1]; exact Nat.le_refl _)]; exact World.ownsRow_nil _ _ _ _, HB1.out⟩
    case round =>
      obtain ⟨k, hk, rfl, H⟩ := hrel
      rcases Nat.eq_zero_or_pos k with h0 | h0
      · subst h0
        obtain ⟨q, cap, hv, hR⟩ := owns_rd H.out.1 (by rw [List.length_reverse, List.length_drop, HY.out.1])
        rw [Nat.sub_zero] at hv
        rw [List.drop_zero] at hR
        subst hv
        obtain ⟨hl, hX, hx⟩ := HY.out
        have t1 := fun w' (hb : Below w.heap.size w w') => gTimes_any (nc := nc) hl (hX.below hb) (by omega) (fun j _ => hx j)
        have t2 := fun w' (hb : Below w.heap.size w w') => rTimes_any (nc := nc) hl (hX.below hb) (by omega)
        have t3 := fun w' (hb : Below wr.heap.size wr w') => gTimes_any (nc := cap) (show ys.reverse.length = n by rw [List.length_reverse]; exact hl) (hR.below hb) (by omega) (fun j hj => by rw [gx_rev ys j (by omega)]; exact hx _)
        rw [tms_rev] at t3
        obtain ⟨d1, d2⟩ := tms_bd ys 1 (by decide) (by decide)
        have d1' : 1 ≤ tms ys := d1
        have d2' : tms ys ≤ 4611686018427387904 := d2
        have HBW : Hid (Below w.heap.size w wr) := H.out.2
        clear d1 d2 hl hX hx hR H
        generalize tms ys = t at *
        have t1' := t1 wr HBW.out
        go_wp2_with fail
        go_fit t1'
        rintro e w2 ⟨rfl, hb2⟩
        have hB2 := bnextT HBW.out hb2
        have t2' := t2 w2 hB2
        go_wp2_with fail
        go_fit t2'
        rintro e w3 ⟨rfl, hw⟩
        subst w3
        have t3' := t3 w2 hb2
        go_wp2_with fail
        go_fit t3'
        rintro e w4 ⟨rfl, hb4⟩
        have HBE : Hid (Below w.heap.size w w4) := bnextT hB2 hb4
        clear t1 t2 t3 t1' t2' t3' hb2 hB2 hb4
        go_wp2
        go_ret
        exact ⟨rfl, HBE.out⟩
      · obtain ⟨j, rfl⟩ : ∃ j, k = j + 1 := ⟨k - 1, by omega⟩
        obtain ⟨hl, hX, hx⟩ := HY.out
        obtain ⟨b, o, hp, hc⟩ := (hX.below H.out.2) (by omega)
        have c0 := hc j (by omega)
        have HD : Hid ((ys.drop j).reverse = (ys.drop (j + 1)).reverse ++ [gx ys j]) := drop_rev ys j (by omega)
        subst hp
        obtain ⟨hi, hz0, hz1, hz2⟩ := HI.out
        have HO : Hid (wr.ownsRow w.heap.size 3 1 u4 (n - (j + 1)) (((ys.drop (j + 1)).reverse).map (Value.int .i64))) := H.out.1
        have hsz : w.heap.size ≤ wr.heap.size := H.out.2.size
        have j1 : ¬ ((j : Int) + 1 - 1 < 0) := by omega
        have j2 : (0 : Int) ≤ (j : Int) + 1 - 1 := by omega
        have j3 : (j : Int) < (n : Int) := by omega
        have v1 : wrap64 ((j : Int) + 1 - 1 - 1) = (j : Int) - 1 := by unfold wrap64; omega
        have v2 : (j : Int) + 1 - 1 = (j : Int) := by omega
        clear hl hX hx hc
        generalize gx ys j = y at *
        go_wp2_with (refine wpList_append_lies _ rfl _ _ 38 rfl w.heap.size 3 i0 (.int .i64 0) 1 8 Try.underlying38 hi hz0 hz1 hz2 rfl (by decide) u4 (n - (j + 1)) (((ys.drop (j + 1)).reverse).map (Value.int .i64)) rfl (HO.out.alloc _) ⟨wr.heap.size, 0, none⟩ 1 1 [.int .i64 y] rfl rfl ?_ (fun x hx => by simp at hx; subst hx; rfl) (by decide) (by unfold maxLen; omega) (by omega) (by simp; omega) _ rfl ?_; exact World.news_of_block (heap_alloc_new wr _); intro g cap w3 hown3 hgrow3 hat3 hlt3; have hB3 : Below w.heap.size w w3 := (H.out.2.alloc hsz _).grown hgrow3 (by simp; omega) (fun q hq => (HO.out.lt q hq).1); have HA : Hid (w3.ownsRow w.heap.size 3 1 (.slice (some ⟨g, 0, none⟩) (n - (j + 1) + 1) cap) (n - (j + 1) + 1) (((ys.drop (j + 1)).reverse).map (Value.int .i64) ++ [.int .i64 y])) := hown3; clear hown3 hgrow3 hat3)
        refine ⟨⟨j, by omega, by first | rfl | go_num, ?_, hB3⟩, by simp [intOf]⟩
        have hh := HA.out
        rw [show n - (j + 1) + 1 = n - j by omega] at hh
        rw [HD.out, List.map_append]
        first
          | exact hh
          | (rw [show n - (j + 1) + 1 = n - j by omega]; exact hh)
end Go.Proofs.Ytcdfckjlmifjiaa
