/-
  limbs.Of, join, Mod, divideByLimb.
-/
import Derived.Test.YtkbgeggflhfleaaGreatDoorNi
import Derived.Test.YtkbgeggflhfleaaGreatDoorWhPn
namespace Go.Proofs.YtkbgeggflhfleaaGreatDoor
open Go.RowKit
set_option linter.unusedVariables false
set_option linter.unusedSimpArgs false
set_option maxHeartbeats 8000000
theorem words_u32 (m : Int) (h0 : 0 ≤ m) (h1 : m < 18446744073709551616) : U32 [m % 4294967296, m / 4294967296] := u32_append (u32_one (by omega)) (u32_one (by omega))
theorem words_val (m : Int) : val [m % 4294967296, m / 4294967296] = m := by simp only [val]; omega
theorem Of_any (z : Int) (w : World) (h0 : -9223372036854775808 ≤ z) (h1 : z ≤ 9223372036854775807) :
    Calls Tryz.prog 28 #[.int .i64 z] w fun e w' => ∃ s' p' n' zs, e = .returned (.agg #[.bool s', .slice p' n' n']) ∧ NI w.heap.size w' s' p' n' zs z ∧ n' ≤ 2 ∧ Below w.heap.size w w' := by
  by_cases hn : z < 0
  · have HL : tlen [(-(z + 1) + 1) % 4294967296, (-(z + 1) + 1) / 4294967296] ≤ 2 := tlen_le _
    go_enter Tryz.func28, Tryz.ntmps28
    go_wp2_with fail
    refine (words_any (-(z + 1) + 1) _ (by omega) (by omega)).mono ?_
    rintro e w' ⟨rfl, rfl⟩
    go_wp2_with fail
    refine (number_any true (some ⟨w.heap.size + 1, 0, none⟩) 2 2 [(-(z + 1) + 1) % 4294967296, (-(z + 1) + 1) / 4294967296] _ rfl (Nat.le_refl _) (by unfold maxLen; decide) (Row.new1 w _ _ _ _).rd_all).mono ?_
    rintro e w1 ⟨rfl, hb⟩
    obtain ⟨c0, c1, f0, f1⟩ := resbox (r := w.heap.size) (u := .bool false) (v := .slice none 0 0) hb (by simp [go_sem, World.cell?_alloc_past]) (by simp [go_sem, World.cell?_alloc_past]) (by simp [go_sem]) (by simp [go_sem])
    have hU := words_u32 (-(z + 1) + 1) (by omega) (by omega)
    have hV : ival true [(-(z + 1) + 1) % 4294967296, (-(z + 1) + 1) / 4294967296] = z := by simp only [ival, words_val, if_true, if_false, Bool.false_eq_true] <;> omega
    generalize [(-(z + 1) + 1) % 4294967296, (-(z + 1) + 1) / 4294967296] = ys at *
    have hN := ni_number (B := w.heap.size + 1) (q := some ⟨w.heap.size + 1, 0, none⟩) true (Row.new1 w (.cells #[.bool false, .slice none 0 0] 30) 134 .u32 ys).rd_all hU (from_new (Nat.le_refl _)) ((Row.new1 w (.cells #[.bool false, .slice none 0 0] 30) 134 .u32 ys).fz 0)
    rw [hV] at hN
    have hN2 := hN.below hb
    have ht : tlen ys ≤ 2 := HL
    go_wp2
    refine bodyPost_ret (v := .agg #[.bool (nsg true ys), .slice (nad (some ⟨w.heap.size + 1, 0, none⟩) ys) (tlen ys) (tlen ys)]) (by simp [results, Tryz.results28, go_sem, c0, c1]) rfl ⟨_, _, _, tr ys, rfl, ?_, ht, ?_⟩
    · exact ((hN2.set (by simp) _).set (by simp) _).mono (by omega)
    · exact (((((Below.refl _ _).alloc (Nat.le_refl _) _).alloc (by simp) _).trans (hb.mono (by simp; omega))).setCell (by simp) _).setCell (by simp) _
  · have HL : tlen [z % 4294967296, z / 4294967296] ≤ 2 := tlen_le _
    go_enter Tryz.func28, Tryz.ntmps28
    go_wp2_with fail
    refine (words_any (z) _ (by omega) (by omega)).mono ?_
    rintro e w' ⟨rfl, rfl⟩
    go_wp2_with fail
    refine (number_any false (some ⟨w.heap.size + 1, 0, none⟩) 2 2 [(z) % 4294967296, (z) / 4294967296] _ rfl (Nat.le_refl _) (by unfold maxLen; decide) (Row.new1 w _ _ _ _).rd_all).mono ?_
    rintro e w1 ⟨rfl, hb⟩
    obtain ⟨c0, c1, f0, f1⟩ := resbox (r := w.heap.size) (u := .bool false) (v := .slice none 0 0) hb (by simp [go_sem, World.cell?_alloc_past]) (by simp [go_sem, World.cell?_alloc_past]) (by simp [go_sem]) (by simp [go_sem])
    have hU := words_u32 (z) (by omega) (by omega)
    have hV : ival false [(z) % 4294967296, (z) / 4294967296] = z := by simp only [ival, words_val, if_true, if_false, Bool.false_eq_true] <;> omega
    generalize [(z) % 4294967296, (z) / 4294967296] = ys at *
    have hN := ni_number (B := w.heap.size + 1) (q := some ⟨w.heap.size + 1, 0, none⟩) false (Row.new1 w (.cells #[.bool false, .slice none 0 0] 30) 134 .u32 ys).rd_all hU (from_new (Nat.le_refl _)) ((Row.new1 w (.cells #[.bool false, .slice none 0 0] 30) 134 .u32 ys).fz 0)
    rw [hV] at hN
    have hN2 := hN.below hb
    have ht : tlen ys ≤ 2 := HL
    go_wp2
    refine bodyPost_ret (v := .agg #[.bool (nsg false ys), .slice (nad (some ⟨w.heap.size + 1, 0, none⟩) ys) (tlen ys) (tlen ys)]) (by simp [results, Tryz.results28, go_sem, c0, c1]) rfl ⟨_, _, _, tr ys, rfl, ?_, ht, ?_⟩
    · exact ((hN2.set (by simp) _).set (by simp) _).mono (by omega)
    · exact (((((Below.refl _ _).alloc (Nat.le_refl _) _).alloc (by simp) _).trans (hb.mono (by simp; omega))).setCell (by simp) _).setCell (by simp) _
theorem neg_emod {m x r : Int} (h1 : 1 ≤ m) (h : r = x % m) (hr : r ≠ 0) : (-x) % m = m - r := by
  have e := Int.emod_add_mul_ediv x m
  have b0 := Int.emod_nonneg x (show m ≠ 0 by omega)
  have b1 := Int.emod_lt_of_pos x (show 0 < m by omega)
  rw [← h] at e b0 b1
  have e2 : -x = (m - r) + m * (-(x / m) - 1) := by rw [Int.mul_sub, Int.mul_neg]; omega
  rw [e2, Int.add_mul_emod_self_left]
  exact Int.emod_eq_of_lt (by omega) (by omega)
end Go.Proofs.YtkbgeggflhfleaaGreatDoor
