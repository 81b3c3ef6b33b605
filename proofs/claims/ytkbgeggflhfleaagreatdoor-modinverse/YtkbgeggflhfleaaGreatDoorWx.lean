/-
  limbs.Mod.
-/
import Derived.Test.YtkbgeggflhfleaaGreatDoorWk
namespace Go.Proofs.YtkbgeggflhfleaaGreatDoor
open Go.RowKit
set_option linter.unusedVariables false
set_option linter.unusedSimpArgs false

set_option maxHeartbeats 1000000 in
theorem Mod_any (s : Bool) (p : Option Addr) (n nc : Nat) (xs : List Int) (m : Int) (w : World) (hA : AI w p n nc xs) (h1 : 1 ≤ m) (h2 : m ≤ 2147483647) :
    Calls Tryz.prog 67 #[.agg #[.bool s, .slice p n nc], .int .i64 m] w fun e w' => e = .returned (.tuple #[.int .i64 (ival s xs % m), .int .i64 0]) ∧ Below w.heap.size w w' := by
  have h1' : ¬ m < 1 := by omega
  have h2' : ¬ 2147483647 < m := by omega
  have hl := hA.len
  have hs := hA.sml
  go_enter Tryz.func67, Tryz.ntmps67
  go_wp2
  go_loop [6, 7] (fun rv iv => ∃ (k : Nat) (r : Int), k ≤ n ∧ iv = .int .i64 ((k : Int) - 1) ∧ rv = .int .u64 r ∧ 0 ≤ r ∧ r < m ∧ Hid (r = val (xs.drop k) % m)) (fun _ iv => (intOf iv + 1).toNat)
  case atStart => exact ⟨n, 0, Nat.le_refl _, by go_num, rfl, by decide, by omega, by show _ = _; rw [List.drop_of_length_le (by omega)]; simp [val]⟩
  case round =>
    obtain ⟨k, r, hk, rfl, rfl, hr0, hr1, HR⟩ := hrel
    by_cases h0 : k = 0
    · subst h0
      have hv := HR.out
      rw [List.drop_zero] at hv
      have HV : Hid (r = val xs % m) := hv
      clear hv HR
      cases s
      · go_wp2
        go_ret2
        have hv := HV.out
        subst hv
        exact ⟨rfl, (Below.refl _ _).alloc (Nat.le_refl _) _⟩
      · by_cases hz : r = 0
        · have hz' : ¬ 0 < r := by omega
          go_wp2
          go_ret2
          have hv := HV.out
          have e : ival true xs % m = 0 := by
            simp only [ival, if_true]; rw [hz] at hv; exact Int.emod_eq_zero_of_dvd (Int.dvd_neg.2 (Int.dvd_of_emod_eq_zero hv.symm))
          rw [e]
          exact ⟨rfl, (Below.refl _ _).alloc (Nat.le_refl _) _⟩
        · have hz' : 0 < r := by omega
          go_wp2
          go_ret2
          have hv := HV.out
          have e : ival true xs % m = m - r := by
            simp only [ival, if_true]
            exact neg_emod h1 hv hz
          rw [e]
          exact ⟨rfl, (Below.refl _ _).alloc (Nat.le_refl _) _⟩
    · obtain ⟨j, rfl⟩ : ∃ j, k = j + 1 := ⟨k - 1, by omega⟩
      have ej : ((j + 1 : Nat) : Int) - 1 = (j : Int) := by omega
      rw [ej]
      clear ej
      obtain ⟨b, off, hp, hcell⟩ := hA.rd (by omega)
      have hc := hcell j (by omega)
      have hlt := block_lt_of_cell hc
      obtain ⟨b0, b1⟩ := hA.u j
      have ho := or_join r (gx xs j) hr0 (by omega) b0 b1
      have hmz : (m == 0) = false := beq_eq_false_iff_ne.2 (by omega)
      subst hp
      clear hcell
      go_wp2
      refine ⟨⟨j, _, by omega, rfl, rfl, Int.emod_nonneg _ (by omega), Int.emod_lt_of_pos _ (by omega), ?_⟩, by simp [intOf]⟩
      show _ = _
      rw [drop_cons xs j (by omega)]
      simp only [val]
      have e := Int.emod_add_mul_ediv (val (xs.drop (j + 1))) m
      rw [← HR.out] at e
      have e2 : gx xs j + 4294967296 * val (xs.drop (j + 1)) = (r * 4294967296 + gx xs j) + m * (4294967296 * (val (xs.drop (j + 1)) / m)) := by
        rw [Int.mul_left_comm]; omega
      rw [e2, Int.add_mul_emod_self_left]
end Go.Proofs.YtkbgeggflhfleaaGreatDoor
