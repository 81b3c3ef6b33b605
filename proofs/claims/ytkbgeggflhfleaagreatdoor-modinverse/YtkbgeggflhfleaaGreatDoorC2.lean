/-
  modular.Prime, ashlarref11.Prime; ModPrime's walk.
-/
import Derived.Test.YtkbgeggflhfleaaGreatDoorC1
namespace Go.Proofs.YtkbgeggflhfleaaGreatDoor.Rs
open Go.RowKit Go.Proofs.YtkbgeggflhfleaaGreatDoor
set_option linter.unusedVariables false
set_option linter.unusedSimpArgs false
def pz (z : Int) : Bool := decide (2 ≤ z ∧ z ≤ 2147483647) && Mr.isp z.toNat
theorem pz_in {m : Nat} (h1 : 2 ≤ m) (h2 : m ≤ 2147483647) : pz (m : Int) = Mr.isp m := by
  unfold pz
  rw [decide_eq_true (by omega), Bool.true_and]
  rfl
theorem pz_out {z : Int} (h : z < 2 ∨ 2147483647 < z) : pz z = false := by
  unfold pz
  rw [decide_eq_false (by omega), Bool.false_and]
theorem pz_true {z : Int} (h : pz z = true) : ∃ m : Nat, z = (m : Int) ∧ 2 ≤ m ∧ m ≤ 2147483647 ∧ Mr.Pr m := by
  unfold pz at h
  rw [Bool.and_eq_true, decide_eq_true_eq] at h
  exact ⟨z.toNat, by omega, by omega, by omega, (Mr.isp_eq (by omega) (by omega)).1 h.2⟩
theorem isPrime_all (z : Int) (w : World) (h0 : -9223372036854775808 ≤ z ∧ z ≤ 9223372036854775807) (hT : TzT w) :
    Calls Tryz.prog 26 #[.int .i64 z] w fun e w' => e = .returned (.bool (pz z)) ∧ w = w' := by
  by_cases h : z < 2 ∨ 2147483647 < z
  · rw [pz_out h]
    exact isPrime_out z w h0 h
  · obtain ⟨m, rfl⟩ : ∃ m : Nat, z = (m : Int) := ⟨z.toNat, by omega⟩
    rw [pz_in (by omega) (by omega)]
    exact isPrime_in m w (by omega) (by omega) hT
theorem mPrime_any (z : Int) (w : World) (h0 : -9223372036854775808 ≤ z ∧ z ≤ 9223372036854775807) (hT : TzT w) :
    Calls Tryz.prog 9 #[.int .i64 z] w fun e w' => e = .returned (.bool (pz z)) ∧ w = w' := by
  have hc := isPrime_all z w h0 hT
  generalize pz z = b at *
  go_enter Tryz.func9, Tryz.ntmps9
  go_wp2_with fail
  go_fit hc
  rintro e w1 ⟨rfl, rfl⟩
  go_wp2
  go_ret
  exact ⟨rfl, rfl⟩
theorem isp_false {m d : Nat} (h1 : 2 ≤ m) (h2 : m ≤ 2147483647) (hd : 2 ≤ d) (hdd : d * d ≤ m) (h : m % d = 0) : Mr.isp m = false := by
  cases hi : Mr.isp m with
  | false => rfl
  | true =>
    exfalso
    rcases ((Mr.isp_eq h1 h2).1 hi).2 d (Nat.dvd_of_mod_eq_zero h) with h3 | h3
    · omega
    · subst h3
      have := Nat.mul_le_mul hd (Nat.le_refl d)
      omega
theorem isp_true {m d : Nat} (h1 : 2 ≤ m) (h2 : m ≤ 2147483647) (hdd : m < d * d) (h : ∀ e, 2 ≤ e → e < d → m % e ≠ 0) : Mr.isp m = true := by
  refine (Mr.isp_eq h1 h2).2 ⟨by omega, fun e he => ?_⟩
  obtain ⟨f, rfl⟩ := he
  have e0 : e ≠ 0 := fun h => by rw [h, Nat.zero_mul] at h1; omega
  have f0 : f ≠ 0 := fun h => by rw [h, Nat.mul_zero] at h1; omega
  by_cases e1 : e = 1
  · exact .inl e1
  · by_cases f1 : f = 1
    · right; rw [f1, Nat.mul_one]
    · exfalso
      rcases Nat.lt_or_ge e d with h3 | h3
      · exact h e (by omega) h3 (Nat.mul_mod_right e f)
      · rcases Nat.lt_or_ge f d with h4 | h4
        · exact h f (by omega) h4 (Nat.mul_mod_left e f)
        · have := Nat.mul_le_mul h3 h4
          omega
set_option maxHeartbeats 2000000 in
theorem rPrime_in (m : Nat) (w : World) (h1 : 2 ≤ m) (h2 : m ≤ 2147483647) :
    Calls Tryz.prog 10 #[.int .i64 m] w fun e w' => e = .returned (.bool (Mr.isp m)) ∧ w = w' := by
  have g1 : ¬ (m : Int) < 2 := by omega
  have g2 : ¬ (2147483647 : Int) < (m : Int) := by omega
  go_enter Tryz.func10, Tryz.ntmps10
  go_wp2
  go_loop [3] (fun dv => ∃ d : Nat, dv = .int .i64 d ∧ 2 ≤ d ∧ d ≤ 46341 ∧ Hid (∀ e, 2 ≤ e → e < d → m % e ≠ 0)) (fun dv => 46342 - (intOf dv).toNat)
  case atStart => exact ⟨2, rfl, by omega, by omega, fun e he1 he2 => by omega⟩
  case round =>
    obtain ⟨d, rfl, hd2, hd3, H⟩ := hrel
    clear g1 g2
    have hdb := Nat.mul_le_mul hd3 hd3
    have eM : (d : Int) * (d : Int) = ((d * d : Nat) : Int) := by rw [Int.natCast_mul]
    have v1 : IntKind.i64.wrap ((d * d : Nat) : Int) = ((d * d : Nat) : Int) := by rw [IntKind.wrap_i64]; omega
    rcases Nat.lt_or_ge m (d * d) with hlt | hge
    · have c1 : ¬ ((d * d : Nat) : Int) ≤ (m : Int) := by omega
      have HI : Hid (Mr.isp m = true) := isp_true h1 h2 hlt H.out
      clear H hlt
      generalize d * d = q at *
      go_wp2
      go_ret
      exact ⟨by rw [HI.out]; rfl, rfl⟩
    · have c1 : ((d * d : Nat) : Int) ≤ (m : Int) := by omega
      have hd4 : d ≤ 46340 := by
        rcases Nat.lt_or_ge 46340 d with h | h
        · have := Nat.mul_le_mul h h
          omega
        · exact h
      have t1 : (m : Int).tmod (d : Int) = ((m % d : Nat) : Int) := by rw [Int.tmod_eq_emod_of_nonneg (by omega), Int.natCast_emod]
      have hmd : m % d < d := Nat.mod_lt _ (by omega)
      have v2 : IntKind.i64.wrap ((m % d : Nat) : Int) = ((m % d : Nat) : Int) := by rw [IntKind.wrap_i64]; omega
      have hd0 : ¬ (d : Int) = 0 := by omega
      have hd0' : ((d : Int) == 0) = false := by rw [beq_eq_false_iff_ne]; exact hd0
      by_cases hz : m % d = 0
      · have c2 : ((m % d : Nat) : Int) = 0 := by omega
        have HI : Hid (Mr.isp m = false) := isp_false h1 h2 hd2 hge hz
        clear H hge hz
        generalize d * d = q at *
        generalize m % d = r at *
        go_wp2
        go_ret
        exact ⟨by rw [HI.out]; rfl, rfl⟩
      · have c2 : ¬ ((m % d : Nat) : Int) = 0 := by omega
        have c3 : (((m % d : Nat) : Int) == 0) = false := by rw [beq_eq_false_iff_ne]; exact c2
        have HN : Hid (∀ e, 2 ≤ e → e < d + 1 → m % e ≠ 0) := fun e he1 he2 => by
          rcases Nat.lt_or_ge e d with h | h
          · exact H.out e he1 h
          · obtain rfl : e = d := by omega
            exact hz
        have v3 : IntKind.i64.wrap ((d : Int) + 1) = ((d + 1 : Nat) : Int) := by rw [IntKind.wrap_i64]; omega
        clear H hge hz
        generalize d * d = q at *
        generalize m % d = r at *
        go_wp2
        go_round
        case rel => exact ⟨d + 1, by go_num, by omega, by omega, HN.out⟩
        case measure => simp [intOf]; omega
theorem rPrime_any (z : Int) (w : World) (h0 : -9223372036854775808 ≤ z ∧ z ≤ 9223372036854775807) :
    Calls Tryz.prog 10 #[.int .i64 z] w fun e w' => e = .returned (.bool (pz z)) ∧ w = w' := by
  by_cases h : z < 2 ∨ 2147483647 < z
  · rw [pz_out h]
    by_cases g1 : z < 2
    · go_enter Tryz.func10, Tryz.ntmps10
      go_wp2
      go_ret
      exact ⟨rfl, rfl⟩
    · have g2 : (2147483647 : Int) < z := by omega
      go_enter Tryz.func10, Tryz.ntmps10
      go_wp2
      go_ret
      exact ⟨rfl, rfl⟩
  · obtain ⟨m, rfl⟩ : ∃ m : Nat, z = (m : Int) := ⟨z.toNat, by omega⟩
    rw [pz_in (by omega) (by omega)]
    exact rPrime_in m w (by omega) (by omega)
end Go.Proofs.YtkbgeggflhfleaaGreatDoor.Rs
namespace Go.Proofs.YtkbgeggflhfleaaGreatDoor
open Go.RowKit
end Go.Proofs.YtkbgeggflhfleaaGreatDoor
