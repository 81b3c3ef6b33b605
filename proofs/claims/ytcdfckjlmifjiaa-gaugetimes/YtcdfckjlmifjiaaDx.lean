/-
  ashlarref9.By, Times (out of Or).
-/
import Derived.Test.YtcdfckjlmifjiaaOr
namespace Go.Proofs.Ytcdfckjlmifjiaa
open Go.RowKit
set_option linter.unusedVariables false
set_option linter.unusedSimpArgs false

set_option maxHeartbeats 1000000 in
/-- ashlarref9.By. -/
theorem rBy_any {w : World} (a b : Int) (ha : 1 ≤ a) (ha' : a ≤ 4611686018427387904) (hb : 1 ≤ b) :
    Calls Try.prog 40 #[.int .i64 a, .int .i64 b] w fun e w' => e = .returned (.int .i64 (min (a * b) 4611686018427387904)) ∧ w' = w := by
  have i1 : ¬ (4611686018427387904 < a) := by omega
  have i2 : (a != 0) = true := by rw [bne_iff_ne]; omega
  have i5 : a ≠ 0 := by omega
  have key : b ≤ 4611686018427387904 / a ↔ b * a ≤ 4611686018427387904 := Int.le_ediv_iff_mul_le (by omega)
  rw [Int.mul_comm b a] at key
  have hpos : 1 ≤ a * b := Int.mul_le_mul ha hb (by decide) (by omega)
  rcases Int.lt_or_le (4611686018427387904 / a) b with h | h
  · have HE : Hid (min (a * b) 4611686018427387904 = 4611686018427387904) := by
      have : ¬ a * b ≤ 4611686018427387904 := fun hh => by have := key.2 hh; omega
      show min (a * b) 4611686018427387904 = 4611686018427387904
      omega
    clear key hpos
    rw [HE.out]
    go_enter Try.func40, Try.ntmps40
    go_wp2
    go_ret
    exact ⟨rfl, rfl⟩
  · have h' := key.1 h
    have HE : Hid (min (a * b) 4611686018427387904 = a * b) := by
      show min (a * b) 4611686018427387904 = a * b
      omega
    have i4 : wrap64 (a * b) = a * b := by unfold wrap64; omega
    have i3 : ¬ (4611686018427387904 / a < b) := by omega
    clear key hpos h h'
    rw [HE.out]
    go_enter Try.func40, Try.ntmps40
    go_wp2
    go_ret
    exact ⟨rfl, rfl⟩
set_option maxHeartbeats 1000000 in
set_option maxRecDepth 100000 in
/-- ashlarref9.Times. -/
theorem rTimes_any {w : World} {p : Option Addr} {n nc : Nat} {xs : List Int} (hl : xs.length = n) (hX : Rd w p .i64 xs) (hn : n ≤ 1000000) :
    Calls Try.prog 22 #[.slice p n nc] w fun e w' => e = .returned (.int .i64 (tms xs)) ∧ w' = w := by
  have HX : Hid (xs.length = n ∧ Rd w p .i64 xs) := ⟨hl, hX⟩
  clear hl hX
  go_enter Try.func22, Try.ntmps22
  go_wp2_with fail
  go_loopw [3, 4] (fun cv iv wr => ∃ k : Nat, k ≤ n ∧ iv = .int .i64 k ∧ cv = .int .i64 (tms (xs.take k)) ∧ wr = w) (fun _ iv _ => n - (intOf iv).toNat)
  case atStart => exact ⟨0, Nat.zero_le _, by go_num, rfl, rfl⟩
  case round =>
    obtain ⟨k, hk, rfl, rfl, rfl⟩ := hrel
    obtain ⟨hl, hX⟩ := HX.out
    obtain ⟨d1, d2⟩ := tms_bd (xs.take k) 1 (by decide) (by decide)
    rcases Nat.lt_or_ge k n with hlt | hge
    · obtain ⟨b, o, hp, hc⟩ := hX (by omega)
      subst hp
      have c0 := hc k (by omega)
      have HP : Hid (tms (xs.take (k + 1)) = tmf (tms (xs.take k)) (gx xs k)) := tms_take 1 xs k (by omega)
      generalize gx xs k = x at *
      have d1' : 1 ≤ tms (xs.take k) := d1
      have d2' : tms (xs.take k) ≤ 4611686018427387904 := d2
      clear d1 d2
      generalize tms (xs.take k) = c at *
      have i1 : (k : Int) < (n : Int) := by omega
      clear hc hl hX
      rcases Int.lt_or_le 1 x with h1 | h1
      · have HP' : Hid (tms (xs.take (k + 1)) = min (c * x) 4611686018427387904) := by
          have h3 : max x 1 = x := by omega
          have h4 := HP.out
          unfold tmf at h4
          rw [h3] at h4
          exact h4
        clear HP
        go_wp2_with fail
        refine (rBy_any c x d1' d2' (by omega)).mono ?_
        rintro e w1 ⟨rfl, rfl⟩
        go_wp2_with fail
        refine ⟨⟨k + 1, by omega, by go_num, by rw [HP'.out], by first | rfl | trivial⟩, by simp [intOf]; omega⟩
      · have h2 : ¬ (1 < x) := by omega
        have HP' : Hid (tms (xs.take (k + 1)) = c) := by
          have h3 : max x 1 = 1 := by omega
          have h4 := HP.out
          unfold tmf at h4
          rw [h3, Int.mul_one] at h4
          show tms (xs.take (k + 1)) = c
          omega
        go_wp2_with fail
        refine ⟨⟨k + 1, by omega, by go_num, by rw [HP'.out], by first | rfl | trivial⟩, by simp [intOf]; omega⟩
    · obtain rfl : k = n := by omega
      have HE : Hid (tms (xs.take k) = tms xs) := by rw [List.take_of_length_le (by omega)]; rfl
      have i1 : ¬ (k : Int) < (k : Int) := by omega
      clear hX hl d1 d2
      go_wp2
      go_ret
      exact ⟨by rw [← HE.out]; rfl, rfl⟩
end Go.Proofs.Ytcdfckjlmifjiaa
