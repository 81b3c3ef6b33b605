/-
  math/bits.Len32, limbs.Bits, limbs.Small.
-/
import Derived.Test.YtgdbhgpabehcfaaDoorWk
namespace Go.Proofs.YtgdbhgpabehcfaaDoor
open Go.RowKit
set_option linter.unusedVariables false
set_option linter.unusedSimpArgs false

set_option maxHeartbeats 1000000 in
/-- limbs.Small: it fits. -/
theorem Small_fit (s : Bool) (p : Option Addr) (n nc : Nat) (xs : List Int) (w : World) (hA : AI w p n nc xs) (h0 : -9223372036854775808 ≤ ival s xs) (h1 : ival s xs ≤ 9223372036854775807) :
    Calls Tryd.prog 25 #[.agg #[.bool s, .slice p n nc]] w fun e w' => e = .returned (.tuple #[.int .i64 (ival s xs), .bool true]) ∧ Below w.heap.size w w' := by
  have tx := tlen_le xs
  have hv := val_nonneg hA.u
  have ht2 : tlen xs ≤ 2 := by
    rcases Nat.lt_or_ge 2 (tlen xs) with h | h
    · exfalso
      have h2 := val_pos_of_top hA.u (by omega)
      have h3 : pw 2 ≤ pw (tlen xs - 1) := pw_mono (by omega)
      have h4 : pw 2 = 18446744073709551616 := rfl
      cases s <;> simp [ival] at h0 h1 <;> omega
    · exact h
  have hlt : val xs < 18446744073709551616 := by
    have h2 := val_lt_tlen hA.u
    have h3 : pw (tlen xs) ≤ pw 2 := pw_mono ht2
    have h4 : pw 2 = 18446744073709551616 := rfl
    omega
  have ht2' : ¬ (2 < ((tlen xs : Nat) : Int)) := by omega
  cases s
  · have hle : val xs ≤ 9223372036854775807 := by simpa [ival] using h1
    have e : ival false xs = val xs := rfl
    rw [e]
    clear e h0 h1
    go_enter Tryd.func25, Tryd.ntmps25
    go_wp2_with (first
      | (go_at_call 32; refine (trim_any p n nc xs _ hA.len hA.cap hA.bnd (hA.rd.alloc _)).mono ?_; rintro e w' ⟨rfl, rfl⟩)
      | (go_at_call 51; refine (join_any p (tlen xs) nc (tr xs) _ (length_tr xs) ht2 (hA.rd.tr.alloc _) (u32_tr hA.u)).mono ?_; rw [val_tr]; rintro e w' ⟨rfl, rfl⟩))
    go_ret2
    exact ⟨rfl, (Below.refl _ _).alloc (Nat.le_refl _) _⟩
  · have e : ival true xs = - val xs := rfl
    rw [e] at h0 ⊢
    clear e h1
    by_cases hle : val xs ≤ 9223372036854775807
    · go_enter Tryd.func25, Tryd.ntmps25
      go_wp2_with (first
        | (go_at_call 32; refine (trim_any p n nc xs _ hA.len hA.cap hA.bnd (hA.rd.alloc _)).mono ?_; rintro e w' ⟨rfl, rfl⟩)
        | (go_at_call 51; refine (join_any p (tlen xs) nc (tr xs) _ (length_tr xs) ht2 (hA.rd.tr.alloc _) (u32_tr hA.u)).mono ?_; rw [val_tr]; rintro e w' ⟨rfl, rfl⟩))
      go_ret2
      exact ⟨rfl, (Below.refl _ _).alloc (Nat.le_refl _) _⟩
    · have hq : (val xs == 9223372036854775808) = true := beq_iff_eq.2 (by omega)
      go_enter Tryd.func25, Tryd.ntmps25
      go_wp2_with (first
        | (go_at_call 32; refine (trim_any p n nc xs _ hA.len hA.cap hA.bnd (hA.rd.alloc _)).mono ?_; rintro e w' ⟨rfl, rfl⟩)
        | (go_at_call 51; refine (join_any p (tlen xs) nc (tr xs) _ (length_tr xs) ht2 (hA.rd.tr.alloc _) (u32_tr hA.u)).mono ?_; rw [val_tr]; rintro e w' ⟨rfl, rfl⟩))
      go_ret2
      have e : -val xs = -9223372036854775808 := by omega
      rw [e]
      exact ⟨rfl, (Below.refl _ _).alloc (Nat.le_refl _) _⟩
end Go.Proofs.YtgdbhgpabehcfaaDoor
