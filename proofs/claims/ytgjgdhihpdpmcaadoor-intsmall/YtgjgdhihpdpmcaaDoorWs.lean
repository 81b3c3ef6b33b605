/-
  limbs.Small of what doesn't fit.
-/
import Derived.Test.YtgjgdhihpdpmcaaDoorWq
namespace Go.Proofs.YtgjgdhihpdpmcaaDoor
open Go.RowKit
set_option linter.unusedVariables false
set_option linter.unusedSimpArgs false

set_option maxHeartbeats 1000000 in
/-- limbs.Small: it doesn't fit. -/
theorem Small_big (s : Bool) (p : Option Addr) (n nc : Nat) (xs : List Int) (w : World) (hA : AI w p n nc xs) (h0 : ival s xs < -9223372036854775808 ∨ 9223372036854775807 < ival s xs) :
    Calls Tryd.prog 35 #[.agg #[.bool s, .slice p n nc]] w fun e w' => e = .returned (.tuple #[.int .i64 0, .bool false]) ∧ Below w.heap.size w w' := by
  have tx := tlen_le xs
  have hv := val_nonneg hA.u
  by_cases ht : 2 < tlen xs
  · have ht2 : 2 < ((tlen xs : Nat) : Int) := by omega
    go_enter Tryd.func35, Tryd.ntmps35
    go_wp2_with (first
      | (go_at_call 42; refine (trim_any p n nc xs _ hA.len hA.cap hA.bnd (hA.rd.alloc _)).mono ?_; rintro e w' ⟨rfl, rfl⟩))
    go_ret2
    exact ⟨rfl, (Below.refl _ _).alloc (Nat.le_refl _) _⟩
  · have ht2 : tlen xs ≤ 2 := by omega
    have hlt : val xs < 18446744073709551616 := by
      have h2 := val_lt_tlen hA.u
      have h3 : pw (tlen xs) ≤ pw 2 := pw_mono ht2
      have h4 : pw 2 = 18446744073709551616 := rfl
      omega
    have ht2' : ¬ (2 < ((tlen xs : Nat) : Int)) := by omega
    cases s
    · have hle : ¬ val xs ≤ 9223372036854775807 := by
        have : ival false xs = val xs := rfl
        omega
      clear h0 ht
      by_cases hq : val xs = 9223372036854775808
      · have hq' : (val xs == 9223372036854775808) = true := beq_iff_eq.2 hq
        clear hq
        go_enter Tryd.func35, Tryd.ntmps35
        go_wp2_with (first
          | (go_at_call 42; refine (trim_any p n nc xs _ hA.len hA.cap hA.bnd (hA.rd.alloc _)).mono ?_; rintro e w' ⟨rfl, rfl⟩)
          | (go_at_call 59; refine (join_any p (tlen xs) nc (tr xs) _ (length_tr xs) ht2 (hA.rd.tr.alloc _) (u32_tr hA.u)).mono ?_; rw [val_tr]; rintro e w' ⟨rfl, rfl⟩))
        go_ret2
        exact ⟨rfl, (Below.refl _ _).alloc (Nat.le_refl _) _⟩
      · have hq' : (val xs == 9223372036854775808) = false := beq_eq_false_iff_ne.2 hq
        clear hq
        go_enter Tryd.func35, Tryd.ntmps35
        go_wp2_with (first
          | (go_at_call 42; refine (trim_any p n nc xs _ hA.len hA.cap hA.bnd (hA.rd.alloc _)).mono ?_; rintro e w' ⟨rfl, rfl⟩)
          | (go_at_call 59; refine (join_any p (tlen xs) nc (tr xs) _ (length_tr xs) ht2 (hA.rd.tr.alloc _) (u32_tr hA.u)).mono ?_; rw [val_tr]; rintro e w' ⟨rfl, rfl⟩))
        go_ret2
        exact ⟨rfl, (Below.refl _ _).alloc (Nat.le_refl _) _⟩
    · have e : ival true xs = - val xs := rfl
      have hle : ¬ val xs ≤ 9223372036854775807 := by omega
      have hq' : (val xs == 9223372036854775808) = false := beq_eq_false_iff_ne.2 (by omega)
      clear h0 ht e
      go_enter Tryd.func35, Tryd.ntmps35
      go_wp2_with (first
        | (go_at_call 42; refine (trim_any p n nc xs _ hA.len hA.cap hA.bnd (hA.rd.alloc _)).mono ?_; rintro e w' ⟨rfl, rfl⟩)
        | (go_at_call 59; refine (join_any p (tlen xs) nc (tr xs) _ (length_tr xs) ht2 (hA.rd.tr.alloc _) (u32_tr hA.u)).mono ?_; rw [val_tr]; rintro e w' ⟨rfl, rfl⟩))
      go_ret2
      exact ⟨rfl, (Below.refl _ _).alloc (Nat.le_refl _) _⟩

/-- limbs.Small. -/
theorem Small_all (s : Bool) (p : Option Addr) (n nc : Nat) (xs : List Int) (w : World) (hA : AI w p n nc xs) :
    Calls Tryd.prog 35 #[.agg #[.bool s, .slice p n nc]] w fun e w' => ∃ (k : Int) (f : Bool), e = .returned (.tuple #[.int .i64 k, .bool f]) ∧ Hid ((f = true → k = ival s xs ∧ -9223372036854775808 ≤ ival s xs ∧ ival s xs ≤ 9223372036854775807) ∧ (f = false → k = 0 ∧ (ival s xs < -9223372036854775808 ∨ 9223372036854775807 < ival s xs))) ∧ Below w.heap.size w w' := by
  by_cases h : -9223372036854775808 ≤ ival s xs ∧ ival s xs ≤ 9223372036854775807
  · refine (Small_fit s p n nc xs w hA h.1 h.2).mono ?_
    rintro e w' ⟨rfl, hb⟩
    exact ⟨_, _, rfl, ⟨fun _ => ⟨rfl, h.1, h.2⟩, fun h => (by cases h)⟩, hb⟩
  · refine (Small_big s p n nc xs w hA (by omega)).mono ?_
    rintro e w' ⟨rfl, hb⟩
    exact ⟨_, _, rfl, ⟨fun h => (by cases h), fun _ => ⟨rfl, by omega⟩⟩, hb⟩
end Go.Proofs.YtgjgdhihpdpmcaaDoor
