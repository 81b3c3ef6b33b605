/-
  What begun needs: quotients by one limb.
-/
import Derived.Test.YtebdbfbicbndlaaGreatDoorWm
namespace Go.Proofs.YtebdbfbicbndlaaGreatDoor
open Go.RowKit
set_option linter.unusedVariables false
set_option linter.unusedSimpArgs false

theorem tr_one {ys : List Int} (hU : U32 ys) (h : tlen ys = 1) : tr ys = [val ys] := by
  have hl := length_tr ys
  rw [h] at hl
  match he : tr ys, hl with
  | [d], _ =>
    have := val_tr ys
    rw [he, val_one] at this
    rw [this]

/-- limbs.Quo by a size of one limb. -/
theorem Quo_one (s t : Bool) (p q : Option Addr) (n nc m mc : Nat) (xs ys : List Int) (w : World) (hA : AI w p n nc xs) (hB : AI w q m mc ys) (h1 : tlen ys = 1) :
    Calls Tryz.prog 53 #[.agg #[.bool s, .slice p n nc], .agg #[.bool t, .slice q m mc]] w (QuoPost w (ival s xs) (ival t ys) n m) := by
  have h0 : val ys ≠ 0 := fun e => by have := (tlen_zero_iff hB.u).2 e; omega
  refine Quo_of s t p q n nc m mc xs ys w hA hB h0 (fun W hA' hB' => ?_)
  rcases Int.lt_or_le (val (tr xs)) (val (tr ys)) with h | h
  · exact quotient_lt p q _ nc _ mc (tr xs) (tr ys) W hA' hB' h
  · have ht := tr_one hB.u h1
    have hp := val_nonneg hB.u
    rw [h1] at hB' ⊢
    rw [ht] at hB' h ⊢
    rw [val_one] at h
    exact quotient_one p q _ nc mc (tr xs) (val ys) W hA' hB' (by omega) h

theorem ival_neg {s : Bool} {xs : List Int} {z : Int} (hU : U32 xs) (h : ival s xs = z) (hz : z < 0) : s = true ∧ val xs = -z := by
  have := val_nonneg hU
  cases s
  · simp only [ival, Bool.false_eq_true, if_false] at h; omega
  · simp only [ival, if_true] at h; exact ⟨rfl, by omega⟩
theorem ival_pos {s : Bool} {xs : List Int} {z : Int} (hU : U32 xs) (h : ival s xs = z) (hz : 0 < z) : s = false ∧ val xs = z := by
  have := val_nonneg hU
  cases s
  · simp only [ival, Bool.false_eq_true, if_false] at h; exact ⟨rfl, h⟩
  · simp only [ival, if_true] at h; omega
theorem tlen_small {xs : List Int} (hU : U32 xs) (h0 : 0 < val xs) (h1 : val xs < 4294967296) : tlen xs = 1 := by
  rcases Nat.lt_trichotomy (tlen xs) 1 with h | h | h
  · have := (tlen_zero_iff hU).1 (by omega); omega
  · exact h
  · have h2 := val_pos_of_top hU (by omega)
    have h3 : pw 1 ≤ pw (tlen xs - 1) := pw_mono (by omega)
    have h4 : pw 1 = 4294967296 := rfl
    omega

end Go.Proofs.YtebdbfbicbndlaaGreatDoor
