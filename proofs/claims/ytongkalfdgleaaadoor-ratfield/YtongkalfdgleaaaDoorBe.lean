/-
  What begun needs: quotients by one limb, texts of one digit.
-/
import Derived.Test.YtongkalfdgleaaaDoorWm
import Derived.Test.YtongkalfdgleaaaDoorWp
namespace Go.Proofs.YtongkalfdgleaaaDoor
open Go.RowKit
set_option linter.unusedVariables false
set_option linter.unusedSimpArgs false

theorem tr_one {ys : List Int} (hU : U32 ys) (h : tlen ys = 1) : tr ys = [val ys] := by
  have hl := length_tr ys
  rw [h] at hl
  match he : tr ys, hl with
  | [d], _ =>
    have := val_tr ys
    rw [he, val_one] at this
    rw [this]

/-- limbs.Quo by a size of one limb. -/
theorem Quo_one (s t : Bool) (p q : Option Addr) (n nc m mc : Nat) (xs ys : List Int) (w : World) (hA : AI w p n nc xs) (hB : AI w q m mc ys) (h1 : tlen ys = 1) :
    Calls Tryd.prog 32 #[.agg #[.bool s, .slice p n nc], .agg #[.bool t, .slice q m mc]] w (QuoPost w (ival s xs) (ival t ys) n m) := by
  have h0 : val ys ≠ 0 := fun e => by have := (tlen_zero_iff hB.u).2 e; omega
  refine Quo_of s t p q n nc m mc xs ys w hA hB h0 (fun W hA' hB' => ?_)
  rcases Int.lt_or_le (val (tr xs)) (val (tr ys)) with h | h
  · exact quotient_lt p q _ nc _ mc (tr xs) (tr ys) W hA' hB' h
  · have ht := tr_one hB.u h1
    have hp := val_nonneg hB.u
    rw [h1] at hB' ⊢
    rw [ht] at hB' h ⊢
    rw [val_one] at h
    exact quotient_one p q _ nc mc (tr xs) (val ys) W hA' hB' (by omega) h

theorem ival_neg {s : Bool} {xs : List Int} {z : Int} (hU : U32 xs) (h : ival s xs = z) (hz : z < 0) : s = true ∧ val xs = -z := by
  have := val_nonneg hU
  cases s
  · simp only [ival, Bool.false_eq_true, if_false] at h; omega
  · simp only [ival, if_true] at h; exact ⟨rfl, by omega⟩
theorem ival_pos {s : Bool} {xs : List Int} {z : Int} (hU : U32 xs) (h : ival s xs = z) (hz : 0 < z) : s = false ∧ val xs = z := by
  have := val_nonneg hU
  cases s
  · simp only [ival, Bool.false_eq_true, if_false] at h; exact ⟨rfl, h⟩
  · simp only [ival, if_true] at h; omega
theorem tlen_small {xs : List Int} (hU : U32 xs) (h0 : 0 < val xs) (h1 : val xs < 4294967296) : tlen xs = 1 := by
  rcases Nat.lt_trichotomy (tlen xs) 1 with h | h | h
  · have := (tlen_zero_iff hU).1 (by omega); omega
  · exact h
  · have h2 := val_pos_of_top hU (by omega)
    have h3 : pw 1 ≤ pw (tlen xs - 1) := pw_mono (by omega)
    have h4 : pw 1 = 4294967296 := rfl
    omega

theorem dgt_zero (d : Int) (k : Nat) (h0 : 0 ≤ d) (h : d < 10) (hk : 0 < k) : dgt d k = 48 := by
  obtain ⟨m, rfl⟩ : ∃ m, k = m + 1 := ⟨k - 1, by omega⟩
  have hp : (0 : Int) < 10 ^ m := Int.pow_pos (by decide)
  unfold dgt
  rw [Int.ediv_eq_zero_of_lt h0 (by rw [Int.pow_succ]; omega)]
  rfl
/-- The text of one digit. -/
theorem text_digit (d : Int) (N : Nat) (D : List Int) (h0 : 0 < d) (h : d < 10) (hN : d < 10 ^ N) (hl : D.length = N) (hD : ∀ j, j < N → gx D j = dgt d (N - 1 - j)) : strip (bys D) = [UInt8.ofNat (48 + d).toNat] := by
  rcases Nat.eq_zero_or_pos N with h1 | h1
  · subst h1; simp at hN; omega
  · have e : D = List.replicate (N - 1) 48 ++ [48 + d] := by
      apply gx_ext
      · simp; omega
      · intro j hj
        rw [hD j (by omega)]
        by_cases hj' : j < N - 1
        · rw [dgt_zero d _ (by omega) h (by omega), gx_append_left _ _ _ (by simpa using hj')]
          simp [gx, hj']
        · have : j = N - 1 := by omega
          subst this
          rw [gx_append_right _ _ _ (by simp)]
          simp only [List.length_replicate, Nat.sub_self, gx_zero, dgt, Int.pow_zero]
          omega
    rw [e, bys, List.map_append, strip]
    have hne : (UInt8.ofNat (48 + d).toNat == 48) = false := by
      have : d = 1 ∨ d = 2 ∨ d = 3 ∨ d = 4 ∨ d = 5 ∨ d = 6 ∨ d = 7 ∨ d = 8 ∨ d = 9 := by omega
      rcases this with rfl | rfl | rfl | rfl | rfl | rfl | rfl | rfl | rfl <;> decide
    have hr : ∀ m, List.dropWhile (· == (48 : UInt8)) (List.map (fun n : Int => UInt8.ofNat n.toNat) (List.replicate m 48) ++ [UInt8.ofNat (48 + d).toNat]) = [UInt8.ofNat (48 + d).toNat] := by
      intro m
      induction m with
      | zero => simp [hne]
      | succ m ih =>
        rw [List.replicate_succ, List.map_cons, List.cons_append, List.dropWhile_cons_of_pos (by decide)]
        exact ih
    simpa using hr (N - 1)
end Go.Proofs.YtongkalfdgleaaaDoor
