/-
  Plain facts on lists of limbs: no program in sight.
-/
import Derived.WalkKit
import Derived.WalkSpells
import Derived.WalkLawsBesides
namespace Go.Proofs.YtkbgeggflhfleaaGreatDoor
open Go.RowKit
set_option linter.unusedVariables false
set_option linter.unusedSimpArgs false

def gx (xs : List Int) (j : Nat) : Int := xs.getD j 0
theorem gx_nil (j : Nat) : gx [] j = 0 := by simp [gx]
theorem gx_succ (x : Int) (r : List Int) (j : Nat) : gx (x :: r) (j + 1) = gx r j := by simp [gx]
theorem gx_zero (x : Int) (r : List Int) : gx (x :: r) 0 = x := by simp [gx]

def tlen : List Int → Nat
  | [] => 0
  | x :: r => if tlen r = 0 then (if x = 0 then 0 else 1) else tlen r + 1

theorem tlen_le (xs : List Int) : tlen xs ≤ xs.length := by
  induction xs with
  | nil => simp [tlen]
  | cons x r ih => simp only [tlen, List.length_cons]; split <;> (try split) <;> omega

theorem tlen_zero (xs : List Int) : ∀ j, tlen xs ≤ j → gx xs j = 0 := by
  induction xs with
  | nil => intro j _; exact gx_nil j
  | cons x r ih =>
    intro j hj
    simp only [tlen] at hj
    cases j with
    | zero =>
      rw [gx_zero]
      split at hj
      · split at hj
        · assumption
        · omega
      · omega
    | succ j =>
      rw [gx_succ]
      apply ih
      split at hj
      · omega
      · omega

theorem tlen_top (xs : List Int) (h : 0 < tlen xs) : gx xs (tlen xs - 1) ≠ 0 := by
  induction xs with
  | nil => simp [tlen] at h
  | cons x r ih =>
    simp only [tlen] at h ⊢
    split
    · split
      · rename_i h1 h2; simp [h1, h2] at h
      · rw [gx_zero]; assumption
    · rename_i h1
      have e : tlen r + 1 - 1 = (tlen r - 1) + 1 := by omega
      rw [e, gx_succ]
      exact ih (by omega)

theorem tlen_eq (xs : List Int) (n : Nat) (h2 : ∀ j, n ≤ j → gx xs j = 0) (h3 : n = 0 ∨ gx xs (n - 1) ≠ 0) : tlen xs = n := by
  rcases Nat.lt_trichotomy (tlen xs) n with h | h | h
  · rcases h3 with h3 | h3
    · omega
    · exact absurd (tlen_zero xs (n - 1) (by omega)) h3
  · exact h
  · exact absurd (h2 (tlen xs - 1) (by omega)) (tlen_top xs (by omega))

theorem gx_past (xs : List Int) (n : Nat) (h : xs.length ≤ n) : ∀ j, n ≤ j → gx xs j = 0 := fun j hj => by
  rw [gx, List.getD_eq_getElem?_getD, List.getElem?_eq_none (by omega)]; rfl

def val : List Int → Int
  | [] => 0
  | x :: r => x + 4294967296 * val r

def U32 (xs : List Int) : Prop := ∀ j, 0 ≤ gx xs j ∧ gx xs j < 4294967296

def pw (k : Nat) : Int := 4294967296 ^ k
theorem pw_zero : pw 0 = 1 := rfl
theorem pw_succ (k : Nat) : pw (k + 1) = 4294967296 * pw k := by unfold pw; rw [Int.pow_succ, Int.mul_comm]
theorem pw_pos (k : Nat) : 0 < pw k := Int.pow_pos (by decide)
theorem gx_append_left (a b : List Int) (j : Nat) (h : j < a.length) : gx (a ++ b) j = gx a j := by
  simp [gx, List.getElem?_append_left h]
theorem gx_append_right (a b : List Int) (j : Nat) (h : a.length ≤ j) : gx (a ++ b) j = gx b (j - a.length) := by
  simp [gx, List.getElem?_append_right h]
theorem gx_mem (xs : List Int) (j : Nat) (h : j < xs.length) : gx xs j = xs[j] := by simp [gx, h]
theorem gx_take (xs : List Int) (k j : Nat) (h : j < k) : gx (xs.take k) j = gx xs j := by simp [gx, h]
theorem gx_drop (xs : List Int) (k j : Nat) : gx (xs.drop k) j = gx xs (k + j) := by simp [gx, List.getElem?_drop]
theorem val_append (a b : List Int) : val (a ++ b) = val a + pw a.length * val b := by
  induction a with
  | nil => simp [val, pw_zero]
  | cons x r ih =>
    simp only [List.cons_append, val, List.length_cons, pw_succ, ih, Int.mul_add, Int.mul_assoc]
    omega
theorem u32_take {xs : List Int} (h : U32 xs) (k : Nat) : U32 (xs.take k) := fun j => by
  by_cases hj : j < k
  · rw [gx_take xs k j hj]; exact h j
  · rw [gx_past (xs.take k) k (by simp; omega) j (by omega)]; decide
theorem u32_drop {xs : List Int} (h : U32 xs) (k : Nat) : U32 (xs.drop k) := fun j => by rw [gx_drop]; exact h _
theorem u32_append {a b : List Int} (ha : U32 a) (hb : U32 b) : U32 (a ++ b) := fun j => by
  by_cases hj : j < a.length
  · rw [gx_append_left a b j hj]; exact ha j
  · rw [gx_append_right a b j (by omega)]; exact hb _
theorem u32_one {x : Int} (h : 0 ≤ x ∧ x < 4294967296) : U32 [x] := fun j => by
  cases j with
  | zero => rw [gx_zero]; exact h
  | succ j => rw [gx_succ, gx_nil]; decide
theorem u32_cons {x : Int} {r : List Int} (h : U32 (x :: r)) : (0 ≤ x ∧ x < 4294967296) ∧ U32 r :=
  ⟨by have := h 0; rwa [gx_zero] at this, fun j => by have := h (j + 1); rwa [gx_succ] at this⟩
theorem val_nonneg {xs : List Int} (h : U32 xs) : 0 ≤ val xs := by
  induction xs with
  | nil => simp [val]
  | cons x r ih => obtain ⟨h1, h2⟩ := u32_cons h; have := ih h2; simp only [val]; omega
theorem val_drop_take (xs : List Int) (k : Nat) (h : k ≤ xs.length) : val xs = val (xs.take k) + pw k * val (xs.drop k) := by
  have := val_append (xs.take k) (xs.drop k)
  rwa [List.take_append_drop, List.length_take, Nat.min_eq_left h] at this
theorem val_zeros (xs : List Int) (h : ∀ j, gx xs j = 0) : val xs = 0 := by
  induction xs with
  | nil => rfl
  | cons x r ih =>
    have h0 := h 0
    rw [gx_zero] at h0
    simp only [val, h0, ih (fun j => by have := h (j + 1); rwa [gx_succ] at this)]
    decide
def tr (xs : List Int) : List Int := xs.take (tlen xs)
theorem length_tr (xs : List Int) : (tr xs).length = tlen xs := by simp [tr, tlen_le]
theorem val_tr (xs : List Int) : val (tr xs) = val xs := by
  rw [val_drop_take xs (tlen xs) (tlen_le xs), val_zeros (xs.drop (tlen xs)) (fun j => by rw [gx_drop]; exact tlen_zero xs _ (by omega))]
  simp [tr]
theorem u32_tr {xs : List Int} (h : U32 xs) : U32 (tr xs) := u32_take h _
theorem gx_tr (xs : List Int) (j : Nat) : gx (tr xs) j = gx xs j := by
  by_cases h : j < tlen xs
  · exact gx_take xs _ j h
  · rw [tlen_zero xs j (by omega), gx_past (tr xs) _ (Nat.le_of_eq (length_tr xs)) j (by omega)]
theorem tlen_tr (xs : List Int) : tlen (tr xs) = tlen xs :=
  tlen_eq _ _ (fun j hj => by rw [gx_tr]; exact tlen_zero xs j hj) (by
    rcases Nat.eq_zero_or_pos (tlen xs) with h | h
    · exact .inl h
    · right; rw [gx_tr]; exact tlen_top xs h)
theorem val_pos_of_top {xs : List Int} (h : U32 xs) (ht : 0 < tlen xs) : pw (tlen xs - 1) ≤ val xs := by
  have hl := tlen_le xs
  have e := val_drop_take xs (tlen xs - 1) (by omega)
  have ht' := tlen_top xs ht
  have h1 := val_nonneg (u32_take h (tlen xs - 1))
  have hg := h (tlen xs - 1)
  have h2 : 1 ≤ val (xs.drop (tlen xs - 1)) := by
    cases hd : xs.drop (tlen xs - 1) with
    | nil => have := congrArg List.length hd; simp at this; omega
    | cons x r =>
      have hx : gx xs (tlen xs - 1) = x := by
        have := gx_drop xs (tlen xs - 1) 0
        rw [hd, gx_zero, Nat.add_zero] at this; exact this.symm
      have hr : U32 r := (u32_cons (hd ▸ u32_drop h (tlen xs - 1))).2
      have := val_nonneg hr
      simp only [val]; omega
  have h3 := pw_pos (tlen xs - 1)
  have h4 : pw (tlen xs - 1) * 1 ≤ pw (tlen xs - 1) * val (xs.drop (tlen xs - 1)) := Int.mul_le_mul_of_nonneg_left h2 (by omega)
  omega
theorem tlen_zero_iff {xs : List Int} (h : U32 xs) : tlen xs = 0 ↔ val xs = 0 := by
  constructor
  · intro h0
    rw [← val_tr, tr, h0]; rfl
  · intro h0
    rcases Nat.eq_zero_or_pos (tlen xs) with ht | ht
    · exact ht
    · have := val_pos_of_top h ht; have := pw_pos (tlen xs - 1); omega
end Go.Proofs.YtkbgeggflhfleaaGreatDoor
