/-
  Plain facts on lists of limbs: no program in sight.
-/
import Derived.WalkKit
import Derived.WalkSpells
import Derived.WalkLawsBesides
namespace Go.Proofs.YtfnkomoickanfaaGreatDoor
open Go.RowKit
set_option linter.unusedVariables false
set_option linter.unusedSimpArgs false

def gx (xs : List Int) (j : Nat) : Int := xs.getD j 0
theorem gx_nil (j : Nat) : gx [] j = 0 := by simp [gx]
theorem gx_succ (x : Int) (r : List Int) (j : Nat) : gx (x :: r) (j + 1) = gx r j := by simp [gx]
theorem gx_zero (x : Int) (r : List Int) : gx (x :: r) 0 = x := by simp [gx]

def tlen : List Int → Nat
  | [] => 0
  | x :: r => if tlen r = 0 then (if x = 0 then 0 else 1) else tlen r + 1

theorem tlen_le (xs : List Int) : tlen xs ≤ xs.length := by
  induction xs with
  | nil => simp [tlen]
  | cons x r ih => simp only [tlen, List.length_cons]; split <;> (try split) <;> omega

theorem tlen_zero (xs : List Int) : ∀ j, tlen xs ≤ j → gx xs j = 0 := by
  induction xs with
  | nil => intro j _; exact gx_nil j
  | cons x r ih =>
    intro j hj
    simp only [tlen] at hj
    cases j with
    | zero =>
      rw [gx_zero]
      split at hj
      · split at hj
        · assumption
        · omega
      · omega
    | succ j =>
      rw [gx_succ]
      apply ih
      split at hj
      · omega
      · omega

theorem tlen_top (xs : List Int) (h : 0 < tlen xs) : gx xs (tlen xs - 1) ≠ 0 := by
  induction xs with
  | nil => simp [tlen] at h
  | cons x r ih =>
    simp only [tlen] at h ⊢
    split
    · split
      · rename_i h1 h2; simp [h1, h2] at h
      · rw [gx_zero]; assumption
    · rename_i h1
      have e : tlen r + 1 - 1 = (tlen r - 1) + 1 := by omega
      rw [e, gx_succ]
      exact ih (by omega)

theorem tlen_eq (xs : List Int) (n : Nat) (h2 : ∀ j, n ≤ j → gx xs j = 0) (h3 : n = 0 ∨ gx xs (n - 1) ≠ 0) : tlen xs = n := by
  rcases Nat.lt_trichotomy (tlen xs) n with h | h | h
  · rcases h3 with h3 | h3
    · omega
    · exact absurd (tlen_zero xs (n - 1) (by omega)) h3
  · exact h
  · exact absurd (h2 (tlen xs - 1) (by omega)) (tlen_top xs (by omega))

theorem gx_past (xs : List Int) (n : Nat) (h : xs.length ≤ n) : ∀ j, n ≤ j → gx xs j = 0 := fun j hj => by
  rw [gx, List.getD_eq_getElem?_getD, List.getElem?_eq_none (by omega)]; rfl

def val : List Int → Int
  | [] => 0
  | x :: r => x + 4294967296 * val r

def U32 (xs : List Int) : Prop := ∀ j, 0 ≤ gx xs j ∧ gx xs j < 4294967296

def pw (k : Nat) : Int := 4294967296 ^ k
theorem pw_zero : pw 0 = 1 := rfl
theorem pw_succ (k : Nat) : pw (k + 1) = 4294967296 * pw k := by unfold pw; rw [Int.pow_succ, Int.mul_comm]
theorem pw_pos (k : Nat) : 0 < pw k := Int.pow_pos (by decide)
theorem pw_add (a b : Nat) : pw (a + b) = pw a * pw b := Int.pow_add ..

theorem gx_append_left (a b : List Int) (j : Nat) (h : j < a.length) : gx (a ++ b) j = gx a j := by
  simp [gx, List.getElem?_append_left h]
theorem gx_append_right (a b : List Int) (j : Nat) (h : a.length ≤ j) : gx (a ++ b) j = gx b (j - a.length) := by
  simp [gx, List.getElem?_append_right h]
theorem gx_mem (xs : List Int) (j : Nat) (h : j < xs.length) : gx xs j = xs[j] := by simp [gx, h]
theorem gx_take (xs : List Int) (k j : Nat) (h : j < k) : gx (xs.take k) j = gx xs j := by simp [gx, h]
theorem gx_drop (xs : List Int) (k j : Nat) : gx (xs.drop k) j = gx xs (k + j) := by simp [gx, List.getElem?_drop]
theorem gx_set_eq (xs : List Int) (j : Nat) (v : Int) (h : j < xs.length) : gx (xs.set j v) j = v := by simp [gx, h]
theorem gx_set_ne (xs : List Int) (j k : Nat) (v : Int) (h : j ≠ k) : gx (xs.set j v) k = gx xs k := by simp [gx, List.getElem?_set_ne h]
theorem gx_ext (a b : List Int) (hl : a.length = b.length) (h : ∀ j, j < a.length → gx a j = gx b j) : a = b := by
  apply List.ext_getElem hl
  intro j h1 h2
  have := h j h1
  rwa [gx_mem a j h1, gx_mem b j h2] at this

theorem val_append (a b : List Int) : val (a ++ b) = val a + pw a.length * val b := by
  induction a with
  | nil => simp [val, pw_zero]
  | cons x r ih =>
    simp only [List.cons_append, val, List.length_cons, pw_succ, ih, Int.mul_add, Int.mul_assoc]
    omega
theorem val_one (x : Int) : val [x] = x := by simp [val]
theorem take_snoc (xs : List Int) (k : Nat) (h : k < xs.length) : xs.take (k + 1) = xs.take k ++ [gx xs k] := by
  rw [List.take_succ_eq_append_getElem h, gx_mem xs k h]
theorem val_take_succ (xs : List Int) (k : Nat) (h : k < xs.length) : val (xs.take (k + 1)) = val (xs.take k) + pw k * gx xs k := by
  rw [take_snoc xs k h, val_append, val_one, List.length_take, Nat.min_eq_left (by omega)]
theorem u32_nil : U32 [] := fun j => by rw [gx_nil]; decide
theorem u32_take {xs : List Int} (h : U32 xs) (k : Nat) : U32 (xs.take k) := fun j => by
  by_cases hj : j < k
  · rw [gx_take xs k j hj]; exact h j
  · rw [gx_past (xs.take k) k (by simp; omega) j (by omega)]; decide
theorem u32_drop {xs : List Int} (h : U32 xs) (k : Nat) : U32 (xs.drop k) := fun j => by rw [gx_drop]; exact h _
theorem u32_append {a b : List Int} (ha : U32 a) (hb : U32 b) : U32 (a ++ b) := fun j => by
  by_cases hj : j < a.length
  · rw [gx_append_left a b j hj]; exact ha j
  · rw [gx_append_right a b j (by omega)]; exact hb _
theorem u32_one {x : Int} (h : 0 ≤ x ∧ x < 4294967296) : U32 [x] := fun j => by
  cases j with
  | zero => rw [gx_zero]; exact h
  | succ j => rw [gx_succ, gx_nil]; decide
theorem u32_cons {x : Int} {r : List Int} (h : U32 (x :: r)) : (0 ≤ x ∧ x < 4294967296) ∧ U32 r :=
  ⟨by have := h 0; rwa [gx_zero] at this, fun j => by have := h (j + 1); rwa [gx_succ] at this⟩
theorem val_nonneg {xs : List Int} (h : U32 xs) : 0 ≤ val xs := by
  induction xs with
  | nil => simp [val]
  | cons x r ih => obtain ⟨h1, h2⟩ := u32_cons h; have := ih h2; simp only [val]; omega
theorem val_lt {xs : List Int} (h : U32 xs) : val xs < pw xs.length := by
  induction xs with
  | nil => simp [val, pw_zero]
  | cons x r ih => obtain ⟨h1, h2⟩ := u32_cons h; have := ih h2; simp only [val, List.length_cons, pw_succ]; omega
theorem val_inj {a b : List Int} (ha : U32 a) (hb : U32 b) (hl : a.length = b.length) (h : val a = val b) : a = b := by
  induction a generalizing b with
  | nil => cases b with
    | nil => rfl
    | cons y s => simp at hl
  | cons x r ih => cases b with
    | nil => simp at hl
    | cons y s =>
      obtain ⟨h1, h2⟩ := u32_cons ha
      obtain ⟨h3, h4⟩ := u32_cons hb
      simp only [val] at h
      simp only [List.length_cons] at hl
      rw [ih h2 h4 (by omega) (by omega), show x = y by omega]
theorem val_drop_take (xs : List Int) (k : Nat) (h : k ≤ xs.length) : val xs = val (xs.take k) + pw k * val (xs.drop k) := by
  have := val_append (xs.take k) (xs.drop k)
  rwa [List.take_append_drop, List.length_take, Nat.min_eq_left h] at this
theorem val_zeros (xs : List Int) (h : ∀ j, gx xs j = 0) : val xs = 0 := by
  induction xs with
  | nil => rfl
  | cons x r ih =>
    have h0 := h 0
    rw [gx_zero] at h0
    simp only [val, h0, ih (fun j => by have := h (j + 1); rwa [gx_succ] at this)]
    decide
def tr (xs : List Int) : List Int := xs.take (tlen xs)
theorem length_tr (xs : List Int) : (tr xs).length = tlen xs := by simp [tr, tlen_le]
theorem val_tr (xs : List Int) : val (tr xs) = val xs := by
  rw [val_drop_take xs (tlen xs) (tlen_le xs), val_zeros (xs.drop (tlen xs)) (fun j => by rw [gx_drop]; exact tlen_zero xs _ (by omega))]
  simp [tr]
theorem u32_tr {xs : List Int} (h : U32 xs) : U32 (tr xs) := u32_take h _
theorem gx_tr (xs : List Int) (j : Nat) : gx (tr xs) j = gx xs j := by
  by_cases h : j < tlen xs
  · exact gx_take xs _ j h
  · rw [tlen_zero xs j (by omega), gx_past (tr xs) _ (Nat.le_of_eq (length_tr xs)) j (by omega)]
theorem tlen_tr (xs : List Int) : tlen (tr xs) = tlen xs :=
  tlen_eq _ _ (fun j hj => by rw [gx_tr]; exact tlen_zero xs j hj) (by
    rcases Nat.eq_zero_or_pos (tlen xs) with h | h
    · exact .inl h
    · right; rw [gx_tr]; exact tlen_top xs h)
theorem val_pos_of_top {xs : List Int} (h : U32 xs) (ht : 0 < tlen xs) : pw (tlen xs - 1) ≤ val xs := by
  have hl := tlen_le xs
  have e := val_drop_take xs (tlen xs - 1) (by omega)
  have ht' := tlen_top xs ht
  have h1 := val_nonneg (u32_take h (tlen xs - 1))
  have hg := h (tlen xs - 1)
  have h2 : 1 ≤ val (xs.drop (tlen xs - 1)) := by
    cases hd : xs.drop (tlen xs - 1) with
    | nil => have := congrArg List.length hd; simp at this; omega
    | cons x r =>
      have hx : gx xs (tlen xs - 1) = x := by
        have := gx_drop xs (tlen xs - 1) 0
        rw [hd, gx_zero, Nat.add_zero] at this; exact this.symm
      have hr : U32 r := (u32_cons (hd ▸ u32_drop h (tlen xs - 1))).2
      have := val_nonneg hr
      simp only [val]; omega
  have h3 := pw_pos (tlen xs - 1)
  have h4 : pw (tlen xs - 1) * 1 ≤ pw (tlen xs - 1) * val (xs.drop (tlen xs - 1)) := Int.mul_le_mul_of_nonneg_left h2 (by omega)
  omega
theorem tlen_zero_iff {xs : List Int} (h : U32 xs) : tlen xs = 0 ↔ val xs = 0 := by
  constructor
  · intro h0
    rw [← val_tr, tr, h0]; rfl
  · intro h0
    rcases Nat.eq_zero_or_pos (tlen xs) with ht | ht
    · exact ht
    · have := val_pos_of_top h ht; have := pw_pos (tlen xs - 1); omega
theorem pw_mono {a b : Nat} (h : a ≤ b) : pw a ≤ pw b := by
  obtain ⟨c, rfl⟩ := Nat.exists_eq_add_of_le h
  rw [pw_add]
  have h1 := pw_pos a
  have h2 := pw_pos c
  have : pw a * 1 ≤ pw a * pw c := Int.mul_le_mul_of_nonneg_left (by omega) (by omega)
  omega
theorem val_lt_tlen {xs : List Int} (h : U32 xs) : val xs < pw (tlen xs) := by
  have := val_lt (u32_tr h)
  rwa [val_tr, length_tr] at this
theorem tr_eq {a b : List Int} (ha : U32 a) (hb : U32 b) (h : val a = val b) : tr a = tr b := by
  have hl : tlen a = tlen b := by
    rcases Nat.lt_trichotomy (tlen a) (tlen b) with h1 | h1 | h1
    · have h2 := val_lt_tlen ha
      have h3 := val_pos_of_top hb (by omega)
      have h4 : pw (tlen a) ≤ pw (tlen b - 1) := pw_mono (by omega)
      omega
    · exact h1
    · have h2 := val_lt_tlen hb
      have h3 := val_pos_of_top ha (by omega)
      have h4 : pw (tlen b) ≤ pw (tlen a - 1) := pw_mono (by omega)
      omega
  exact val_inj (u32_tr ha) (u32_tr hb) (by rw [length_tr, length_tr, hl]) (by rw [val_tr, val_tr, h])

theorem row_set (Z new : List Int) (o : Nat) (v : Int) (h : o + new.length < Z.length) :
    (Z.take o ++ new ++ Z.drop (o + new.length)).set (o + new.length) v = Z.take o ++ (new ++ [v]) ++ Z.drop (o + (new.length + 1)) := by
  have hl : (Z.take o ++ new).length = o + new.length := by simp; omega
  rw [List.set_append_right _ _ (by omega), hl, Nat.sub_self, List.drop_eq_getElem_cons h]
  simp [Nat.add_assoc]
theorem row_length (Z new : List Int) (o : Nat) (h : o + new.length ≤ Z.length) : (Z.take o ++ new ++ Z.drop (o + new.length)).length = Z.length := by
  simp; omega
theorem row_gx (Z new : List Int) (o j : Nat) (h : o + new.length ≤ Z.length) (hj : o + new.length ≤ j) : gx (Z.take o ++ new ++ Z.drop (o + new.length)) j = gx Z j := by
  have hl : (Z.take o ++ new).length = o + new.length := by simp; omega
  rw [gx_append_right _ _ _ (by omega), gx_drop, hl]
  congr 1; omega
theorem row_gx_new (Z new : List Int) (o j n : Nat) (h : o ≤ Z.length) (hj : j < new.length) : gx (Z.take o ++ new ++ Z.drop n) (o + j) = gx new j := by
  have hl : (Z.take o).length = o := by simp; omega
  rw [List.append_assoc, gx_append_right _ _ _ (by omega), hl, gx_append_left _ _ _ (by omega)]
  congr 1; omega
theorem row_zero (Z : List Int) (o : Nat) : Z.take o ++ [] ++ Z.drop (o + ([] : List Int).length) = Z := by simp
theorem row_rest (Z new : List Int) (o n : Nat) (h : o + n ≤ Z.length) (hn : new.length ≤ n) :
    Z.take o ++ new ++ Z.drop (o + new.length) = Z.take o ++ (new ++ ((Z.drop o).take n).drop new.length) ++ Z.drop (o + n) := by
  rw [List.append_assoc, List.append_assoc, List.append_assoc]
  congr 2
  rw [List.drop_take, List.drop_drop]
  have e : Z.drop (o + n) = (Z.drop (o + new.length)).drop (n - new.length) := by rw [List.drop_drop]; congr 1; omega
  rw [e, List.take_append_drop]
theorem part_length (Z : List Int) (o n : Nat) (h : o + n ≤ Z.length) : ((Z.drop o).take n).length = n := by simp; omega
theorem part_u32 {Z : List Int} (h : U32 Z) (o n : Nat) : U32 ((Z.drop o).take n) := u32_take (u32_drop h o) n

theorem cut_step (P t : Int) : P * (t % 4294967296) + 4294967296 * P * (t / 4294967296) = P * t := by
  have h := Int.emod_add_mul_ediv t 4294967296
  have e : 4294967296 * P * (t / 4294967296) = P * (4294967296 * (t / 4294967296)) := by
    rw [Int.mul_comm 4294967296 P, Int.mul_assoc]
  rw [e, ← Int.mul_add, h]

theorem wrap_u64_eq (x : Int) : IntKind.u64.wrap x = x % 18446744073709551616 := by rw [IntKind.wrap_u64]
theorem borrow_hi (z x c : Int) (h1 : 0 ≤ z) (h2 : z < 4294967296) (h3 : 0 ≤ x) (h4 : x < 4294967296) (h5 : 0 ≤ c) (h6 : c ≤ 1) :
    IntKind.u64.wrap (IntKind.u64.wrap (z - x) - c) / 9223372036854775808 = -((z - x - c) / 4294967296) := by
  rw [wrap_u64_eq, wrap_u64_eq]; omega
theorem borrow_lo (z x c : Int) (h1 : 0 ≤ z) (h2 : z < 4294967296) (h3 : 0 ≤ x) (h4 : x < 4294967296) (h5 : 0 ≤ c) (h6 : c ≤ 1) :
    IntKind.u64.wrap (IntKind.u64.wrap (z - x) - c) % 4294967296 = (z - x - c) % 4294967296 := by
  rw [wrap_u64_eq, wrap_u64_eq]; omega

def icmp (a b : Int) : Int := if a < b then -1 else if b < a then 1 else 0
theorem icmp_lt {a b : Int} (h : a < b) : icmp a b = -1 := if_pos h
theorem icmp_gt {a b : Int} (h : b < a) : icmp a b = 1 := by rw [icmp, if_neg (by omega), if_pos h]
theorem icmp_eq (a : Int) : icmp a a = 0 := by rw [icmp, if_neg (by omega), if_neg (by omega)]
theorem val_at (a : List Int) (j : Nat) (h : j < a.length) : val a = val (a.take j) + pw j * gx a j + pw (j + 1) * val (a.drop (j + 1)) := by
  rw [val_drop_take a (j + 1) (by omega), val_take_succ a j h]
theorem val_lt_at {a b : List Int} (ha : U32 a) (hb : U32 b) (j : Nat) (h1 : j < a.length) (h2 : j < b.length) (hd : a.drop (j + 1) = b.drop (j + 1)) (h : gx a j < gx b j) : val a < val b := by
  rw [val_at a j h1, val_at b j h2, hd]
  have l1 := val_lt (u32_take ha j)
  have l2 := val_nonneg (u32_take hb j)
  rw [List.length_take, Nat.min_eq_left (by omega)] at l1
  have l3 : pw j * gx a j ≤ pw j * (gx b j - 1) := Int.mul_le_mul_of_nonneg_left (by omega) (Int.le_of_lt (pw_pos j))
  rw [Int.mul_sub, Int.mul_one] at l3
  omega
theorem val_lt_len {a b : List Int} (ha : U32 a) (hb : U32 b) (h : tlen a < tlen b) : val a < val b := by
  have h1 := val_lt_tlen ha
  have h2 := val_pos_of_top hb (by omega)
  have h3 : pw (tlen a) ≤ pw (tlen b - 1) := pw_mono (by omega)
  omega
theorem drop_step {a b : List Int} (j : Nat) (h1 : j < a.length) (h2 : j < b.length) (hd : a.drop (j + 1) = b.drop (j + 1)) (h : gx a j = gx b j) : a.drop j = b.drop j := by
  rw [List.drop_eq_getElem_cons h1, List.drop_eq_getElem_cons h2, hd, ← gx_mem a j h1, ← gx_mem b j h2, h]

end Go.Proofs.YtfnkomoickanfaaGreatDoor
