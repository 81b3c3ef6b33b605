/-
  What begun needs: quotients by one limb, texts of one digit.
-/
import Derived.Test.YtinkkfkepjgahaaDoorWm
import Derived.Test.YtinkkfkepjgahaaDoorWp
import Derived.Test.YtinkkfkepjgahaaDoorProg
import Derived.Shelf.Small.Bits
import Derived.Test.YtinkkfkepjgahaaDoorNi
import Derived.Test.YtinkkfkepjgahaaDoorWk
namespace Go.Proofs.YtinkkfkepjgahaaDoor
open Go.RowKit
set_option linter.unusedVariables false
set_option linter.unusedSimpArgs false

theorem tr_one {ys : List Int} (hU : U32 ys) (h : tlen ys = 1) : tr ys = [val ys] := by
  have hl := length_tr ys
  rw [h] at hl
  match he : tr ys, hl with
  | [d], _ =>
    have := val_tr ys
    rw [he, val_one] at this
    rw [this]

/-- limbs.Quo by a size of one limb. -/
theorem Quo_one (s t : Bool) (p q : Option Addr) (n nc m mc : Nat) (xs ys : List Int) (w : World) (hA : AI w p n nc xs) (hB : AI w q m mc ys) (h1 : tlen ys = 1) :
    Calls Tryd.prog 14 #[.agg #[.bool s, .slice p n nc], .agg #[.bool t, .slice q m mc]] w (QuoPost w (ival s xs) (ival t ys) n m) := by
  have h0 : val ys ≠ 0 := fun e => by have := (tlen_zero_iff hB.u).2 e; omega
  refine Quo_of s t p q n nc m mc xs ys w hA hB h0 (fun W hA' hB' => ?_)
  rcases Int.lt_or_le (val (tr xs)) (val (tr ys)) with h | h
  · exact quotient_lt p q _ nc _ mc (tr xs) (tr ys) W hA' hB' h
  · have ht := tr_one hB.u h1
    have hp := val_nonneg hB.u
    rw [h1] at hB' ⊢
    rw [ht] at hB' h ⊢
    rw [val_one] at h
    exact quotient_one p q _ nc mc (tr xs) (val ys) W hA' hB' (by omega) h

theorem ival_neg {s : Bool} {xs : List Int} {z : Int} (hU : U32 xs) (h : ival s xs = z) (hz : z < 0) : s = true ∧ val xs = -z := by
  have := val_nonneg hU
  cases s
  · simp only [ival, Bool.false_eq_true, if_false] at h; omega
  · simp only [ival, if_true] at h; exact ⟨rfl, by omega⟩
theorem ival_pos {s : Bool} {xs : List Int} {z : Int} (hU : U32 xs) (h : ival s xs = z) (hz : 0 < z) : s = false ∧ val xs = z := by
  have := val_nonneg hU
  cases s
  · simp only [ival, Bool.false_eq_true, if_false] at h; exact ⟨rfl, h⟩
  · simp only [ival, if_true] at h; omega
theorem tlen_small {xs : List Int} (hU : U32 xs) (h0 : 0 < val xs) (h1 : val xs < 4294967296) : tlen xs = 1 := by
  rcases Nat.lt_trichotomy (tlen xs) 1 with h | h | h
  · have := (tlen_zero_iff hU).1 (by omega); omega
  · exact h
  · have h2 := val_pos_of_top hU (by omega)
    have h3 : pw 1 ≤ pw (tlen xs - 1) := pw_mono (by omega)
    have h4 : pw 1 = 4294967296 := rfl
    omega

theorem dgt_zero (d : Int) (k : Nat) (h0 : 0 ≤ d) (h : d < 10) (hk : 0 < k) : dgt d k = 48 := by
  obtain ⟨m, rfl⟩ : ∃ m, k = m + 1 := ⟨k - 1, by omega⟩
  have hp : (0 : Int) < 10 ^ m := Int.pow_pos (by decide)
  unfold dgt
  rw [Int.ediv_eq_zero_of_lt h0 (by rw [Int.pow_succ]; omega)]
  rfl
/-- The text of one digit. -/
theorem text_digit (d : Int) (N : Nat) (D : List Int) (h0 : 0 < d) (h : d < 10) (hN : d < 10 ^ N) (hl : D.length = N) (hD : ∀ j, j < N → gx D j = dgt d (N - 1 - j)) : strip (bys D) = [UInt8.ofNat (48 + d).toNat] := by
  rcases Nat.eq_zero_or_pos N with h1 | h1
  · subst h1; simp at hN; omega
  · have e : D = List.replicate (N - 1) 48 ++ [48 + d] := by
      apply gx_ext
      · simp; omega
      · intro j hj
        rw [hD j (by omega)]
        by_cases hj' : j < N - 1
        · rw [dgt_zero d _ (by omega) h (by omega), gx_append_left _ _ _ (by simpa using hj')]
          simp [gx, hj']
        · have : j = N - 1 := by omega
          subst this
          rw [gx_append_right _ _ _ (by simp)]
          simp only [List.length_replicate, Nat.sub_self, gx_zero, dgt, Int.pow_zero]
          omega
    rw [e, bys, List.map_append, strip]
    have hne : (UInt8.ofNat (48 + d).toNat == 48) = false := by
      have : d = 1 ∨ d = 2 ∨ d = 3 ∨ d = 4 ∨ d = 5 ∨ d = 6 ∨ d = 7 ∨ d = 8 ∨ d = 9 := by omega
      rcases this with rfl | rfl | rfl | rfl | rfl | rfl | rfl | rfl | rfl <;> decide
    have hr : ∀ m, List.dropWhile (· == (48 : UInt8)) (List.map (fun n : Int => UInt8.ofNat n.toNat) (List.replicate m 48) ++ [UInt8.ofNat (48 + d).toNat]) = [UInt8.ofNat (48 + d).toNat] := by
      intro m
      induction m with
      | zero => simp [hne]
      | succ m ih =>
        rw [List.replicate_succ, List.map_cons, List.cons_append, List.dropWhile_cons_of_pos (by decide)]
        exact ih
    simpa using hr (N - 1)
end Go.Proofs.YtinkkfkepjgahaaDoor
/-
  math/bits.Len32, off the shelf.
-/
namespace Go.Proofs.YtinkkfkepjgahaaDoor
open Go.Shelf

def renLen32 : Go.Shelf.Ren := ⟨fun | 128 => 40 | n => n, fun | 3 => 3 | 4 => 4 | 5 => 5 | 9 => 9 | 46 => 77 | 51 => 45 | n => n, fun n => n⟩
theorem laysLen32 : Lays.n128 Tryd.prog renLen32 :=
  { mixed := by kernel_rfl
    f128 := by kernel_rfl
    t3 := by kernel_rfl
    a3 := fun _ => by kernel_rfl
    z3 := fun _ => by kernel_rfl
    v3 := fun _ => by kernel_rfl
    t4 := by kernel_rfl
    a4 := fun _ => by kernel_rfl
    z4 := fun _ => by kernel_rfl
    v4 := fun _ => by kernel_rfl
    t5 := by kernel_rfl
    a5 := fun _ => by kernel_rfl
    z5 := fun _ => by kernel_rfl
    v5 := fun _ => by kernel_rfl
    t9 := by kernel_rfl
    a9 := fun _ => by kernel_rfl
    z9 := fun _ => by kernel_rfl
    v9 := fun _ => by kernel_rfl
    t46 := by kernel_rfl
    a46 := fun _ => by kernel_rfl
    z46 := fun _ => by kernel_rfl
    v46 := fun _ => by kernel_rfl
    t51 := by kernel_rfl
    a51 := fun _ => by kernel_rfl
    z51 := fun _ => by kernel_rfl
    v51 := fun _ => by kernel_rfl }
theorem Len32_any (x : Int) (w : World) (h0 : 0 ≤ x) (h1 : x ≤ 4294967295) :
    Calls Tryd.prog 40 #[.int .u32 x] w fun e w' => e = .returned (.int .i64 (Lib.bitLen x.toNat)) ∧ w' = w := Any.bits_Len32 laysLen32 x w h0 h1
end Go.Proofs.YtinkkfkepjgahaaDoor
/-
  limbs.Bits.
-/
namespace Go.Proofs.YtinkkfkepjgahaaDoor
open Go.RowKit
set_option linter.unusedVariables false
set_option linter.unusedSimpArgs false

/-- How many bits a size has, by its limbs. -/
def nbits (xs : List Int) : Int := if tlen xs = 0 then 0 else 32 * ((tlen xs : Int) - 1) + (Lib.bitLen (gx xs (tlen xs - 1)).toNat : Int)

theorem bitLenAux_le (f x : Nat) : Lib.bitLenAux f x ≤ f := by
  induction f generalizing x with
  | zero => simp [Lib.bitLenAux]
  | succ f ih => simp only [Lib.bitLenAux]; split <;> (have := ih (x / 2); omega)

set_option maxHeartbeats 1000000 in
/-- limbs.Bits. -/
theorem Bits_any (s : Bool) (p : Option Addr) (n nc : Nat) (xs : List Int) (w : World) (hA : AI w p n nc xs) :
    Calls Tryd.prog 19 #[.agg #[.bool s, .slice p n nc]] w fun e w' => e = .returned (.int .i64 (nbits xs)) ∧ Below w.heap.size w w' := by
  have tx := tlen_le xs
  have lx := hA.len
  have hs := hA.sml
  by_cases h0 : tlen xs = 0
  · rw [nbits, if_pos h0]
    go_enter Tryd.func19, Tryd.ntmps19
    go_wp2_with (go_at_call 23; refine (trim_any p n nc xs _ hA.len hA.cap hA.bnd (hA.rd.alloc _)).mono ?_; rintro e w' ⟨rfl, rfl⟩)
    go_ret
    exact ⟨rfl, (Below.refl _ _).alloc (Nat.le_refl _) _⟩
  · rw [nbits, if_neg h0]
    have h1 : (((tlen xs : Nat) : Int) == 0) = false := beq_eq_false_iff_ne.2 (by omega)
    obtain ⟨j, hj⟩ : ∃ j, tlen xs = j + 1 := ⟨tlen xs - 1, by omega⟩
    obtain ⟨b, off, rfl, hc⟩ := (hA.rd.alloc (.cells #[.bool s, .slice p n nc] 24)) (by omega)
    have hcj := hc j (by omega)
    obtain ⟨b0, b1⟩ := hA.u j
    have hbl : Lib.bitLen (gx xs j).toNat ≤ 64 := by
      exact bitLenAux_le 64 _
    clear hc
    have htr := trim_any (some ⟨b, off, none⟩) n nc xs (w.alloc (.cells #[.bool s, .slice (some ⟨b, off, none⟩) n nc] 24)) hA.len hA.cap hA.bnd (hA.rd.alloc _)
    rw [hj] at htr h1 ⊢
    have HT := htr
    go_enter Tryd.func19, Tryd.ntmps19
    go_wp2_with fail
    refine HT.mono ?_
    rintro e w' ⟨rfl, rfl⟩
    go_wp2_with fail
    refine (Len32_any _ _ b0 (by omega)).mono ?_
    rintro e w' ⟨rfl, rfl⟩
    go_wp2
    go_ret
    refine ⟨ret_int ?_, (Below.refl _ _).alloc (Nat.le_refl _) _⟩
    rw [Nat.add_sub_cancel]
    omega
end Go.Proofs.YtinkkfkepjgahaaDoor
/-
  math/bits.Len32, limbs.Bits, limbs.Small.
-/
namespace Go.Proofs.YtinkkfkepjgahaaDoor
open Go.RowKit
set_option linter.unusedVariables false
set_option linter.unusedSimpArgs false

set_option maxHeartbeats 1000000 in
/-- limbs.Small: it fits. -/
theorem Small_fit (s : Bool) (p : Option Addr) (n nc : Nat) (xs : List Int) (w : World) (hA : AI w p n nc xs) (h0 : -9223372036854775808 ≤ ival s xs) (h1 : ival s xs ≤ 9223372036854775807) :
    Calls Tryd.prog 15 #[.agg #[.bool s, .slice p n nc]] w fun e w' => e = .returned (.tuple #[.int .i64 (ival s xs), .bool true]) ∧ Below w.heap.size w w' := by
  have tx := tlen_le xs
  have hv := val_nonneg hA.u
  have ht2 : tlen xs ≤ 2 := by
    rcases Nat.lt_or_ge 2 (tlen xs) with h | h
    · exfalso
      have h2 := val_pos_of_top hA.u (by omega)
      have h3 : pw 2 ≤ pw (tlen xs - 1) := pw_mono (by omega)
      have h4 : pw 2 = 18446744073709551616 := rfl
      cases s <;> simp [ival] at h0 h1 <;> omega
    · exact h
  have hlt : val xs < 18446744073709551616 := by
    have h2 := val_lt_tlen hA.u
    have h3 : pw (tlen xs) ≤ pw 2 := pw_mono ht2
    have h4 : pw 2 = 18446744073709551616 := rfl
    omega
  have ht2' : ¬ (2 < ((tlen xs : Nat) : Int)) := by omega
  cases s
  · have hle : val xs ≤ 9223372036854775807 := by simpa [ival] using h1
    have e : ival false xs = val xs := rfl
    rw [e]
    clear e h0 h1
    go_enter Tryd.func15, Tryd.ntmps15
    go_wp2_with (first
      | (go_at_call 23; refine (trim_any p n nc xs _ hA.len hA.cap hA.bnd (hA.rd.alloc _)).mono ?_; rintro e w' ⟨rfl, rfl⟩)
      | (go_at_call 33; refine (join_any p (tlen xs) nc (tr xs) _ (length_tr xs) ht2 (hA.rd.tr.alloc _) (u32_tr hA.u)).mono ?_; rw [val_tr]; rintro e w' ⟨rfl, rfl⟩))
    go_ret2
    exact ⟨rfl, (Below.refl _ _).alloc (Nat.le_refl _) _⟩
  · have e : ival true xs = - val xs := rfl
    rw [e] at h0 ⊢
    clear e h1
    by_cases hle : val xs ≤ 9223372036854775807
    · go_enter Tryd.func15, Tryd.ntmps15
      go_wp2_with (first
        | (go_at_call 23; refine (trim_any p n nc xs _ hA.len hA.cap hA.bnd (hA.rd.alloc _)).mono ?_; rintro e w' ⟨rfl, rfl⟩)
        | (go_at_call 33; refine (join_any p (tlen xs) nc (tr xs) _ (length_tr xs) ht2 (hA.rd.tr.alloc _) (u32_tr hA.u)).mono ?_; rw [val_tr]; rintro e w' ⟨rfl, rfl⟩))
      go_ret2
      exact ⟨rfl, (Below.refl _ _).alloc (Nat.le_refl _) _⟩
    · have hq : (val xs == 9223372036854775808) = true := beq_iff_eq.2 (by omega)
      go_enter Tryd.func15, Tryd.ntmps15
      go_wp2_with (first
        | (go_at_call 23; refine (trim_any p n nc xs _ hA.len hA.cap hA.bnd (hA.rd.alloc _)).mono ?_; rintro e w' ⟨rfl, rfl⟩)
        | (go_at_call 33; refine (join_any p (tlen xs) nc (tr xs) _ (length_tr xs) ht2 (hA.rd.tr.alloc _) (u32_tr hA.u)).mono ?_; rw [val_tr]; rintro e w' ⟨rfl, rfl⟩))
      go_ret2
      have e : -val xs = -9223372036854775808 := by omega
      rw [e]
      exact ⟨rfl, (Below.refl _ _).alloc (Nat.le_refl _) _⟩
end Go.Proofs.YtinkkfkepjgahaaDoor
