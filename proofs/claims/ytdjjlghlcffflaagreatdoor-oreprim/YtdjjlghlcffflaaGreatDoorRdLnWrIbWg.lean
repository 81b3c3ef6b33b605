/-
  Plain facts on digits to the base 65536 and on numbers in normal form: no program in sight.
-/
import Derived.Test.YtdjjlghlcffflaaGreatDoorWkWlBxBbCvNjUbUcUdOwRaWmBe
import Derived.Test.YtdjjlghlcffflaaGreatDoorUaVgOnWhPn
import Derived.Test.YtdjjlghlcffflaaGreatDoorProg
import Derived.Shelf.Small.Bits
import Derived.Test.YtdjjlghlcffflaaGreatDoorWdWeNi
namespace Go.Proofs.YtdjjlghlcffflaaGreatDoor
open Go.RowKit
set_option linter.unusedVariables false
set_option linter.unusedSimpArgs false
set_option maxHeartbeats 8000000
structure NN (s : Bool) (xs : List Int) (z : Int) : Prop where
  u : U32 xs
  nrm : tlen xs = xs.length
  sg : xs.length = 0 → s = false
  v : ival s xs = z
theorem NI.nn {B : Nat} {w : World} {s : Bool} {p : Option Addr} {n : Nat} {xs : List Int} {z : Int} (h : NI B w s p n xs z) : NN s xs z := ⟨h.u, by rw [h.nrm, h.len], fun e => h.sg (by rw [← h.len, e]), h.v⟩
theorem tr_self {xs : List Int} (h : tlen xs = xs.length) : tr xs = xs := by rw [tr, h, List.take_length]
theorem nn_same {s t : Bool} {xs ys : List Int} {z : Int} (h : NN s xs z) (k : NN t ys z) : s = t ∧ xs = ys := by
  have key : ∀ {s t : Bool} {xs ys : List Int}, NN s xs z → NN t ys z → val xs = val ys → s = t → s = t ∧ xs = ys := fun h k hv hs => by
    have := tr_eq h.u k.u hv
    rw [tr_self h.nrm, tr_self k.nrm] at this
    exact ⟨hs, this⟩
  have hx := val_nonneg h.u
  have hy := val_nonneg k.u
  have h1 := h.v
  have h2 := k.v
  rcases Int.lt_trichotomy z 0 with hz | hz | hz
  · obtain ⟨a, b⟩ := ival_neg h.u h1 hz
    obtain ⟨c, d⟩ := ival_neg k.u h2 hz
    exact key h k (by rw [b, d]) (by rw [a, c])
  · have e1 : val xs = 0 := by cases s <;> simp [ival] at h1 <;> omega
    have e2 : val ys = 0 := by cases t <;> simp [ival] at h2 <;> omega
    have f1 := h.sg (by rw [← h.nrm]; exact (tlen_zero_iff h.u).2 e1)
    have f2 := k.sg (by rw [← k.nrm]; exact (tlen_zero_iff k.u).2 e2)
    exact key h k (by rw [e1, e2]) (by rw [f1, f2])
  · obtain ⟨a, b⟩ := ival_pos h.u h1 hz
    obtain ⟨c, d⟩ := ival_pos k.u h2 hz
    exact key h k (by rw [b, d]) (by rw [a, c])
def pd (k : Nat) : Int := 65536 ^ k
theorem pd_zero : pd 0 = 1 := rfl
theorem pd_succ (k : Nat) : pd (k + 1) = 65536 * pd k := by unfold pd; rw [Int.pow_succ, Int.mul_comm]
theorem pd_pos (k : Nat) : 0 < pd k := Int.pow_pos (by decide)
theorem pd_add (a b : Nat) : pd (a + b) = pd a * pd b := Int.pow_add ..
theorem pd_mono {a b : Nat} (h : a ≤ b) : pd a ≤ pd b := by
  obtain ⟨c, rfl⟩ := Nat.exists_eq_add_of_le h
  rw [pd_add]
  have h1 := pd_pos a
  have h2 := pd_pos c
  have : pd a * 1 ≤ pd a * pd c := Int.mul_le_mul_of_nonneg_left (by omega) (by omega)
  omega
theorem pd_two (k : Nat) : pd (2 * k) = pw k := by
  induction k with
  | zero => rfl
  | succ k ih => rw [show 2 * (k + 1) = 2 * k + 1 + 1 by omega, pd_succ, pd_succ, pw_succ, ih]; omega
theorem vd_append (a b : List Int) : vd (a ++ b) = vd a + pd a.length * vd b := by
  induction a with
  | nil => simp [vd, pd_zero]
  | cons x r ih =>
    simp only [List.cons_append, vd, List.length_cons, pd_succ, ih, Int.mul_add, Int.mul_assoc]
    omega
theorem vd_one (x : Int) : vd [x] = x := by simp [vd]
theorem vd_take_succ (xs : List Int) (k : Nat) : vd (xs.take (k + 1)) = vd (xs.take k) + pd k * gx xs k := by
  by_cases h : k < xs.length
  · rw [take_snoc xs k h, vd_append, vd_one, List.length_take, Nat.min_eq_left (by omega)]
  · rw [gx_past xs k (by omega) k (Nat.le_refl _), List.take_of_length_le (by omega), List.take_of_length_le (by omega)]; simp
theorem u16_nil : U16 [] := fun j => by rw [gx_nil]; decide
theorem u16_take {xs : List Int} (h : U16 xs) (k : Nat) : U16 (xs.take k) := fun j => by
  by_cases hj : j < k
  · rw [gx_take xs k j hj]; exact h j
  · rw [gx_past (xs.take k) k (by simp; omega) j (by omega)]; decide
theorem u16_drop {xs : List Int} (h : U16 xs) (k : Nat) : U16 (xs.drop k) := fun j => by rw [gx_drop]; exact h _
theorem u16_append {a b : List Int} (ha : U16 a) (hb : U16 b) : U16 (a ++ b) := fun j => by
  by_cases hj : j < a.length
  · rw [gx_append_left a b j hj]; exact ha j
  · rw [gx_append_right a b j (by omega)]; exact hb _
theorem u16_one {x : Int} (h : 0 ≤ x ∧ x < 65536) : U16 [x] := u16_cons h u16_nil
theorem u16_tail {x : Int} {r : List Int} (h : U16 (x :: r)) : (0 ≤ x ∧ x < 65536) ∧ U16 r :=
  ⟨by have := h 0; rwa [gx_zero] at this, fun j => by have := h (j + 1); rwa [gx_succ] at this⟩
theorem vd_nonneg {xs : List Int} (h : U16 xs) : 0 ≤ vd xs := by
  induction xs with
  | nil => simp [vd]
  | cons x r ih => obtain ⟨h1, h2⟩ := u16_tail h; have := ih h2; simp only [vd]; omega
theorem vd_lt {xs : List Int} (h : U16 xs) : vd xs < pd xs.length := by
  induction xs with
  | nil => simp [vd, pd_zero]
  | cons x r ih => obtain ⟨h1, h2⟩ := u16_tail h; have := ih h2; simp only [vd, List.length_cons, pd_succ]; omega
theorem vd_drop_take (xs : List Int) (k : Nat) (h : k ≤ xs.length) : vd xs = vd (xs.take k) + pd k * vd (xs.drop k) := by
  have := vd_append (xs.take k) (xs.drop k)
  rwa [List.take_append_drop, List.length_take, Nat.min_eq_left h] at this
theorem vd_at (a : List Int) (j : Nat) (h : j < a.length) : vd a = vd (a.take j) + pd j * gx a j + pd (j + 1) * vd (a.drop (j + 1)) := by
  rw [vd_drop_take a (j + 1) (by omega), vd_take_succ a j]
theorem vd_lt_at {a b : List Int} (ha : U16 a) (hb : U16 b) (j : Nat) (h1 : j < a.length) (h2 : j < b.length) (hd : a.drop (j + 1) = b.drop (j + 1)) (h : gx a j < gx b j) : vd a < vd b := by
  rw [vd_at a j h1, vd_at b j h2, hd]
  have l1 := vd_lt (u16_take ha j)
  have l2 := vd_nonneg (u16_take hb j)
  rw [List.length_take, Nat.min_eq_left (by omega)] at l1
  have l3 : pd j * gx a j ≤ pd j * (gx b j - 1) := Int.mul_le_mul_of_nonneg_left (by omega) (Int.le_of_lt (pd_pos j))
  rw [Int.mul_sub, Int.mul_one] at l3
  omega
theorem vd_pos_of_top {xs : List Int} (h : U16 xs) (ht : 0 < tlen xs) : pd (tlen xs - 1) ≤ vd xs := by
  have hl := tlen_le xs
  have ht' := tlen_top xs ht
  have hg := h (tlen xs - 1)
  rw [vd_at xs (tlen xs - 1) (by omega)]
  have h1 := vd_nonneg (u16_take h (tlen xs - 1))
  have h2 := vd_nonneg (u16_drop h (tlen xs - 1 + 1))
  have h3 := pd_pos (tlen xs - 1)
  have h4 : pd (tlen xs - 1) * 1 ≤ pd (tlen xs - 1) * gx xs (tlen xs - 1) := Int.mul_le_mul_of_nonneg_left (by omega) (by omega)
  have h5 := Int.mul_nonneg (Int.le_of_lt (pd_pos (tlen xs - 1 + 1))) h2
  omega
theorem vd_lt_tlen {xs : List Int} (h : U16 xs) : vd xs < pd (tlen xs) := by
  have := vd_lt (u16_tr h)
  rwa [vd_tr, length_tr] at this
theorem tlen_zero_iff16 {xs : List Int} (h : U16 xs) : tlen xs = 0 ↔ vd xs = 0 := by
  constructor
  · intro h0
    rw [← vd_tr, tr, h0]; rfl
  · intro h0
    rcases Nat.eq_zero_or_pos (tlen xs) with ht | ht
    · exact ht
    · have := vd_pos_of_top h ht; have := pd_pos (tlen xs - 1); omega
theorem vd_lt_len {a b : List Int} (ha : U16 a) (hb : U16 b) (h : tlen a < tlen b) : vd a < vd b := by
  have h1 := vd_lt_tlen ha
  have h2 := vd_pos_of_top hb (by omega)
  have h3 : pd (tlen a) ≤ pd (tlen b - 1) := pd_mono (by omega)
  omega
def jn (ds : List Int) (n : Nat) : List Int := (List.range n).map fun j => gx ds (2 * j) + 65536 * gx ds (2 * j + 1)
theorem length_jn (ds : List Int) (n : Nat) : (jn ds n).length = n := by simp [jn]
theorem jn_succ (ds : List Int) (n : Nat) : jn ds (n + 1) = jn ds n ++ [gx ds (2 * n) + 65536 * gx ds (2 * n + 1)] := by simp [jn, List.range_succ]
theorem u32_jn {ds : List Int} (h : U16 ds) (n : Nat) : U32 (jn ds n) := by
  induction n with
  | zero => exact u32_nil
  | succ n ih => rw [jn_succ]; exact u32_append ih (u32_one (by have := h (2 * n); have := h (2 * n + 1); omega))
theorem val_jn (ds : List Int) (n : Nat) : val (jn ds n) = vd (ds.take (2 * n)) := by
  induction n with
  | zero => rfl
  | succ n ih =>
    rw [jn_succ, val_append, ih, length_jn, val_one, show 2 * (n + 1) = 2 * n + 1 + 1 by omega, vd_take_succ, vd_take_succ, pd_succ, pd_two, Int.mul_add]
    have : pw n * (65536 * gx ds (2 * n + 1)) = 65536 * pw n * gx ds (2 * n + 1) := by rw [← Int.mul_assoc, Int.mul_comm (pw n) 65536]
    omega
theorem gx_jn (ds : List Int) (n j : Nat) (h : j < n) : gx (jn ds n) j = gx ds (2 * j) + 65536 * gx ds (2 * j + 1) := by
  rw [gx_mem _ _ (by rw [length_jn]; exact h)]; simp [jn]
theorem nn_jn {s : Bool} {ds : List Int} {m : Nat} {z : Int} (hU : U16 ds) (hn : tlen ds = ds.length) (hs : ds.length = 0 → s = false) (hv : rval s ds = z) (hm : m = (ds.length + 1) / 2) : NN s (jn ds m) z := by
  refine ⟨u32_jn hU m, ?_, fun h => hs (by rw [length_jn] at h; omega), ?_⟩
  · rw [length_jn]
    rcases Nat.eq_zero_or_pos m with h0 | h0
    · rw [h0]; rfl
    · refine tlen_eq _ _ (fun j hj => gx_past _ m (by rw [length_jn]; omega) j hj) (.inr ?_)
      rw [gx_jn ds m (m - 1) (by omega)]
      have ht := tlen_top ds (by omega)
      rw [hn] at ht
      have h1 := hU (2 * (m - 1))
      have h2 := hU (2 * (m - 1) + 1)
      by_cases he : ds.length - 1 = 2 * (m - 1)
      · rw [he] at ht; omega
      · rw [show ds.length - 1 = 2 * (m - 1) + 1 by omega] at ht; omega
  · rw [ival, val_jn, List.take_of_length_le (by omega)]; exact hv
theorem vd_zero (n : Nat) : vd (zeros n) = 0 := by
  have := vd_append_zeros [] (zeros n) (gx_zeros n)
  simpa [vd] using this
theorem u16_zeros (n : Nat) : U16 (zeros n) := fun j => by rw [gx_zeros]; decide
theorem cut16 (P t : Int) : P * (t % 65536) + 65536 * P * (t / 65536) = P * t := by
  have h := Int.emod_add_mul_ediv t 65536
  have e : 65536 * P * (t / 65536) = P * (65536 * (t / 65536)) := by
    rw [Int.mul_comm 65536 P, Int.mul_assoc]
  rw [e, ← Int.mul_add, h]
theorem vd_set (R : List Int) (j : Nat) (v : Int) (h : j < R.length) : vd (R.set j v) = vd R + pd j * (v - gx R j) := by
  rw [vd_at R j h, vd_at (R.set j v) j (by rw [List.length_set]; exact h), gx_set_eq R j v h, List.take_set_of_le (Nat.le_refl _), List.drop_set_of_lt (by omega), Int.mul_sub]
  omega
theorem u16_set {R : List Int} (h : U16 R) (j : Nat) {v : Int} (hv : 0 ≤ v ∧ v < 65536) : U16 (R.set j v) := fun k => by
  by_cases hk : j = k
  · subst hk
    by_cases hl : j < R.length
    · rw [gx_set_eq R j v hl]; exact hv
    · rw [gx_past (R.set j v) R.length (by simp) j (by omega)]; decide
  · rw [gx_set_ne R j k v hk]; exact h k
open Go.Shelf
def renLen32 : Go.Shelf.Ren := ⟨fun | 128 => 103 | n => n, fun | 3 => 3 | 4 => 4 | 5 => 5 | 9 => 9 | 46 => 158 | 51 => 97 | n => n, fun n => n⟩
theorem laysLen32 : Lays.n128 Tryz.prog renLen32 :=
  { mixed := by kernel_rfl
    f128 := by kernel_rfl
    t3 := by kernel_rfl
    a3 := fun _ => by kernel_rfl
    z3 := fun _ => by kernel_rfl
    v3 := fun _ => by kernel_rfl
    t4 := by kernel_rfl
    a4 := fun _ => by kernel_rfl
    z4 := fun _ => by kernel_rfl
    v4 := fun _ => by kernel_rfl
    t5 := by kernel_rfl
    a5 := fun _ => by kernel_rfl
    z5 := fun _ => by kernel_rfl
    v5 := fun _ => by kernel_rfl
    t9 := by kernel_rfl
    a9 := fun _ => by kernel_rfl
    z9 := fun _ => by kernel_rfl
    v9 := fun _ => by kernel_rfl
    t46 := by kernel_rfl
    a46 := fun _ => by kernel_rfl
    z46 := fun _ => by kernel_rfl
    v46 := fun _ => by kernel_rfl
    t51 := by kernel_rfl
    a51 := fun _ => by kernel_rfl
    z51 := fun _ => by kernel_rfl
    v51 := fun _ => by kernel_rfl }
theorem Len32_any (x : Int) (w : World) (h0 : 0 ≤ x) (h1 : x ≤ 4294967295) :
    Calls Tryz.prog 103 #[.int .u32 x] w fun e w' => e = .returned (.int .i64 (Lib.bitLen x.toNat)) ∧ w' = w := Any.bits_Len32 laysLen32 x w h0 h1
def nbits (xs : List Int) : Int := if tlen xs = 0 then 0 else 32 * ((tlen xs : Int) - 1) + (Lib.bitLen (gx xs (tlen xs - 1)).toNat : Int)
theorem bitLenAux_le (f x : Nat) : Lib.bitLenAux f x ≤ f := by
  induction f generalizing x with
  | zero => simp [Lib.bitLenAux]
  | succ f ih => simp only [Lib.bitLenAux]; split <;> (have := ih (x / 2); omega)
theorem Bits_any (s : Bool) (p : Option Addr) (n nc : Nat) (xs : List Int) (w : World) (hA : AI w p n nc xs) :
    Calls Tryz.prog 51 #[.agg #[.bool s, .slice p n nc]] w fun e w' => e = .returned (.int .i64 (nbits xs)) ∧ Below w.heap.size w w' := by
  have tx := tlen_le xs
  have lx := hA.len
  have hs := hA.sml
  by_cases h0 : tlen xs = 0
  · rw [nbits, if_pos h0]
    go_enter Tryz.func51, Tryz.ntmps51
    go_wp2_with (go_at_call 78; refine (trim_any p n nc xs _ hA.len hA.cap hA.bnd (hA.rd.alloc _)).mono ?_; rintro e w' ⟨rfl, rfl⟩)
    go_ret
    exact ⟨rfl, (Below.refl _ _).alloc (Nat.le_refl _) _⟩
  · rw [nbits, if_neg h0]
    have h1 : (((tlen xs : Nat) : Int) == 0) = false := beq_eq_false_iff_ne.2 (by omega)
    obtain ⟨j, hj⟩ : ∃ j, tlen xs = j + 1 := ⟨tlen xs - 1, by omega⟩
    obtain ⟨b, off, rfl, hc⟩ := (hA.rd.alloc (.cells #[.bool s, .slice p n nc] 50)) (by omega)
    have hcj := hc j (by omega)
    obtain ⟨b0, b1⟩ := hA.u j
    have hbl : Lib.bitLen (gx xs j).toNat ≤ 64 := by
      exact bitLenAux_le 64 _
    clear hc
    have htr := trim_any (some ⟨b, off, none⟩) n nc xs (w.alloc (.cells #[.bool s, .slice (some ⟨b, off, none⟩) n nc] 50)) hA.len hA.cap hA.bnd (hA.rd.alloc _)
    rw [hj] at htr h1 ⊢
    have HT := htr
    go_enter Tryz.func51, Tryz.ntmps51
    go_wp2_with fail
    refine HT.mono ?_
    rintro e w' ⟨rfl, rfl⟩
    go_wp2_with fail
    refine (Len32_any _ _ b0 (by omega)).mono ?_
    rintro e w' ⟨rfl, rfl⟩
    go_wp2
    go_ret
    refine ⟨ret_int ?_, (Below.refl _ _).alloc (Nat.le_refl _) _⟩
    rw [Nat.add_sub_cancel]
    omega
def IB (b : Nat) (x : Int) : Prop := 0 ≤ x ∧ x < 2 ^ b ∧ (b = 0 ∨ (2 : Int) ^ (b - 1) ≤ x)
theorem p2_mono {a b : Nat} (h : a ≤ b) : (2 : Int) ^ a ≤ 2 ^ b := by
  obtain ⟨c, rfl⟩ := Nat.exists_eq_add_of_le h
  rw [Int.pow_add]
  have h1 : (0 : Int) < 2 ^ a := Int.pow_pos (by decide)
  have h2 : (0 : Int) < 2 ^ c := Int.pow_pos (by decide)
  have : (2 : Int) ^ a * 1 ≤ 2 ^ a * 2 ^ c := Int.mul_le_mul_of_nonneg_left (by omega) (by omega)
  omega
theorem IB.uniq {b c : Nat} {x : Int} (h : IB b x) (k : IB c x) : b = c := by
  obtain ⟨h0, h1, h2⟩ := h
  obtain ⟨k0, k1, k2⟩ := k
  rcases Nat.lt_trichotomy b c with hb | hb | hb
  · rcases k2 with k2 | k2
    · omega
    · have := p2_mono (show b ≤ c - 1 by omega); omega
  · exact hb
  · rcases h2 with h2 | h2
    · omega
    · have := p2_mono (show c ≤ b - 1 by omega); omega
theorem IB.join {b m : Nat} {x l : Int} (h : IB b x) (hb : 0 < b) (hl0 : 0 ≤ l) (hl1 : l < 2 ^ m) : IB (m + b) (l + 2 ^ m * x) := by
  obtain ⟨h0, h1, h2⟩ := h
  have hm : (0 : Int) < 2 ^ m := Int.pow_pos (by decide)
  refine ⟨by have := Int.mul_nonneg (Int.le_of_lt hm) h0; omega, ?_, .inr ?_⟩
  · rw [Int.pow_add]
    have : (2 : Int) ^ m * x ≤ 2 ^ m * (2 ^ b - 1) := Int.mul_le_mul_of_nonneg_left (by omega) (by omega)
    rw [Int.mul_sub, Int.mul_one] at this
    omega
  · rcases h2 with h2 | h2
    · omega
    · rw [show m + b - 1 = m + (b - 1) by omega, Int.pow_add]
      have : (2 : Int) ^ m * 2 ^ (b - 1) ≤ 2 ^ m * x := Int.mul_le_mul_of_nonneg_left h2 (by omega)
      omega
theorem bitLenAux_ib (f x : Nat) (h : x < 2 ^ f) : IB (Lib.bitLenAux f x) x := by
  induction f generalizing x with
  | zero =>
    have : x = 0 := by simpa using h
    subst this
    exact ⟨by decide, by decide, .inl rfl⟩
  | succ f ih =>
    simp only [Lib.bitLenAux]
    split
    · rename_i h0; subst h0; exact ⟨by decide, by decide, .inl rfl⟩
    · rename_i h0
      have hx : x / 2 < 2 ^ f := by rw [Nat.pow_succ] at h; omega
      obtain ⟨a0, a1, a2⟩ := ih (x / 2) hx
      refine ⟨by omega, ?_, .inr ?_⟩
      · rw [Nat.add_comm, Int.pow_succ]; omega
      · rw [Nat.add_sub_cancel_left]
        rcases a2 with a2 | a2
        · rw [a2] at a1 ⊢
          have e : (2 : Int) ^ 0 = 1 := rfl
          rw [e]; omega
        · have e : (2 : Int) ^ Lib.bitLenAux f (x / 2) = 2 * 2 ^ (Lib.bitLenAux f (x / 2) - 1) := by
            rcases Nat.eq_zero_or_pos (Lib.bitLenAux f (x / 2)) with hz | hz
            · exfalso
              rw [hz] at a1 a2
              have e0 : (2 : Int) ^ 0 = 1 := rfl
              have e1 : (2 : Int) ^ (0 - 1) = 1 := rfl
              rw [e0] at a1; rw [e1] at a2; omega
            · obtain ⟨c, hc⟩ : ∃ c, Lib.bitLenAux f (x / 2) = c + 1 := ⟨Lib.bitLenAux f (x / 2) - 1, by omega⟩
              rw [hc, Int.pow_succ, Nat.add_sub_cancel]; omega
          rw [e]; omega
theorem pw_p2 (k : Nat) : pw k = 2 ^ (32 * k) := by
  unfold pw
  rw [show (4294967296 : Int) = 2 ^ 32 by decide, ← Int.pow_mul]
theorem nbits_ib {xs : List Int} (h : U32 xs) : ∃ b : Nat, nbits xs = (b : Int) ∧ IB b (val xs) := by
  unfold nbits
  split
  · rename_i h0
    refine ⟨0, rfl, ?_⟩
    rw [(tlen_zero_iff h).1 h0]
    exact ⟨by decide, by decide, .inl rfl⟩
  · rename_i h0
    have ht := tlen_top xs (by omega)
    have hg := h (tlen xs - 1)
    have hl := tlen_le xs
    refine ⟨32 * (tlen xs - 1) + Lib.bitLen (gx xs (tlen xs - 1)).toNat, by omega, ?_⟩
    have hb := bitLenAux_ib 64 (gx xs (tlen xs - 1)).toNat (by omega)
    have e : ((gx xs (tlen xs - 1)).toNat : Int) = gx xs (tlen xs - 1) := by omega
    rw [e] at hb
    have hb0 : 0 < Lib.bitLen (gx xs (tlen xs - 1)).toNat := by
      rcases Nat.eq_zero_or_pos (Lib.bitLen (gx xs (tlen xs - 1)).toNat) with hz | hz
      · exfalso
        have h2 := hb.2.1
        have hz' : Lib.bitLenAux 64 (gx xs (tlen xs - 1)).toNat = 0 := hz
        rw [hz'] at h2
        have e0 : (2 : Int) ^ 0 = 1 := rfl
        rw [e0] at h2; omega
      · exact hz
    have hj := IB.join (m := 32 * (tlen xs - 1)) (l := val (xs.take (tlen xs - 1))) hb hb0 (val_nonneg (u32_take h _)) (by
      have := val_lt (u32_take h (tlen xs - 1))
      rw [List.length_take, Nat.min_eq_left (by omega), pw_p2] at this
      exact this)
    have ev : val xs = val (xs.take (tlen xs - 1)) + 2 ^ (32 * (tlen xs - 1)) * gx xs (tlen xs - 1) := by
      rw [← pw_p2, ← val_take_succ xs (tlen xs - 1) (by omega), show tlen xs - 1 + 1 = tlen xs by omega]
      exact (val_tr xs).symm
    rw [ev]
    exact hj
theorem Add_same (s : Bool) (p q : Option Addr) (n nc m mc : Nat) (xs ys : List Int) (w : World) (hA : AI w p n nc xs) (hB : AI w q m mc ys) :
    Calls Tryz.prog 96 #[.agg #[.bool s, .slice p n nc], .agg #[.bool s, .slice q m mc]] w fun e w' => ∃ s' p' n' zs, e = .returned (.agg #[.bool s', .slice p' n' n']) ∧ NI w.heap.size w' s' p' n' zs (ival s xs + ival s ys) ∧ n' ≤ n + m + 1 ∧ Below w.heap.size w w' := by
  have tx := tlen_le xs
  have ty := tlen_le ys
  have lx := hA.len
  have ly := hB.len
  have bx := hA.sml
  have by' := hB.sml
  have hss : (s == s) = true := by simp
  go_enter Tryz.func96, Tryz.ntmps96
  go_wp2
  go_quiet (first
    | (go_at_call_of 78 (Value.slice p n nc); exact Calls.quiet_of_same (flip_same (trim_any p n nc xs _ hA.len hA.cap hA.bnd (((hA.rd.alloc _).alloc _).alloc _))))
    | (go_at_call_of 78 (Value.slice q m mc); exact Calls.quiet_of_same (flip_same (trim_any q m mc ys _ hB.len hB.cap hB.bnd (((hB.rd.alloc _).alloc _).alloc _)))))
  go_wp2
  have hX := boxes3 w (.bool s) (.slice p n nc) (.bool s) (.slice q m mc) (.bool false) (.slice none 0 0) 50 50 50 nq
  generalize ((((w.alloc (Obj.cells #[Value.bool s, Value.slice p n nc] 50)).alloc (Obj.cells #[Value.bool s, Value.slice q m mc] 50)).alloc (Obj.cells #[Value.bool false, Value.slice none 0 0] 50)).drewN nq) = W at *
  have hA' := hA.below hX.below
  have hB' := hB.below hX.below
  have k0 := hX.ca0
  have k1 := hX.ca1
  go_region_held3 (fun w' => w'.cell? ⟨w.heap.size, 0, none⟩ = some (.bool s) ∧ w'.cell? ⟨w.heap.size, 1, none⟩ = some (.slice p n nc)) (first | (simp [go_sem, *]; done) | exact keepc2 (by assumption) (by assumption))
    (first
      | (go_at_call 148; refine (sum_any p q (tlen xs) nc (tlen ys) mc (tr xs) (tr ys) _ (length_tr xs) (length_tr ys) (by omega) (by omega) ?_ (u32_tr hA.u) ?_ (u32_tr hB.u)).mono ?_; exact hA'.tr.rd.drew; exact hB'.tr.rd.drew; rintro e w1 ⟨M, zs, rfl, m1, m2, m3, z1, z2, z3, z4, hb1⟩)
      | (go_at_call 115; refine (number_any s (some ⟨W.heap.size, 0, none⟩) M M zs _ z1 (Nat.le_refl _) (by unfold maxLen; omega) ?_).mono ?_; exact z4.rd_all; rintro e w2 ⟨rfl, hb2⟩; obtain ⟨c0, c1, f0, f1⟩ := resbox ((undrew hb1).trans (hb2.mono (undrew hb1).size)) hX.cr0 hX.cr1 hX.fr0 hX.fr1))
  go_wp2
  have hsz := hX.size
  have hend := end_number (z := ival s xs + ival s ys) (sg := s) (u := .bool (nsg s zs)) (v := .slice (nad (some ⟨W.heap.size, 0, none⟩) zs) (tlen zs) (tlen zs)) hX.below (r := w.heap.size + 1 + 1) (by omega) (by omega) z4 z2 (undrew hb1) hb2 (by rw [val_tr, val_tr] at z3; simp only [ival, z3]; split <;> omega)
  refine bodyPost_ret (v := .agg #[.bool (nsg s zs), .slice (nad (some ⟨W.heap.size, 0, none⟩) zs) (tlen zs) (tlen zs)]) (by simp [results, Tryz.results96, go_sem, c0, c1]) rfl ⟨_, _, _, tr zs, rfl, hend.1, ?_, hend.2⟩
  have := tlen_le zs
  omega
theorem Add_ge (s : Bool) (p q : Option Addr) (n nc m mc : Nat) (xs ys : List Int) (w : World) (hA : AI w p n nc xs) (hB : AI w q m mc ys) (hge : val ys ≤ val xs) :
    Calls Tryz.prog 96 #[.agg #[.bool s, .slice p n nc], .agg #[.bool (!s), .slice q m mc]] w fun e w' => ∃ s' p' n' zs, e = .returned (.agg #[.bool s', .slice p' n' n']) ∧ NI w.heap.size w' s' p' n' zs (ival s xs + ival (!s) ys) ∧ n' ≤ n + m + 1 ∧ Below w.heap.size w w' := by
  have tx := tlen_le xs
  have ty := tlen_le ys
  have lx := hA.len
  have ly := hB.len
  have bx := hA.sml
  have by' := hB.sml
  have hss : (s == !s) = false := by cases s <;> rfl
  have hic : 0 ≤ icmp (val (tr xs)) (val (tr ys)) := by
    rw [val_tr, val_tr, icmp, if_neg (by omega)]; split <;> decide
  go_enter Tryz.func96, Tryz.ntmps96
  go_wp2
  go_quiet (first
    | (go_at_call_of 78 (Value.slice p n nc); exact Calls.quiet_of_same (flip_same (trim_any p n nc xs _ hA.len hA.cap hA.bnd (((hA.rd.alloc _).alloc _).alloc _))))
    | (go_at_call_of 78 (Value.slice q m mc); exact Calls.quiet_of_same (flip_same (trim_any q m mc ys _ hB.len hB.cap hB.bnd (((hB.rd.alloc _).alloc _).alloc _)))))
  go_wp2_with fail
  have hX0 := boxes3 w (.bool s) (.slice p n nc) (.bool !s) (.slice q m mc) (.bool false) (.slice none 0 0) 50 50 50 nq
  generalize ((((w.alloc (Obj.cells #[Value.bool s, Value.slice p n nc] 50)).alloc (Obj.cells #[Value.bool !s, Value.slice q m mc] 50)).alloc (Obj.cells #[Value.bool false, Value.slice none 0 0] 50)).drewN nq) = W0 at *
  have hA0 := (hA.below hX0.below).tr
  have hB0 := (hB.below hX0.below).tr
  refine (compare_any p q (tlen xs) nc (tlen ys) mc (tr xs) (tr ys) _ (length_tr xs) (length_tr ys) hA0.cap hA0.bnd hB0.cap hB0.bnd hA0.rd hA0.u hB0.rd hB0.u).mono ?_
  rintro e W ⟨rfl, hb0⟩
  have hX := hX0.later hb0
  have hA' := hA.below hX.below
  have hB' := hB.below hX.below
  have k0 := hX.ca0
  have k1 := hX.ca1
  clear hX0 hA0 hB0 hb0 W0
  go_wp2
  go_region_held3 (fun w' => w'.cell? ⟨w.heap.size, 0, none⟩ = some (.bool s) ∧ w'.cell? ⟨w.heap.size, 1, none⟩ = some (.slice p n nc)) (first | (simp [go_sem, *]; done) | exact keepc2 (by assumption) (by assumption))
    (first
      | (go_at_call 149; refine (difference_any p q (tlen xs) nc (tlen ys) mc (tr xs) (tr ys) _ (length_tr xs) (length_tr ys) hB'.tr.cap hB'.bnd (by omega) ?_ (u32_tr hA.u) ?_ (u32_tr hB.u) (by rw [val_tr, val_tr]; exact hge)).mono ?_; exact hA'.tr.rd.drew; exact hB'.tr.rd.drew; rintro e w1 ⟨zs, rfl, z1, z2, z3, z4, hb1⟩)
      | (go_at_call 115; refine (number_any s (some ⟨W.heap.size, 0, none⟩) (tlen xs) (tlen xs) zs _ z1 (Nat.le_refl _) (by unfold maxLen; omega) ?_).mono ?_; exact z4.rd_all; rintro e w2 ⟨rfl, hb2⟩; obtain ⟨c0, c1, f0, f1⟩ := resbox ((undrew hb1).trans (hb2.mono (undrew hb1).size)) hX.cr0 hX.cr1 hX.fr0 hX.fr1))
  go_wp2
  have hsz := hX.size
  have hend := end_number (z := ival s xs + ival (!s) ys) (sg := s) (u := .bool (nsg s zs)) (v := .slice (nad (some ⟨W.heap.size, 0, none⟩) zs) (tlen zs) (tlen zs)) hX.below (r := w.heap.size + 1 + 1) (by omega) (by omega) z4 z2 (undrew hb1) hb2 (by rw [val_tr, val_tr] at z3; cases s <;> simp [ival, z3] <;> omega)
  refine bodyPost_ret (v := .agg #[.bool (nsg s zs), .slice (nad (some ⟨W.heap.size, 0, none⟩) zs) (tlen zs) (tlen zs)]) (by simp [results, Tryz.results96, go_sem, c0, c1]) rfl ⟨_, _, _, tr zs, rfl, hend.1, ?_, hend.2⟩
  have := tlen_le zs
  omega
theorem Add_lt (s : Bool) (p q : Option Addr) (n nc m mc : Nat) (xs ys : List Int) (w : World) (hA : AI w p n nc xs) (hB : AI w q m mc ys) (hge : val xs < val ys) :
    Calls Tryz.prog 96 #[.agg #[.bool s, .slice p n nc], .agg #[.bool (!s), .slice q m mc]] w fun e w' => ∃ s' p' n' zs, e = .returned (.agg #[.bool s', .slice p' n' n']) ∧ NI w.heap.size w' s' p' n' zs (ival s xs + ival (!s) ys) ∧ n' ≤ n + m + 1 ∧ Below w.heap.size w w' := by
  have tx := tlen_le xs
  have ty := tlen_le ys
  have lx := hA.len
  have ly := hB.len
  have bx := hA.sml
  have by' := hB.sml
  have hss : (s == !s) = false := by cases s <;> rfl
  have hic : ¬ 0 ≤ icmp (val (tr xs)) (val (tr ys)) := by
    rw [val_tr, val_tr, icmp_lt hge]; decide
  go_enter Tryz.func96, Tryz.ntmps96
  go_wp2
  go_quiet (first
    | (go_at_call_of 78 (Value.slice p n nc); exact Calls.quiet_of_same (flip_same (trim_any p n nc xs _ hA.len hA.cap hA.bnd (((hA.rd.alloc _).alloc _).alloc _))))
    | (go_at_call_of 78 (Value.slice q m mc); exact Calls.quiet_of_same (flip_same (trim_any q m mc ys _ hB.len hB.cap hB.bnd (((hB.rd.alloc _).alloc _).alloc _)))))
  go_wp2_with fail
  have hX0 := boxes3 w (.bool s) (.slice p n nc) (.bool !s) (.slice q m mc) (.bool false) (.slice none 0 0) 50 50 50 nq
  generalize ((((w.alloc (Obj.cells #[Value.bool s, Value.slice p n nc] 50)).alloc (Obj.cells #[Value.bool !s, Value.slice q m mc] 50)).alloc (Obj.cells #[Value.bool false, Value.slice none 0 0] 50)).drewN nq) = W0 at *
  have hA0 := (hA.below hX0.below).tr
  have hB0 := (hB.below hX0.below).tr
  refine (compare_any p q (tlen xs) nc (tlen ys) mc (tr xs) (tr ys) _ (length_tr xs) (length_tr ys) hA0.cap hA0.bnd hB0.cap hB0.bnd hA0.rd hA0.u hB0.rd hB0.u).mono ?_
  rintro e W ⟨rfl, hb0⟩
  have hX := hX0.later hb0
  have hA' := hA.below hX.below
  have hB' := hB.below hX.below
  have k0 := hX.cb0
  have k1 := hX.cb1
  clear hX0 hA0 hB0 hb0 W0
  go_wp2
  go_region_held3 (fun w' => w'.cell? ⟨w.heap.size + 1, 0, none⟩ = some (.bool !s) ∧ w'.cell? ⟨w.heap.size + 1, 1, none⟩ = some (.slice q m mc)) (first | (simp [go_sem, *]; done) | exact keepc2 (by assumption) (by assumption))
    (first
      | (go_at_call 149; refine (difference_any q p (tlen ys) mc (tlen xs) nc (tr ys) (tr xs) _ (length_tr ys) (length_tr xs) hA'.tr.cap hA'.bnd (by omega) ?_ (u32_tr hB.u) ?_ (u32_tr hA.u) (by rw [val_tr, val_tr]; omega)).mono ?_; exact hB'.tr.rd.drew; exact hA'.tr.rd.drew; rintro e w1 ⟨zs, rfl, z1, z2, z3, z4, hb1⟩)
      | (go_at_call 115; refine (number_any (!s) (some ⟨W.heap.size, 0, none⟩) (tlen ys) (tlen ys) zs _ z1 (Nat.le_refl _) (by unfold maxLen; omega) ?_).mono ?_; exact z4.rd_all; rintro e w2 ⟨rfl, hb2⟩; obtain ⟨c0, c1, f0, f1⟩ := resbox ((undrew hb1).trans (hb2.mono (undrew hb1).size)) hX.cr0 hX.cr1 hX.fr0 hX.fr1))
  go_wp2
  have hsz := hX.size
  have hend := end_number (z := ival s xs + ival (!s) ys) (sg := !s) (u := .bool (nsg (!s) zs)) (v := .slice (nad (some ⟨W.heap.size, 0, none⟩) zs) (tlen zs) (tlen zs)) hX.below (r := w.heap.size + 1 + 1) (by omega) (by omega) z4 z2 (undrew hb1) hb2 (by rw [val_tr, val_tr] at z3; cases s <;> simp [ival, z3] <;> omega)
  refine bodyPost_ret (v := .agg #[.bool (nsg (!s) zs), .slice (nad (some ⟨W.heap.size, 0, none⟩) zs) (tlen zs) (tlen zs)]) (by simp [results, Tryz.results96, go_sem, c0, c1]) rfl ⟨_, _, _, tr zs, rfl, hend.1, ?_, hend.2⟩
  have := tlen_le zs
  omega
theorem Add_any (s t : Bool) (p q : Option Addr) (n nc m mc : Nat) (xs ys : List Int) (w : World) (hA : AI w p n nc xs) (hB : AI w q m mc ys) :
    Calls Tryz.prog 96 #[.agg #[.bool s, .slice p n nc], .agg #[.bool t, .slice q m mc]] w fun e w' => ∃ s' p' n' zs, e = .returned (.agg #[.bool s', .slice p' n' n']) ∧ NI w.heap.size w' s' p' n' zs (ival s xs + ival t ys) ∧ n' ≤ n + m + 1 ∧ Below w.heap.size w w' := by
  by_cases h : s = t
  · subst h; exact Add_same s p q n nc m mc xs ys w hA hB
  · have : t = !s := by cases s <;> cases t <;> simp_all
    subst this
    rcases Int.lt_or_le (val xs) (val ys) with hv | hv
    · exact Add_lt s p q n nc m mc xs ys w hA hB hv
    · exact Add_ge s p q n nc m mc xs ys w hA hB hv
theorem Sub_any (s t : Bool) (p q : Option Addr) (n nc m mc : Nat) (xs ys : List Int) (w : World) (hA : AI w p n nc xs) (hB : AI w q m mc ys) :
    Calls Tryz.prog 82 #[.agg #[.bool s, .slice p n nc], .agg #[.bool t, .slice q m mc]] w fun e w' => ∃ s' p' n' zs, e = .returned (.agg #[.bool s', .slice p' n' n']) ∧ NI w.heap.size w' s' p' n' zs (ival s xs - ival t ys) ∧ n' ≤ n + m + 1 ∧ Below w.heap.size w w' := by
  go_enter Tryz.func82, Tryz.ntmps82
  go_wp2_with fail
  refine (Add_any s (!t) p q n nc m mc xs ys _ (((hA.alloc _).alloc _).alloc _) (((hB.alloc _).alloc _).alloc _)).mono ?_
  rintro e w1 ⟨s', p', n', zs, rfl, hN, hn, hb⟩
  have hX := boxes3 w (.bool s) (.slice p n nc) (.bool t) (.slice q m mc) (.bool false) (.slice none 0 0) 50 50 50 0
  obtain ⟨c0, c1, f0, f1⟩ := resbox hb hX.cr0 hX.cr1 hX.fr0 hX.fr1
  go_wp2
  have hsz := hX.size
  have hend := end_ni (u := .bool s') (v := .slice p' n' n') hX.below (r := w.heap.size + 1 + 1) (by omega) (by omega) hN hb
  refine bodyPost_ret (v := .agg #[.bool s', .slice p' n' n']) (by simp [results, Tryz.results82, go_sem, c0, c1]) rfl ⟨_, _, _, zs, rfl, ?_, hn, hend.2⟩
  have := hend.1
  rwa [ival_not, show ival s xs + - ival t ys = ival s xs - ival t ys by omega] at this
end Go.Proofs.YtdjjlghlcffflaaGreatDoor
