/-
  Plain facts on digits to the base 65536 and on numbers in normal form: no program in sight.
-/
import Derived.Test.YtkbgeggflhfleaaGreatDoorWlBxBbCvNjUbUcUdOwRaWmBe
import Derived.Test.YtkbgeggflhfleaaGreatDoorUaWhPnWk
import Derived.Test.YtkbgeggflhfleaaGreatDoorProg
import Derived.Shelf.Small.Bits
import Derived.Test.YtkbgeggflhfleaaGreatDoorWeNi
import Derived.StillTailTactics
import Derived.Lib.TrailingZeros
namespace Go.Proofs.YtkbgeggflhfleaaGreatDoor
open Go.RowKit
set_option linter.unusedVariables false
set_option linter.unusedSimpArgs false
set_option maxHeartbeats 8000000
theorem tr_self {xs : List Int} (h : tlen xs = xs.length) : tr xs = xs := by rw [tr, h, List.take_length]
def pd (k : Nat) : Int := 65536 ^ k
theorem pd_zero : pd 0 = 1 := rfl
theorem pd_succ (k : Nat) : pd (k + 1) = 65536 * pd k := by unfold pd; rw [Int.pow_succ, Int.mul_comm]
theorem pd_pos (k : Nat) : 0 < pd k := Int.pow_pos (by decide)
theorem pd_add (a b : Nat) : pd (a + b) = pd a * pd b := Int.pow_add ..
theorem pd_mono {a b : Nat} (h : a ≤ b) : pd a ≤ pd b := by
  obtain ⟨c, rfl⟩ := Nat.exists_eq_add_of_le h
  rw [pd_add]
  have h1 := pd_pos a
  have h2 := pd_pos c
  have : pd a * 1 ≤ pd a * pd c := Int.mul_le_mul_of_nonneg_left (by omega) (by omega)
  omega
theorem pd_two (k : Nat) : pd (2 * k) = pw k := by
  induction k with
  | zero => rfl
  | succ k ih => rw [show 2 * (k + 1) = 2 * k + 1 + 1 by omega, pd_succ, pd_succ, pw_succ, ih]; omega
theorem vd_append (a b : List Int) : vd (a ++ b) = vd a + pd a.length * vd b := by
  induction a with
  | nil => simp [vd, pd_zero]
  | cons x r ih =>
    simp only [List.cons_append, vd, List.length_cons, pd_succ, ih, Int.mul_add, Int.mul_assoc]
    omega
theorem vd_one (x : Int) : vd [x] = x := by simp [vd]
theorem vd_take_succ (xs : List Int) (k : Nat) : vd (xs.take (k + 1)) = vd (xs.take k) + pd k * gx xs k := by
  by_cases h : k < xs.length
  · rw [take_snoc xs k h, vd_append, vd_one, List.length_take, Nat.min_eq_left (by omega)]
  · rw [gx_past xs k (by omega) k (Nat.le_refl _), List.take_of_length_le (by omega), List.take_of_length_le (by omega)]; simp
theorem u16_nil : U16 [] := fun j => by rw [gx_nil]; decide
theorem u16_take {xs : List Int} (h : U16 xs) (k : Nat) : U16 (xs.take k) := fun j => by
  by_cases hj : j < k
  · rw [gx_take xs k j hj]; exact h j
  · rw [gx_past (xs.take k) k (by simp; omega) j (by omega)]; decide
theorem u16_drop {xs : List Int} (h : U16 xs) (k : Nat) : U16 (xs.drop k) := fun j => by rw [gx_drop]; exact h _
theorem u16_append {a b : List Int} (ha : U16 a) (hb : U16 b) : U16 (a ++ b) := fun j => by
  by_cases hj : j < a.length
  · rw [gx_append_left a b j hj]; exact ha j
  · rw [gx_append_right a b j (by omega)]; exact hb _
theorem u16_one {x : Int} (h : 0 ≤ x ∧ x < 65536) : U16 [x] := u16_cons h u16_nil
theorem u16_tail {x : Int} {r : List Int} (h : U16 (x :: r)) : (0 ≤ x ∧ x < 65536) ∧ U16 r :=
  ⟨by have := h 0; rwa [gx_zero] at this, fun j => by have := h (j + 1); rwa [gx_succ] at this⟩
theorem vd_nonneg {xs : List Int} (h : U16 xs) : 0 ≤ vd xs := by
  induction xs with
  | nil => simp [vd]
  | cons x r ih => obtain ⟨h1, h2⟩ := u16_tail h; have := ih h2; simp only [vd]; omega
theorem vd_lt {xs : List Int} (h : U16 xs) : vd xs < pd xs.length := by
  induction xs with
  | nil => simp [vd, pd_zero]
  | cons x r ih => obtain ⟨h1, h2⟩ := u16_tail h; have := ih h2; simp only [vd, List.length_cons, pd_succ]; omega
theorem vd_drop_take (xs : List Int) (k : Nat) (h : k ≤ xs.length) : vd xs = vd (xs.take k) + pd k * vd (xs.drop k) := by
  have := vd_append (xs.take k) (xs.drop k)
  rwa [List.take_append_drop, List.length_take, Nat.min_eq_left h] at this
theorem vd_at (a : List Int) (j : Nat) (h : j < a.length) : vd a = vd (a.take j) + pd j * gx a j + pd (j + 1) * vd (a.drop (j + 1)) := by
  rw [vd_drop_take a (j + 1) (by omega), vd_take_succ a j]
theorem vd_lt_at {a b : List Int} (ha : U16 a) (hb : U16 b) (j : Nat) (h1 : j < a.length) (h2 : j < b.length) (hd : a.drop (j + 1) = b.drop (j + 1)) (h : gx a j < gx b j) : vd a < vd b := by
  rw [vd_at a j h1, vd_at b j h2, hd]
  have l1 := vd_lt (u16_take ha j)
  have l2 := vd_nonneg (u16_take hb j)
  rw [List.length_take, Nat.min_eq_left (by omega)] at l1
  have l3 : pd j * gx a j ≤ pd j * (gx b j - 1) := Int.mul_le_mul_of_nonneg_left (by omega) (Int.le_of_lt (pd_pos j))
  rw [Int.mul_sub, Int.mul_one] at l3
  omega
theorem vd_pos_of_top {xs : List Int} (h : U16 xs) (ht : 0 < tlen xs) : pd (tlen xs - 1) ≤ vd xs := by
  have hl := tlen_le xs
  have ht' := tlen_top xs ht
  have hg := h (tlen xs - 1)
  rw [vd_at xs (tlen xs - 1) (by omega)]
  have h1 := vd_nonneg (u16_take h (tlen xs - 1))
  have h2 := vd_nonneg (u16_drop h (tlen xs - 1 + 1))
  have h3 := pd_pos (tlen xs - 1)
  have h4 : pd (tlen xs - 1) * 1 ≤ pd (tlen xs - 1) * gx xs (tlen xs - 1) := Int.mul_le_mul_of_nonneg_left (by omega) (by omega)
  have h5 := Int.mul_nonneg (Int.le_of_lt (pd_pos (tlen xs - 1 + 1))) h2
  omega
theorem vd_lt_tlen {xs : List Int} (h : U16 xs) : vd xs < pd (tlen xs) := by
  have := vd_lt (u16_tr h)
  rwa [vd_tr, length_tr] at this
theorem tlen_zero_iff16 {xs : List Int} (h : U16 xs) : tlen xs = 0 ↔ vd xs = 0 := by
  constructor
  · intro h0
    rw [← vd_tr, tr, h0]; rfl
  · intro h0
    rcases Nat.eq_zero_or_pos (tlen xs) with ht | ht
    · exact ht
    · have := vd_pos_of_top h ht; have := pd_pos (tlen xs - 1); omega
theorem vd_lt_len {a b : List Int} (ha : U16 a) (hb : U16 b) (h : tlen a < tlen b) : vd a < vd b := by
  have h1 := vd_lt_tlen ha
  have h2 := vd_pos_of_top hb (by omega)
  have h3 : pd (tlen a) ≤ pd (tlen b - 1) := pd_mono (by omega)
  omega
theorem u16_zeros (n : Nat) : U16 (zeros n) := fun j => by rw [gx_zeros]; decide
theorem cut16 (P t : Int) : P * (t % 65536) + 65536 * P * (t / 65536) = P * t := by
  have h := Int.emod_add_mul_ediv t 65536
  have e : 65536 * P * (t / 65536) = P * (65536 * (t / 65536)) := by
    rw [Int.mul_comm 65536 P, Int.mul_assoc]
  rw [e, ← Int.mul_add, h]
theorem u16_set {R : List Int} (h : U16 R) (j : Nat) {v : Int} (hv : 0 ≤ v ∧ v < 65536) : U16 (R.set j v) := fun k => by
  by_cases hk : j = k
  · subst hk
    by_cases hl : j < R.length
    · rw [gx_set_eq R j v hl]; exact hv
    · rw [gx_past (R.set j v) R.length (by simp) j (by omega)]; decide
  · rw [gx_set_ne R j k v hk]; exact h k
open Go.Shelf
def renLen32 : Go.Shelf.Ren := ⟨fun | 128 => 181 | n => n, fun | 3 => 3 | 4 => 4 | 5 => 5 | 9 => 9 | 46 => 173 | 51 => 134 | n => n, fun n => n⟩
theorem laysLen32 : Lays.n128 Tryz.prog renLen32 :=
  { mixed := by kernel_rfl
    f128 := by kernel_rfl
    t3 := by kernel_rfl
    a3 := fun _ => by kernel_rfl
    z3 := fun _ => by kernel_rfl
    v3 := fun _ => by kernel_rfl
    t4 := by kernel_rfl
    a4 := fun _ => by kernel_rfl
    z4 := fun _ => by kernel_rfl
    v4 := fun _ => by kernel_rfl
    t5 := by kernel_rfl
    a5 := fun _ => by kernel_rfl
    z5 := fun _ => by kernel_rfl
    v5 := fun _ => by kernel_rfl
    t9 := by kernel_rfl
    a9 := fun _ => by kernel_rfl
    z9 := fun _ => by kernel_rfl
    v9 := fun _ => by kernel_rfl
    t46 := by kernel_rfl
    a46 := fun _ => by kernel_rfl
    z46 := fun _ => by kernel_rfl
    v46 := fun _ => by kernel_rfl
    t51 := by kernel_rfl
    a51 := fun _ => by kernel_rfl
    z51 := fun _ => by kernel_rfl
    v51 := fun _ => by kernel_rfl }
theorem Len32_any (x : Int) (w : World) (h0 : 0 ≤ x) (h1 : x ≤ 4294967295) :
    Calls Tryz.prog 181 #[.int .u32 x] w fun e w' => e = .returned (.int .i64 (Lib.bitLen x.toNat)) ∧ w' = w := Any.bits_Len32 laysLen32 x w h0 h1
def IB (b : Nat) (x : Int) : Prop := 0 ≤ x ∧ x < 2 ^ b ∧ (b = 0 ∨ (2 : Int) ^ (b - 1) ≤ x)
theorem p2_mono {a b : Nat} (h : a ≤ b) : (2 : Int) ^ a ≤ 2 ^ b := by
  obtain ⟨c, rfl⟩ := Nat.exists_eq_add_of_le h
  rw [Int.pow_add]
  have h1 : (0 : Int) < 2 ^ a := Int.pow_pos (by decide)
  have h2 : (0 : Int) < 2 ^ c := Int.pow_pos (by decide)
  have : (2 : Int) ^ a * 1 ≤ 2 ^ a * 2 ^ c := Int.mul_le_mul_of_nonneg_left (by omega) (by omega)
  omega
theorem IB.join {b m : Nat} {x l : Int} (h : IB b x) (hb : 0 < b) (hl0 : 0 ≤ l) (hl1 : l < 2 ^ m) : IB (m + b) (l + 2 ^ m * x) := by
  obtain ⟨h0, h1, h2⟩ := h
  have hm : (0 : Int) < 2 ^ m := Int.pow_pos (by decide)
  refine ⟨by have := Int.mul_nonneg (Int.le_of_lt hm) h0; omega, ?_, .inr ?_⟩
  · rw [Int.pow_add]
    have : (2 : Int) ^ m * x ≤ 2 ^ m * (2 ^ b - 1) := Int.mul_le_mul_of_nonneg_left (by omega) (by omega)
    rw [Int.mul_sub, Int.mul_one] at this
    omega
  · rcases h2 with h2 | h2
    · omega
    · rw [show m + b - 1 = m + (b - 1) by omega, Int.pow_add]
      have : (2 : Int) ^ m * 2 ^ (b - 1) ≤ 2 ^ m * x := Int.mul_le_mul_of_nonneg_left h2 (by omega)
      omega
theorem bitLenAux_ib (f x : Nat) (h : x < 2 ^ f) : IB (Lib.bitLenAux f x) x := by
  induction f generalizing x with
  | zero =>
    have : x = 0 := by simpa using h
    subst this
    exact ⟨by decide, by decide, .inl rfl⟩
  | succ f ih =>
    simp only [Lib.bitLenAux]
    split
    · rename_i h0; subst h0; exact ⟨by decide, by decide, .inl rfl⟩
    · rename_i h0
      have hx : x / 2 < 2 ^ f := by rw [Nat.pow_succ] at h; omega
      obtain ⟨a0, a1, a2⟩ := ih (x / 2) hx
      refine ⟨by omega, ?_, .inr ?_⟩
      · rw [Nat.add_comm, Int.pow_succ]; omega
      · rw [Nat.add_sub_cancel_left]
        rcases a2 with a2 | a2
        · rw [a2] at a1 ⊢
          have e : (2 : Int) ^ 0 = 1 := rfl
          rw [e]; omega
        · have e : (2 : Int) ^ Lib.bitLenAux f (x / 2) = 2 * 2 ^ (Lib.bitLenAux f (x / 2) - 1) := by
            rcases Nat.eq_zero_or_pos (Lib.bitLenAux f (x / 2)) with hz | hz
            · exfalso
              rw [hz] at a1 a2
              have e0 : (2 : Int) ^ 0 = 1 := rfl
              have e1 : (2 : Int) ^ (0 - 1) = 1 := rfl
              rw [e0] at a1; rw [e1] at a2; omega
            · obtain ⟨c, hc⟩ : ∃ c, Lib.bitLenAux f (x / 2) = c + 1 := ⟨Lib.bitLenAux f (x / 2) - 1, by omega⟩
              rw [hc, Int.pow_succ, Nat.add_sub_cancel]; omega
          rw [e]; omega
theorem pw_p2 (k : Nat) : pw k = 2 ^ (32 * k) := by
  unfold pw
  rw [show (4294967296 : Int) = 2 ^ 32 by decide, ← Int.pow_mul]
theorem Mod_any (s : Bool) (p : Option Addr) (n nc : Nat) (xs : List Int) (m : Int) (w : World) (hA : AI w p n nc xs) (h1 : 1 ≤ m) (h2 : m ≤ 2147483647) :
    Calls Tryz.prog 67 #[.agg #[.bool s, .slice p n nc], .int .i64 m] w fun e w' => e = .returned (.tuple #[.int .i64 (ival s xs % m), .int .i64 0]) ∧ Below w.heap.size w w' := by
  have h1' : ¬ m < 1 := by omega
  have h2' : ¬ 2147483647 < m := by omega
  have hl := hA.len
  have hs := hA.sml
  go_enter Tryz.func67, Tryz.ntmps67
  go_wp2
  go_loop [6, 7] (fun rv iv => ∃ (k : Nat) (r : Int), k ≤ n ∧ iv = .int .i64 ((k : Int) - 1) ∧ rv = .int .u64 r ∧ 0 ≤ r ∧ r < m ∧ Hid (r = val (xs.drop k) % m)) (fun _ iv => (intOf iv + 1).toNat)
  case atStart => exact ⟨n, 0, Nat.le_refl _, by go_num, rfl, by decide, by omega, by show _ = _; rw [List.drop_of_length_le (by omega)]; simp [val]⟩
  case round =>
    obtain ⟨k, r, hk, rfl, rfl, hr0, hr1, HR⟩ := hrel
    by_cases h0 : k = 0
    · subst h0
      have hv := HR.out
      rw [List.drop_zero] at hv
      have HV : Hid (r = val xs % m) := hv
      clear hv HR
      cases s
      · go_wp2
        go_ret2
        have hv := HV.out
        subst hv
        exact ⟨rfl, (Below.refl _ _).alloc (Nat.le_refl _) _⟩
      · by_cases hz : r = 0
        · have hz' : ¬ 0 < r := by omega
          go_wp2
          go_ret2
          have hv := HV.out
          have e : ival true xs % m = 0 := by
            simp only [ival, if_true]; rw [hz] at hv; exact Int.emod_eq_zero_of_dvd (Int.dvd_neg.2 (Int.dvd_of_emod_eq_zero hv.symm))
          rw [e]
          exact ⟨rfl, (Below.refl _ _).alloc (Nat.le_refl _) _⟩
        · have hz' : 0 < r := by omega
          go_wp2
          go_ret2
          have hv := HV.out
          have e : ival true xs % m = m - r := by
            simp only [ival, if_true]
            exact neg_emod h1 hv hz
          rw [e]
          exact ⟨rfl, (Below.refl _ _).alloc (Nat.le_refl _) _⟩
    · obtain ⟨j, rfl⟩ : ∃ j, k = j + 1 := ⟨k - 1, by omega⟩
      have ej : ((j + 1 : Nat) : Int) - 1 = (j : Int) := by omega
      rw [ej]
      clear ej
      obtain ⟨b, off, hp, hcell⟩ := hA.rd (by omega)
      have hc := hcell j (by omega)
      have hlt := block_lt_of_cell hc
      obtain ⟨b0, b1⟩ := hA.u j
      have ho := or_join r (gx xs j) hr0 (by omega) b0 b1
      have hmz : (m == 0) = false := beq_eq_false_iff_ne.2 (by omega)
      subst hp
      clear hcell
      go_wp2
      refine ⟨⟨j, _, by omega, rfl, rfl, Int.emod_nonneg _ (by omega), Int.emod_lt_of_pos _ (by omega), ?_⟩, by simp [intOf]⟩
      show _ = _
      rw [drop_cons xs j (by omega)]
      simp only [val]
      have e := Int.emod_add_mul_ediv (val (xs.drop (j + 1))) m
      rw [← HR.out] at e
      have e2 : gx xs j + 4294967296 * val (xs.drop (j + 1)) = (r * 4294967296 + gx xs j) + m * (4294967296 * (val (xs.drop (j + 1)) / m)) := by
        rw [Int.mul_left_comm]; omega
      rw [e2, Int.add_mul_emod_self_left]
end Go.Proofs.YtkbgeggflhfleaaGreatDoor
namespace Go.Proofs.YtkbgeggflhfleaaGreatDoor.Gs
open Go.Proofs.YtkbgeggflhfleaaGreatDoor
set_option linter.unusedVariables false
set_option linter.unusedSimpArgs false
theorem natCast_dvd {n : Nat} {x : Int} : (n : Int) ∣ x ↔ n ∣ x.natAbs := by
  rw [← Int.natAbs_dvd_natAbs, Int.natAbs_natCast]
def Pri (p : Int) : Prop := 1 < p.natAbs ∧ ∀ x y : Int, p ∣ x * y → p ∣ x ∨ p ∣ y
theorem pri_of_min {p : Nat} (h1 : 1 < p) (hm : ∀ d, 1 < d → d ∣ p → d = p) : Pri (p : Int) := by
  refine ⟨by simpa using h1, fun x y h => ?_⟩
  by_cases hx : (p : Int) ∣ x
  · exact .inl hx
  · refine .inr ?_
    have hg : Nat.gcd p x.natAbs = 1 := by
      rcases Nat.lt_trichotomy (Nat.gcd p x.natAbs) 1 with h2 | h2 | h2
      · have h3 : Nat.gcd p x.natAbs = 0 := by omega
        have h4 := Nat.gcd_eq_zero_iff.1 h3
        omega
      · exact h2
      · exfalso
        have h3 := hm _ h2 (Nat.gcd_dvd_left p x.natAbs)
        have h4 := Nat.gcd_dvd_right p x.natAbs
        rw [h3] at h4
        exact hx (natCast_dvd.2 h4)
    have h5 : p ∣ x.natAbs * y.natAbs := by
      rw [← Int.natAbs_mul]
      exact natCast_dvd.1 h
    exact natCast_dvd.2 ((show Nat.Coprime p x.natAbs from hg).dvd_of_dvd_mul_left h5)
end Go.Proofs.YtkbgeggflhfleaaGreatDoor.Gs
namespace Go.Proofs.YtkbgeggflhfleaaGreatDoor.Cp
open Go.Proofs.YtkbgeggflhfleaaGreatDoor
def sq (m : Nat) : Nat → Nat → Bool
  | 0, _ => false
  | s + 1, a => a == m - 1 || sq m s (a * a % m)
def ps (m b : Nat) : Bool := let a := b ^ ((m - 1) / 2 ^ Lib.ctz 64 (m - 1)) % m; a == 1 || sq m (Lib.ctz 64 (m - 1)) a
def ip (m : Nat) : Bool := ps m 2 && (ps m 3 && (ps m 5 && ps m 7))
def fp (m : Nat) : Nat → Nat → Nat → Nat → Nat
  | 0, z, _, _ => z
  | k + 1, z, a, n => bif n % 2 == 1 then fp m k (z * a % m) (a * a % m) (n / 2) else fp m k z (a * a % m) (n / 2)
theorem pow_mod' (x m : Nat) (j : Nat) : (x % m) ^ j % m = x ^ j % m := (Nat.pow_mod x j m).symm
theorem fp_eq (m : Nat) : ∀ (k z a n : Nat), n < 2 ^ k → z < m → fp m k z a n = z * a ^ n % m
  | 0, z, a, n, h, hz => by
    obtain rfl : n = 0 := by simp at h; omega
    rw [fp, Nat.pow_zero, Nat.mul_one, Nat.mod_eq_of_lt hz]
  | k + 1, z, a, n, h, hz => by
    have h2 : n / 2 < 2 ^ k := by rw [Nat.pow_succ] at h; omega
    have e2 : ∀ u : Nat, u * (a * a % m) ^ (n / 2) % m = u * a ^ (2 * (n / 2)) % m := fun u => by
      rw [Nat.mul_mod, pow_mod', ← Nat.mul_mod, Nat.pow_mul, show a ^ 2 = a * a from by rw [Nat.pow_succ, Nat.pow_succ, Nat.pow_zero, Nat.one_mul]]
    rw [fp]
    rcases Nat.mod_two_eq_zero_or_one n with hp | hp
    · rw [hp, show ((0 : Nat) == 1) = false from rfl, cond_false, fp_eq m k _ _ _ h2 hz, e2]
      rw [show 2 * (n / 2) = n by omega]
    · rw [hp, show ((1 : Nat) == 1) = true from rfl, cond_true, fp_eq m k _ _ _ h2 (Nat.mod_lt _ (by omega)), e2, Nat.mul_mod, Nat.mod_mod, ← Nat.mul_mod, Nat.mul_assoc,
        ← Nat.pow_succ', show (2 * (n / 2)).succ = n by omega]
def psF (m b : Nat) : Bool := (fun s => (fun a => a == 1 || sq m s a) (fp m 32 1 b ((m - 1) / 2 ^ s))) (Lib.ctz 64 (m - 1))
theorem psF_eq {m b : Nat} (h1 : 1 < m) (h : m < 4294967296) : psF m b = ps m b := by
  unfold psF ps
  have hd : (m - 1) / 2 ^ Lib.ctz 64 (m - 1) ≤ m - 1 := Nat.div_le_self _ _
  show (fp m 32 1 b ((m - 1) / 2 ^ Lib.ctz 64 (m - 1)) == 1 || sq m (Lib.ctz 64 (m - 1)) (fp m 32 1 b ((m - 1) / 2 ^ Lib.ctz 64 (m - 1)))) = _
  rw [fp_eq m 32 1 b _ (by omega) h1, Nat.one_mul]
def ipF (m : Nat) : Bool := bif psF m 2 then bif psF m 3 then bif psF m 5 then psF m 7 else false else false else false
theorem ipF_eq {m : Nat} (h1 : 1 < m) (h : m < 4294967296) : ipF m = ip m := by
  unfold ipF ip
  rw [psF_eq h1 h, psF_eq h1 h, psF_eq h1 h, psF_eq h1 h]
  cases ps m 2 <;> cases ps m 3 <;> cases ps m 5 <;> cases ps m 7 <;> rfl
def prodR : Nat → Nat → Nat
  | 0, lo => lo
  | n + 1, lo => prodR n lo * prodR n (lo + 2 ^ n)
theorem dvd_prodR : ∀ (n lo d : Nat), lo ≤ d → d < lo + 2 ^ n → d ∣ prodR n lo
  | 0, lo, d, h1, h2 => by
    obtain rfl : d = lo := by simp at h2; omega
    exact Nat.dvd_refl _
  | n + 1, lo, d, h1, h2 => by
    rw [prodR]
    rcases Nat.lt_or_ge d (lo + 2 ^ n) with h | h
    · exact Nat.dvd_trans (dvd_prodR n lo d h1 h) (Nat.dvd_mul_right _ _)
    · exact Nat.dvd_trans (dvd_prodR n (lo + 2 ^ n) d h (by rw [Nat.pow_succ] at h2; omega)) (Nat.dvd_mul_left _ _)
end Go.Proofs.YtkbgeggflhfleaaGreatDoor.Cp
