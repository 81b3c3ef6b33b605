/-
  Plain: primes by Euclid's lemma, Miller's test as the program makes it, products of a row of numbers (out of X0, X1).
-/
import Derived.Lib.TrailingZeros
namespace Go.Proofs.YtkbgeggflhfleaaGreatDoor.Gs
open Go.Proofs.YtkbgeggflhfleaaGreatDoor
set_option linter.unusedVariables false
set_option linter.unusedSimpArgs false
theorem natCast_dvd {n : Nat} {x : Int} : (n : Int) ∣ x ↔ n ∣ x.natAbs := by
  rw [← Int.natAbs_dvd_natAbs, Int.natAbs_natCast]
def Pri (p : Int) : Prop := 1 < p.natAbs ∧ ∀ x y : Int, p ∣ x * y → p ∣ x ∨ p ∣ y
theorem pri_of_min {p : Nat} (h1 : 1 < p) (hm : ∀ d, 1 < d → d ∣ p → d = p) : Pri (p : Int) := by
  refine ⟨by simpa using h1, fun x y h => ?_⟩
  by_cases hx : (p : Int) ∣ x
  · exact .inl hx
  · refine .inr ?_
    have hg : Nat.gcd p x.natAbs = 1 := by
      rcases Nat.lt_trichotomy (Nat.gcd p x.natAbs) 1 with h2 | h2 | h2
      · have h3 : Nat.gcd p x.natAbs = 0 := by omega
        have h4 := Nat.gcd_eq_zero_iff.1 h3
        omega
      · exact h2
      · exfalso
        have h3 := hm _ h2 (Nat.gcd_dvd_left p x.natAbs)
        have h4 := Nat.gcd_dvd_right p x.natAbs
        rw [h3] at h4
        exact hx (natCast_dvd.2 h4)
    have h5 : p ∣ x.natAbs * y.natAbs := by
      rw [← Int.natAbs_mul]
      exact natCast_dvd.1 h
    exact natCast_dvd.2 ((show Nat.Coprime p x.natAbs from hg).dvd_of_dvd_mul_left h5)
end Go.Proofs.YtkbgeggflhfleaaGreatDoor.Gs
namespace Go.Proofs.YtkbgeggflhfleaaGreatDoor.Cp
open Go.Proofs.YtkbgeggflhfleaaGreatDoor
def sq (m : Nat) : Nat → Nat → Bool
  | 0, _ => false
  | s + 1, a => a == m - 1 || sq m s (a * a % m)
def ps (m b : Nat) : Bool := let a := b ^ ((m - 1) / 2 ^ Lib.ctz 64 (m - 1)) % m; a == 1 || sq m (Lib.ctz 64 (m - 1)) a
def ip (m : Nat) : Bool := ps m 2 && (ps m 3 && (ps m 5 && ps m 7))
def fp (m : Nat) : Nat → Nat → Nat → Nat → Nat
  | 0, z, _, _ => z
  | k + 1, z, a, n => bif n % 2 == 1 then fp m k (z * a % m) (a * a % m) (n / 2) else fp m k z (a * a % m) (n / 2)
theorem pow_mod' (x m : Nat) (j : Nat) : (x % m) ^ j % m = x ^ j % m := (Nat.pow_mod x j m).symm
theorem fp_eq (m : Nat) : ∀ (k z a n : Nat), n < 2 ^ k → z < m → fp m k z a n = z * a ^ n % m
  | 0, z, a, n, h, hz => by
    obtain rfl : n = 0 := by simp at h; omega
    rw [fp, Nat.pow_zero, Nat.mul_one, Nat.mod_eq_of_lt hz]
  | k + 1, z, a, n, h, hz => by
    have h2 : n / 2 < 2 ^ k := by rw [Nat.pow_succ] at h; omega
    have e2 : ∀ u : Nat, u * (a * a % m) ^ (n / 2) % m = u * a ^ (2 * (n / 2)) % m := fun u => by
      rw [Nat.mul_mod, pow_mod', ← Nat.mul_mod, Nat.pow_mul, show a ^ 2 = a * a from by rw [Nat.pow_succ, Nat.pow_succ, Nat.pow_zero, Nat.one_mul]]
    rw [fp]
    rcases Nat.mod_two_eq_zero_or_one n with hp | hp
    · rw [hp, show ((0 : Nat) == 1) = false from rfl, cond_false, fp_eq m k _ _ _ h2 hz, e2]
      rw [show 2 * (n / 2) = n by omega]
    · rw [hp, show ((1 : Nat) == 1) = true from rfl, cond_true, fp_eq m k _ _ _ h2 (Nat.mod_lt _ (by omega)), e2, Nat.mul_mod, Nat.mod_mod, ← Nat.mul_mod, Nat.mul_assoc,
        ← Nat.pow_succ', show (2 * (n / 2)).succ = n by omega]
def psF (m b : Nat) : Bool := (fun s => (fun a => a == 1 || sq m s a) (fp m 32 1 b ((m - 1) / 2 ^ s))) (Lib.ctz 64 (m - 1))
theorem psF_eq {m b : Nat} (h1 : 1 < m) (h : m < 4294967296) : psF m b = ps m b := by
  unfold psF ps
  have hd : (m - 1) / 2 ^ Lib.ctz 64 (m - 1) ≤ m - 1 := Nat.div_le_self _ _
  show (fp m 32 1 b ((m - 1) / 2 ^ Lib.ctz 64 (m - 1)) == 1 || sq m (Lib.ctz 64 (m - 1)) (fp m 32 1 b ((m - 1) / 2 ^ Lib.ctz 64 (m - 1)))) = _
  rw [fp_eq m 32 1 b _ (by omega) h1, Nat.one_mul]
def ipF (m : Nat) : Bool := bif psF m 2 then bif psF m 3 then bif psF m 5 then psF m 7 else false else false else false
theorem ipF_eq {m : Nat} (h1 : 1 < m) (h : m < 4294967296) : ipF m = ip m := by
  unfold ipF ip
  rw [psF_eq h1 h, psF_eq h1 h, psF_eq h1 h, psF_eq h1 h]
  cases ps m 2 <;> cases ps m 3 <;> cases ps m 5 <;> cases ps m 7 <;> rfl
def prodR : Nat → Nat → Nat
  | 0, lo => lo
  | n + 1, lo => prodR n lo * prodR n (lo + 2 ^ n)
theorem dvd_prodR : ∀ (n lo d : Nat), lo ≤ d → d < lo + 2 ^ n → d ∣ prodR n lo
  | 0, lo, d, h1, h2 => by
    obtain rfl : d = lo := by simp at h2; omega
    exact Nat.dvd_refl _
  | n + 1, lo, d, h1, h2 => by
    rw [prodR]
    rcases Nat.lt_or_ge d (lo + 2 ^ n) with h | h
    · exact Nat.dvd_trans (dvd_prodR n lo d h1 h) (Nat.dvd_mul_right _ _)
    · exact Nat.dvd_trans (dvd_prodR n (lo + 2 ^ n) d h (by rw [Nat.pow_succ] at h2; omega)) (Nat.dvd_mul_left _ _)
end Go.Proofs.YtkbgeggflhfleaaGreatDoor.Cp
