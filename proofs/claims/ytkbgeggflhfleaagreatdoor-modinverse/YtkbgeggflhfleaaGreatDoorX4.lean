/-
  Plain: Fermat's little theorem, by the binomial sum.
-/
import Derived.Test.YtkbgeggflhfleaaGreatDoorM0
namespace Go.Proofs.YtkbgeggflhfleaaGreatDoor.Cp
open Go.Proofs.YtkbgeggflhfleaaGreatDoor
set_option linter.unusedVariables false
set_option linter.unusedSimpArgs false
def ch : Nat → Nat → Int
  | _, 0 => 1
  | 0, _ + 1 => 0
  | n + 1, k + 1 => ch n k + ch n (k + 1)
theorem ch_zero (n : Nat) : ch n 0 = 1 := by cases n <;> rfl
theorem ch_past : ∀ n k, n < k → ch n k = 0
  | _, 0, h => absurd h (Nat.not_lt_zero _)
  | 0, _ + 1, _ => rfl
  | n + 1, k + 1, h => by rw [ch, ch_past n k (by omega), ch_past n (k + 1) (by omega)]; rfl
theorem ch_self : ∀ n, ch n n = 1
  | 0 => rfl
  | n + 1 => by rw [ch, ch_self n, ch_past n (n + 1) (by omega)]; rfl
theorem ch_times : ∀ n k, ((k + 1 : Nat) : Int) * ch (n + 1) (k + 1) = ((n + 1 : Nat) : Int) * ch n k
  | 0, 0 => by simp [ch]
  | 0, k + 1 => by simp [ch]
  | n + 1, 0 => by
    have h := ch_times n 0
    rw [ch_zero] at h ⊢
    rw [ch, ch_zero]
    simp only [Int.natCast_add, Int.cast_ofNat_Int, Int.natCast_one, Int.zero_add, Int.one_mul, Int.mul_one] at h ⊢
    omega
  | n + 1, k + 1 => by
    have h1 := ch_times n k
    have h2 := ch_times n (k + 1)
    rw [ch]
    have e1 : ((k + 1 + 1 : Nat) : Int) = ((k + 1 : Nat) : Int) + 1 := by omega
    have e2 : ((n + 1 + 1 : Nat) : Int) = ((n + 1 : Nat) : Int) + 1 := by omega
    have e3 : ch (n + 1) (k + 1) = ch n k + ch n (k + 1) := rfl
    rw [e1] at h2 ⊢
    rw [e2]
    generalize ((k + 1 : Nat) : Int) = K at *
    generalize ((n + 1 : Nat) : Int) = N at *
    generalize ch (n + 1) (k + 1) = u at *
    generalize ch (n + 1) (k + 1 + 1) = v at *
    have t1 : (K + 1) * (u + v) = K * u + u + (K + 1) * v := by rw [Int.mul_add, Int.add_mul, Int.one_mul]
    rw [t1, h1, h2, Int.add_mul, Int.one_mul, e3, Int.mul_add]
    omega
def su (f : Nat → Int) : Nat → Int
  | 0 => 0
  | n + 1 => su f n + f n
theorem su_congr {f g : Nat → Int} : ∀ n, (∀ i, i < n → f i = g i) → su f n = su g n
  | 0, _ => rfl
  | n + 1, h => by rw [su, su, su_congr n fun i hi => h i (by omega), h n (by omega)]
theorem su_add (f g : Nat → Int) : ∀ n, su (fun i => f i + g i) n = su f n + su g n
  | 0 => rfl
  | n + 1 => by rw [su, su, su, su_add f g n]; omega
theorem su_mul (c : Int) (f : Nat → Int) : ∀ n, su (fun i => c * f i) n = c * su f n
  | 0 => (Int.mul_zero c).symm
  | n + 1 => by rw [su, su, su_mul c f n, Int.mul_add]
theorem su_front (f : Nat → Int) : ∀ n, su f (n + 1) = f 0 + su (fun i => f (i + 1)) n
  | 0 => by simp [su]
  | n + 1 => by rw [su, su_front f n, su]; omega
theorem su_dvd {p : Int} {f : Nat → Int} : ∀ n, (∀ i, i < n → p ∣ f i) → p ∣ su f n
  | 0, _ => Int.dvd_zero p
  | n + 1, h => by rw [su]; exact Int.dvd_add (su_dvd n fun i hi => h i (by omega)) (h n (by omega))
theorem binom (x : Int) : ∀ n, su (fun k => ch n k * x ^ k) (n + 1) = (x + 1) ^ n
  | 0 => by simp [su, ch]
  | n + 1 => by
    have ih := binom x n
    rw [su_front]
    have e : su (fun i => ch (n + 1) (i + 1) * x ^ (i + 1)) (n + 1) = x * su (fun k => ch n k * x ^ k) (n + 1) + su (fun i => ch n (i + 1) * x ^ (i + 1)) (n + 1) := by
      rw [← su_mul, ← su_add]
      refine su_congr _ fun i _ => ?_
      rw [ch, Int.add_mul, Int.pow_succ]
      congr 1
      rw [← Int.mul_assoc, Int.mul_comm (ch n i * x ^ i) x]
    have e2 : ch (n + 1) 0 * x ^ 0 + su (fun i => ch n (i + 1) * x ^ (i + 1)) (n + 1) = (x + 1) ^ n := by
      have h := su_front (fun k => ch n k * x ^ k) (n + 1)
      rw [su, ih, ch_past n (n + 1) (by omega), Int.zero_mul, Int.add_zero] at h
      rw [h, ch_zero, ch_zero]
    rw [e, ih, Int.pow_succ, Int.mul_add, Int.mul_one, Int.mul_comm x]
    omega
theorem pri_ch {p : Nat} (hp : Gs.Pri (p : Int)) {k : Nat} (h0 : 0 < k) (h1 : k < p) : (p : Int) ∣ ch p k := by
  obtain ⟨q, rfl⟩ : ∃ q, p = q + 1 := ⟨p - 1, by omega⟩
  obtain ⟨j, rfl⟩ : ∃ j, k = j + 1 := ⟨k - 1, by omega⟩
  have h := ch_times q j
  have hd : ((q + 1 : Nat) : Int) ∣ ((j + 1 : Nat) : Int) * ch (q + 1) (j + 1) := ⟨_, h⟩
  rcases hp.2 _ _ hd with h2 | h2
  · have := Int.le_of_dvd (by omega) h2
    omega
  · exact h2
theorem fermat_nat {p : Nat} (hp : Gs.Pri (p : Int)) : ∀ a : Nat, (p : Int) ∣ (a : Int) ^ p - (a : Int)
  | 0 => by
    have h1 := hp.1
    obtain ⟨q, rfl⟩ : ∃ q, p = q + 1 := ⟨p - 1, by simp at h1; omega⟩
    rw [Int.pow_succ]
    simp
  | a + 1 => by
    have ih := fermat_nat hp a
    have h1 := hp.1
    obtain ⟨q, hq⟩ : ∃ q, p = q + 1 := ⟨p - 1, by simp at h1; omega⟩
    have hb := binom (a : Int) p
    have hs : su (fun k => ch p k * (a : Int) ^ k) (p + 1) = 1 + su (fun i => ch p (i + 1) * (a : Int) ^ (i + 1)) q + (a : Int) ^ p := by
      rw [su, ch_self, Int.one_mul, hq, su_front, ch_zero, Int.pow_zero, Int.mul_one]
    have hd : (p : Int) ∣ su (fun i => ch p (i + 1) * (a : Int) ^ (i + 1)) q := su_dvd _ fun i hi => Int.dvd_mul_of_dvd_left (pri_ch hp (by omega) (by omega))
    have e : ((a + 1 : Nat) : Int) ^ p - ((a + 1 : Nat) : Int) = su (fun i => ch p (i + 1) * (a : Int) ^ (i + 1)) q + ((a : Int) ^ p - (a : Int)) := by
      have e0 : ((a + 1 : Nat) : Int) = (a : Int) + 1 := by omega
      rw [e0, ← hb, hs]
      omega
    rw [e]
    exact Int.dvd_add hd ih
theorem emod_pow (x m : Int) : ∀ j : Nat, (x % m) ^ j % m = x ^ j % m
  | 0 => by simp
  | j + 1 => by rw [Int.pow_succ, Int.pow_succ, Int.mul_emod, emod_pow x m j, Int.emod_emod, ← Int.mul_emod]
theorem fermat {p : Nat} (hp : Gs.Pri (p : Int)) {a : Int} (ha : ¬ (p : Int) ∣ a) : (a * (a ^ (p - 2) % (p : Int))) % (p : Int) = 1 := by
  have h1 : 1 < p := by simpa using hp.1
  have hp0 : (p : Int) ≠ 0 := by omega
  have hr := Int.emod_nonneg a hp0
  obtain ⟨n, hn⟩ : ∃ n : Nat, a % (p : Int) = (n : Int) := ⟨(a % (p : Int)).toNat, by omega⟩
  have h := fermat_nat hp n
  have e : ∀ x : Int, x ^ p = x * (x * x ^ (p - 2)) := fun x => by
    rw [← Int.pow_succ', ← Int.pow_succ']
    congr 1
    omega
  have hd : (p : Int) ∣ (n : Int) * ((n : Int) * (n : Int) ^ (p - 2) - 1) := by
    rw [Int.mul_sub, Int.mul_one, ← e]
    exact h
  have hna : ¬ (p : Int) ∣ (n : Int) := fun h2 => by
    rw [← hn] at h2
    exact ha (Int.dvd_of_emod_eq_zero (by have := Int.emod_eq_zero_of_dvd h2; rwa [Int.emod_emod] at this))
  rcases hp.2 _ _ hd with h2 | h2
  · exact absurd h2 hna
  · have h3 : ((n : Int) * (n : Int) ^ (p - 2)) % (p : Int) = 1 := by
      obtain ⟨c, hc⟩ := h2
      have h5 : (n : Int) * (n : Int) ^ (p - 2) = 1 + (p : Int) * c := by omega
      rw [h5, Int.add_mul_emod_self_left]
      exact Int.emod_eq_of_lt (by omega) (by omega)
    have h6 : (a * (a ^ (p - 2) % (p : Int))) % (p : Int) = ((a % (p : Int)) * ((a % (p : Int)) ^ (p - 2))) % (p : Int) := by
      rw [Int.mul_emod, Int.emod_emod]
      conv => rhs; rw [Int.mul_emod, Int.emod_emod, emod_pow]
    rw [h6, hn]
    exact h3
end Go.Proofs.YtkbgeggflhfleaaGreatDoor.Cp
