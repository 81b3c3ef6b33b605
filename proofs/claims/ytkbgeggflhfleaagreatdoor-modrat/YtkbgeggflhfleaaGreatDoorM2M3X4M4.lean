/-
  Plain: the search, first part: no composite multiple of a prime from 217 to 65,537 passes (checked in pieces).
-/
import Derived.Test.YtkbgeggflhfleaaGreatDoorM1
import Derived.Test.YtkbgeggflhfleaaGreatDoorRdLnWrIbWgUeUfWxM0
namespace Go.Proofs.YtkbgeggflhfleaaGreatDoor.Mr
open Go.Proofs.YtkbgeggflhfleaaGreatDoor
set_option linter.unusedVariables false
set_option linter.unusedSimpArgs false
set_option maxHeartbeats 8000000
theorem p0 : rg pchk 113 3 108 = true := by decide +kernel
theorem p1 : rg pchk 118 3 114 = true := by decide +kernel
theorem p2 : rg pchk 127 4 119 = true := by decide +kernel
theorem p3 : rg pchk 134 3 128 = true := by decide +kernel
theorem p4 : rg pchk 140 3 135 = true := by decide +kernel
theorem p5 : rg pchk 154 4 141 = true := by decide +kernel
theorem p6 : rg pchk 167 4 155 = true := by decide +kernel
theorem p7 : rg pchk 185 5 168 = true := by decide +kernel
theorem p8 : rg pchk 208 5 186 = true := by decide +kernel
theorem p9 : rg pchk 230 5 209 = true := by decide +kernel
theorem p10 : rg pchk 272 6 231 = true := by decide +kernel
theorem p11 : rg pchk 325 6 273 = true := by decide +kernel
theorem p12 : rg pchk 413 7 326 = true := by decide +kernel
theorem p13 : rg pchk 515 7 414 = true := by decide +kernel
theorem p14 : rg pchk 682 8 516 = true := by decide +kernel
theorem p15 : rg pchk 1219 10 683 = true := by decide +kernel
theorem p16 : rg pchk 2062 10 1220 = true := by decide +kernel
theorem p17 : rg pchk 4799 12 2063 = true := by decide +kernel
theorem p18 : rg pchk 7169 12 4800 = true := by decide +kernel
theorem p19 : rg pchk 13739 13 7170 = true := by decide +kernel
theorem p20 : rg pchk 21358 13 13740 = true := by decide +kernel
theorem p21 : rg pchk 29393 13 21359 = true := by decide +kernel
theorem p22 : rg pchk 32768 12 29394 = true := by decide +kernel
theorem pchk_all {i : Nat} (h1 : 108 ≤ i) (h2 : i ≤ 32768) : pchk i = true := by
  rcases Nat.lt_or_ge i 114 with g0 | g0
  · exact rg_ok 3 108 p0 i (by omega) (by omega) (by omega)
  rcases Nat.lt_or_ge i 119 with g1 | g1
  · exact rg_ok 3 114 p1 i (by omega) (by omega) (by omega)
  rcases Nat.lt_or_ge i 128 with g2 | g2
  · exact rg_ok 4 119 p2 i (by omega) (by omega) (by omega)
  rcases Nat.lt_or_ge i 135 with g3 | g3
  · exact rg_ok 3 128 p3 i (by omega) (by omega) (by omega)
  rcases Nat.lt_or_ge i 141 with g4 | g4
  · exact rg_ok 3 135 p4 i (by omega) (by omega) (by omega)
  rcases Nat.lt_or_ge i 155 with g5 | g5
  · exact rg_ok 4 141 p5 i (by omega) (by omega) (by omega)
  rcases Nat.lt_or_ge i 168 with g6 | g6
  · exact rg_ok 4 155 p6 i (by omega) (by omega) (by omega)
  rcases Nat.lt_or_ge i 186 with g7 | g7
  · exact rg_ok 5 168 p7 i (by omega) (by omega) (by omega)
  rcases Nat.lt_or_ge i 209 with g8 | g8
  · exact rg_ok 5 186 p8 i (by omega) (by omega) (by omega)
  rcases Nat.lt_or_ge i 231 with g9 | g9
  · exact rg_ok 5 209 p9 i (by omega) (by omega) (by omega)
  rcases Nat.lt_or_ge i 273 with g10 | g10
  · exact rg_ok 6 231 p10 i (by omega) (by omega) (by omega)
  rcases Nat.lt_or_ge i 326 with g11 | g11
  · exact rg_ok 6 273 p11 i (by omega) (by omega) (by omega)
  rcases Nat.lt_or_ge i 414 with g12 | g12
  · exact rg_ok 7 326 p12 i (by omega) (by omega) (by omega)
  rcases Nat.lt_or_ge i 516 with g13 | g13
  · exact rg_ok 7 414 p13 i (by omega) (by omega) (by omega)
  rcases Nat.lt_or_ge i 683 with g14 | g14
  · exact rg_ok 8 516 p14 i (by omega) (by omega) (by omega)
  rcases Nat.lt_or_ge i 1220 with g15 | g15
  · exact rg_ok 10 683 p15 i (by omega) (by omega) (by omega)
  rcases Nat.lt_or_ge i 2063 with g16 | g16
  · exact rg_ok 10 1220 p16 i (by omega) (by omega) (by omega)
  rcases Nat.lt_or_ge i 4800 with g17 | g17
  · exact rg_ok 12 2063 p17 i (by omega) (by omega) (by omega)
  rcases Nat.lt_or_ge i 7170 with g18 | g18
  · exact rg_ok 12 4800 p18 i (by omega) (by omega) (by omega)
  rcases Nat.lt_or_ge i 13740 with g19 | g19
  · exact rg_ok 13 7170 p19 i (by omega) (by omega) (by omega)
  rcases Nat.lt_or_ge i 21359 with g20 | g20
  · exact rg_ok 13 13740 p20 i (by omega) (by omega) (by omega)
  rcases Nat.lt_or_ge i 29394 with g21 | g21
  · exact rg_ok 13 21359 p21 i (by omega) (by omega) (by omega)
  exact rg_ok 12 29394 p22 i (by omega) (by omega) (by omega)
theorem c11_0 : go 2147483647 tC 7 sl 121 = true := by decide +kernel
theorem c11_1 : go 2147483647 tC 7 (sl.drop 1) 143 = true := by decide +kernel
theorem c11_2 : go 2147483647 tC 7 (sl.drop 2) 187 = true := by decide +kernel
theorem c11_3 : go 2147483647 tC 8 (sl.drop 3) 11 = true := by decide +kernel
theorem e11 : tC 11 (11, 10) = true ∧ tC 11 (13, 12) = true ∧ tC 11 (17, 16) = true := by decide +kernel
theorem c11 : go 2147483647 tC 8 sl 11 = true := go_cons (e := (11, 10)) (L := sl.drop 1) e11.1 c11_0 (go_cons (e := (13, 12)) (L := sl.drop 2) e11.2.1 c11_1 (go_cons (e := (17, 16)) (L := sl.drop 3) e11.2.2 c11_2 c11_3))
theorem c13_0 : go 2147483647 tC 7 (sl.drop 1) 169 = true := by decide +kernel
theorem c13_1 : go 2147483647 tC 8 (sl.drop 2) 13 = true := by decide +kernel
theorem e13 : tC 13 (13, 12) = true := by decide +kernel
theorem c13 : go 2147483647 tC 8 (sl.drop 1) 13 = true := go_cons (e := (13, 12)) (L := sl.drop 2) e13 c13_0 c13_1
theorem c17 : go 2147483647 tC 8 (sl.drop 2) 17 = true := by decide +kernel
theorem c19 : go 2147483647 tC 8 (sl.drop 3) 19 = true := by decide +kernel
theorem c23 : go 2147483647 tC 8 (sl.drop 4) 23 = true := by decide +kernel
theorem c29 : go 2147483647 tC 8 (sl.drop 5) 29 = true := by decide +kernel
theorem c31 : go 2147483647 tC 8 (sl.drop 6) 31 = true := by decide +kernel
theorem c37 : go 2147483647 tC 9 (sl.drop 7) 1 = true := by decide +kernel
theorem e1 : tC 1 (11, 10) = true ∧ tC 1 (13, 12) = true ∧ tC 1 (17, 16) = true ∧ tC 1 (19, 18) = true ∧ tC 1 (23, 22) = true ∧ tC 1 (29, 28) = true ∧ tC 1 (31, 30) = true := by decide +kernel
theorem c_all : go 2147483647 tC 9 sl 1 = true :=
  go_cons (e := (11, 10)) (L := sl.drop 1) e1.1 c11 (go_cons (e := (13, 12)) (L := sl.drop 2) e1.2.1 c13 (go_cons (e := (17, 16)) (L := sl.drop 3) e1.2.2.1 c17 (go_cons (e := (19, 18)) (L := sl.drop 4) e1.2.2.2.1 c19 (go_cons (e := (23, 22)) (L := sl.drop 5) e1.2.2.2.2.1 c23 (go_cons (e := (29, 28)) (L := sl.drop 6) e1.2.2.2.2.2.1 c29 (go_cons (e := (31, 30)) (L := sl.drop 7) e1.2.2.2.2.2.2 c31 (c37)))))))
theorem a_all : go 32767 tA 5 sl 1 = true := by decide +kernel
end Go.Proofs.YtkbgeggflhfleaaGreatDoor.Mr
namespace Go.Proofs.YtkbgeggflhfleaaGreatDoor.Cp
open Go.Proofs.YtkbgeggflhfleaaGreatDoor
set_option linter.unusedVariables false
set_option linter.unusedSimpArgs false
def ch : Nat → Nat → Int
  | _, 0 => 1
  | 0, _ + 1 => 0
  | n + 1, k + 1 => ch n k + ch n (k + 1)
theorem ch_zero (n : Nat) : ch n 0 = 1 := by cases n <;> rfl
theorem ch_past : ∀ n k, n < k → ch n k = 0
  | _, 0, h => absurd h (Nat.not_lt_zero _)
  | 0, _ + 1, _ => rfl
  | n + 1, k + 1, h => by rw [ch, ch_past n k (by omega), ch_past n (k + 1) (by omega)]; rfl
theorem ch_self : ∀ n, ch n n = 1
  | 0 => rfl
  | n + 1 => by rw [ch, ch_self n, ch_past n (n + 1) (by omega)]; rfl
theorem ch_times : ∀ n k, ((k + 1 : Nat) : Int) * ch (n + 1) (k + 1) = ((n + 1 : Nat) : Int) * ch n k
  | 0, 0 => by simp [ch]
  | 0, k + 1 => by simp [ch]
  | n + 1, 0 => by
    have h := ch_times n 0
    rw [ch_zero] at h ⊢
    rw [ch, ch_zero]
    simp only [Int.natCast_add, Int.cast_ofNat_Int, Int.natCast_one, Int.zero_add, Int.one_mul, Int.mul_one] at h ⊢
    omega
  | n + 1, k + 1 => by
    have h1 := ch_times n k
    have h2 := ch_times n (k + 1)
    rw [ch]
    have e1 : ((k + 1 + 1 : Nat) : Int) = ((k + 1 : Nat) : Int) + 1 := by omega
    have e2 : ((n + 1 + 1 : Nat) : Int) = ((n + 1 : Nat) : Int) + 1 := by omega
    have e3 : ch (n + 1) (k + 1) = ch n k + ch n (k + 1) := rfl
    rw [e1] at h2 ⊢
    rw [e2]
    generalize ((k + 1 : Nat) : Int) = K at *
    generalize ((n + 1 : Nat) : Int) = N at *
    generalize ch (n + 1) (k + 1) = u at *
    generalize ch (n + 1) (k + 1 + 1) = v at *
    have t1 : (K + 1) * (u + v) = K * u + u + (K + 1) * v := by rw [Int.mul_add, Int.add_mul, Int.one_mul]
    rw [t1, h1, h2, Int.add_mul, Int.one_mul, e3, Int.mul_add]
    omega
def su (f : Nat → Int) : Nat → Int
  | 0 => 0
  | n + 1 => su f n + f n
theorem su_congr {f g : Nat → Int} : ∀ n, (∀ i, i < n → f i = g i) → su f n = su g n
  | 0, _ => rfl
  | n + 1, h => by rw [su, su, su_congr n fun i hi => h i (by omega), h n (by omega)]
theorem su_add (f g : Nat → Int) : ∀ n, su (fun i => f i + g i) n = su f n + su g n
  | 0 => rfl
  | n + 1 => by rw [su, su, su, su_add f g n]; omega
theorem su_mul (c : Int) (f : Nat → Int) : ∀ n, su (fun i => c * f i) n = c * su f n
  | 0 => (Int.mul_zero c).symm
  | n + 1 => by rw [su, su, su_mul c f n, Int.mul_add]
theorem su_front (f : Nat → Int) : ∀ n, su f (n + 1) = f 0 + su (fun i => f (i + 1)) n
  | 0 => by simp [su]
  | n + 1 => by rw [su, su_front f n, su]; omega
theorem su_dvd {p : Int} {f : Nat → Int} : ∀ n, (∀ i, i < n → p ∣ f i) → p ∣ su f n
  | 0, _ => Int.dvd_zero p
  | n + 1, h => by rw [su]; exact Int.dvd_add (su_dvd n fun i hi => h i (by omega)) (h n (by omega))
theorem binom (x : Int) : ∀ n, su (fun k => ch n k * x ^ k) (n + 1) = (x + 1) ^ n
  | 0 => by simp [su, ch]
  | n + 1 => by
    have ih := binom x n
    rw [su_front]
    have e : su (fun i => ch (n + 1) (i + 1) * x ^ (i + 1)) (n + 1) = x * su (fun k => ch n k * x ^ k) (n + 1) + su (fun i => ch n (i + 1) * x ^ (i + 1)) (n + 1) := by
      rw [← su_mul, ← su_add]
      refine su_congr _ fun i _ => ?_
      rw [ch, Int.add_mul, Int.pow_succ]
      congr 1
      rw [← Int.mul_assoc, Int.mul_comm (ch n i * x ^ i) x]
    have e2 : ch (n + 1) 0 * x ^ 0 + su (fun i => ch n (i + 1) * x ^ (i + 1)) (n + 1) = (x + 1) ^ n := by
      have h := su_front (fun k => ch n k * x ^ k) (n + 1)
      rw [su, ih, ch_past n (n + 1) (by omega), Int.zero_mul, Int.add_zero] at h
      rw [h, ch_zero, ch_zero]
    rw [e, ih, Int.pow_succ, Int.mul_add, Int.mul_one, Int.mul_comm x]
    omega
theorem pri_ch {p : Nat} (hp : Gs.Pri (p : Int)) {k : Nat} (h0 : 0 < k) (h1 : k < p) : (p : Int) ∣ ch p k := by
  obtain ⟨q, rfl⟩ : ∃ q, p = q + 1 := ⟨p - 1, by omega⟩
  obtain ⟨j, rfl⟩ : ∃ j, k = j + 1 := ⟨k - 1, by omega⟩
  have h := ch_times q j
  have hd : ((q + 1 : Nat) : Int) ∣ ((j + 1 : Nat) : Int) * ch (q + 1) (j + 1) := ⟨_, h⟩
  rcases hp.2 _ _ hd with h2 | h2
  · have := Int.le_of_dvd (by omega) h2
    omega
  · exact h2
theorem fermat_nat {p : Nat} (hp : Gs.Pri (p : Int)) : ∀ a : Nat, (p : Int) ∣ (a : Int) ^ p - (a : Int)
  | 0 => by
    have h1 := hp.1
    obtain ⟨q, rfl⟩ : ∃ q, p = q + 1 := ⟨p - 1, by simp at h1; omega⟩
    rw [Int.pow_succ]
    simp
  | a + 1 => by
    have ih := fermat_nat hp a
    have h1 := hp.1
    obtain ⟨q, hq⟩ : ∃ q, p = q + 1 := ⟨p - 1, by simp at h1; omega⟩
    have hb := binom (a : Int) p
    have hs : su (fun k => ch p k * (a : Int) ^ k) (p + 1) = 1 + su (fun i => ch p (i + 1) * (a : Int) ^ (i + 1)) q + (a : Int) ^ p := by
      rw [su, ch_self, Int.one_mul, hq, su_front, ch_zero, Int.pow_zero, Int.mul_one]
    have hd : (p : Int) ∣ su (fun i => ch p (i + 1) * (a : Int) ^ (i + 1)) q := su_dvd _ fun i hi => Int.dvd_mul_of_dvd_left (pri_ch hp (by omega) (by omega))
    have e : ((a + 1 : Nat) : Int) ^ p - ((a + 1 : Nat) : Int) = su (fun i => ch p (i + 1) * (a : Int) ^ (i + 1)) q + ((a : Int) ^ p - (a : Int)) := by
      have e0 : ((a + 1 : Nat) : Int) = (a : Int) + 1 := by omega
      rw [e0, ← hb, hs]
      omega
    rw [e]
    exact Int.dvd_add hd ih
theorem emod_pow (x m : Int) : ∀ j : Nat, (x % m) ^ j % m = x ^ j % m
  | 0 => by simp
  | j + 1 => by rw [Int.pow_succ, Int.pow_succ, Int.mul_emod, emod_pow x m j, Int.emod_emod, ← Int.mul_emod]
theorem fermat {p : Nat} (hp : Gs.Pri (p : Int)) {a : Int} (ha : ¬ (p : Int) ∣ a) : (a * (a ^ (p - 2) % (p : Int))) % (p : Int) = 1 := by
  have h1 : 1 < p := by simpa using hp.1
  have hp0 : (p : Int) ≠ 0 := by omega
  have hr := Int.emod_nonneg a hp0
  obtain ⟨n, hn⟩ : ∃ n : Nat, a % (p : Int) = (n : Int) := ⟨(a % (p : Int)).toNat, by omega⟩
  have h := fermat_nat hp n
  have e : ∀ x : Int, x ^ p = x * (x * x ^ (p - 2)) := fun x => by
    rw [← Int.pow_succ', ← Int.pow_succ']
    congr 1
    omega
  have hd : (p : Int) ∣ (n : Int) * ((n : Int) * (n : Int) ^ (p - 2) - 1) := by
    rw [Int.mul_sub, Int.mul_one, ← e]
    exact h
  have hna : ¬ (p : Int) ∣ (n : Int) := fun h2 => by
    rw [← hn] at h2
    exact ha (Int.dvd_of_emod_eq_zero (by have := Int.emod_eq_zero_of_dvd h2; rwa [Int.emod_emod] at this))
  rcases hp.2 _ _ hd with h2 | h2
  · exact absurd h2 hna
  · have h3 : ((n : Int) * (n : Int) ^ (p - 2)) % (p : Int) = 1 := by
      obtain ⟨c, hc⟩ := h2
      have h5 : (n : Int) * (n : Int) ^ (p - 2) = 1 + (p : Int) * c := by omega
      rw [h5, Int.add_mul_emod_self_left]
      exact Int.emod_eq_of_lt (by omega) (by omega)
    have h6 : (a * (a ^ (p - 2) % (p : Int))) % (p : Int) = ((a % (p : Int)) * ((a % (p : Int)) ^ (p - 2))) % (p : Int) := by
      rw [Int.mul_emod, Int.emod_emod]
      conv => rhs; rw [Int.mul_emod, Int.emod_emod, emod_pow]
    rw [h6, hn]
    exact h3
end Go.Proofs.YtkbgeggflhfleaaGreatDoor.Cp
namespace Go.Proofs.YtkbgeggflhfleaaGreatDoor.Mr
open Go.Proofs.YtkbgeggflhfleaaGreatDoor
set_option linter.unusedVariables false
set_option linter.unusedSimpArgs false
theorem Pr.fermat {q b : Nat} (hq : Pr q) (hb : ¬ q ∣ b) : b ^ (q - 1) % q = 1 := by
  have h1 := hq.1
  have h := Cp.fermat hq.pri (a := (b : Int)) (fun h => hb (Int.natCast_dvd_natCast.1 h))
  rw [Int.mul_emod, Int.emod_emod, ← Int.mul_emod, ← Int.pow_succ', show q - 2 + 1 = q - 1 by omega, ← Int.natCast_pow, ← Int.natCast_emod] at h
  omega
theorem Pr.gd {q : Nat} (hq : Pr q) (h : 7 < q) : Gd q (q - 1) := by
  have f : ∀ b, 0 < b → b < q → ¬ q ∣ b := fun b h1 h2 h3 => by have := Nat.le_of_dvd h1 h3; omega
  exact ⟨hq.fermat (f 2 (by omega) (by omega)), hq.fermat (f 3 (by omega) (by omega)), hq.fermat (f 5 (by omega) (by omega)), hq.fermat (f 7 (by omega) (by omega))⟩
theorem sl_pr : ∀ e ∈ sl, Pr e.1 := by
  have h : ∀ e ∈ sl, 1 < e.1 ∧ e.1 < 216 ∧ ∀ d, d < 216 → d < e.1 → 1 < d → e.1 % d ≠ 0 := by decide +kernel
  intro e he
  obtain ⟨h1, h0, h2⟩ := h e he
  generalize e.1 = r at *
  refine ⟨h1, fun d hd => ?_⟩
  have h3 := Nat.le_of_dvd (by omega) hd
  have h4 : d ≠ 0 := fun h => by rw [h] at hd; have := Nat.eq_zero_of_zero_dvd hd; omega
  rcases Nat.lt_or_ge d r with h5 | h5
  · rcases Nat.lt_or_ge 1 d with h6 | h6
    · exact absurd (Nat.mod_eq_zero_of_dvd hd) (h2 d (by omega) h5 h6)
    · exact .inl (by omega)
  · exact .inr (by omega)
theorem pr_of_ip {n : Nat} (h1 : 1 < n) (h2 : n ≤ 2147483647) (hg : Nat.gcd n 210 = 1) (hi : Cp.ip n = true) : Pr n := by
  refine Classical.byContradiction fun hn => ?_
  have cof : ∀ {p m : Nat}, Pr p → p * m = n → 1 < m := fun {p m} hp he => by
    rcases Nat.lt_trichotomy m 1 with h | h | h
    · obtain rfl : m = 0 := by omega
      simp at he; omega
    · subst h
      rw [Nat.mul_one] at he
      exact absurd (he ▸ hp) hn
    · exact h
  have mid : ∀ p, Pr p → p ∣ n → 215 < p → p ≤ 65537 → False := fun p hp hd h3 h4 => by
    obtain ⟨m, hm⟩ := hd
    have hm1 := cof hp hm.symm
    have hodd : p % 2 = 1 := by
      rcases Nat.mod_two_eq_zero_or_one p with h | h
      · rcases hp.2 2 (Nat.dvd_of_mod_eq_zero h) with h | h <;> omega
      · exact h
    exact chk_no hp.1 (pchk_chk hp h3 (pchk_all (by omega) (by omega)) hodd) hm1 (hm ▸ h2) (hm ▸ hg) (hm ▸ hi)
  have mem : ∀ p, Pr p → p ∣ n → p ≤ 65537 → ∃ e ∈ sl, e.1 = p := fun p hp hd h => by
    rcases Nat.lt_or_ge 215 p with h3 | h3
    · exact (mid p hp hd h3 h).elim
    · exact sl_mem hp h3 (Nat.Coprime.coprime_dvd_left hd hg)
  by_cases hq : ∃ q, Pr q ∧ q ∣ n ∧ 65537 < q
  · obtain ⟨q, hq, hd, h3⟩ := hq
    obtain ⟨s, hs⟩ := hd
    have hs1 := cof hq hs.symm
    have hs2 : s ≤ 32767 := by
      rcases Nat.lt_or_ge 32767 s with h | h
      · have := Nat.mul_le_mul (show 65538 ≤ q by omega) (show 32768 ≤ s by omega)
        omega
      · exact h
    obtain ⟨c, e, he, h5, h6⟩ := go_ok 5 sl 1 s sl_lo sl_sorted (by have : (11 : Nat) ^ 5 = 161051 := rfl; omega) (by omega) hs1 (fun p hp hd => by
      have h7 := Nat.le_of_dvd (by omega) hd
      exact mem p hp (Nat.dvd_trans hd ⟨q, by rw [hs, Nat.mul_comm]⟩) (by omega)) a_all
    have h7 : chkA s = true := by
      have h8 : chkA (c * e.1) = true := h6
      rwa [h5, Nat.one_mul] at h8
    have g1 := hq.gd (by omega)
    have g2 := (ip_gd h1 (by omega) hi).sub hq.1 ⟨s, hs⟩
    rw [hs] at g2
    exact chkA_no hq h3 h7 (g1.cof hq.1 (by omega) g2)
  · obtain ⟨c, e, he, h5, h6⟩ := go_ok 9 sl 1 n sl_lo sl_sorted (by have : (11 : Nat) ^ 9 = 2357947691 := rfl; omega) (by omega) h1 (fun p hp hd => mem p hp hd (Nat.le_of_not_lt fun h => hq ⟨p, hp, hd, h⟩)) c_all
    rw [Nat.one_mul] at h5
    have hc := cof (sl_pr e he) (by rw [Nat.mul_comm]; exact h5)
    exact tC_no he h6 hc (h5 ▸ h2) (h5 ▸ hg) (h5 ▸ hi)
theorem sq_pr {n : Nat} (hn : Pr n) : ∀ (s a : Nat), a < n → a ^ 2 ^ s % n = 1 → a = 1 ∨ Cp.sq n s a = true
  | 0, a, h, h1 => .inl (by rw [Nat.pow_zero, Nat.pow_one, Nat.mod_eq_of_lt h] at h1; exact h1)
  | s + 1, a, h, h1 => by
    have h0 := hn.1
    rw [Nat.pow_succ', Nat.pow_mul, Nat.pow_two, Nat.pow_mod] at h1
    rw [Cp.sq]
    rcases sq_pr hn s _ (Nat.mod_lt _ (by omega)) h1 with h2 | h2
    · have ha : a ≠ 0 := fun h => by rw [h, Nat.zero_mul, Nat.zero_mod] at h2; omega
      have h3 : n ∣ (a - 1) * (a + 1) := by
        have e : (a - 1) * (a + 1) = a * a - 1 := by
          obtain ⟨b, rfl⟩ : ∃ b, a = b + 1 := ⟨a - 1, by omega⟩
          rw [Nat.add_sub_cancel]
          simp only [Nat.mul_add, Nat.add_mul]
          omega
        have := Nat.div_add_mod (a * a) n
        rw [h2] at this
        rw [e]
        exact ⟨a * a / n, by omega⟩
      rcases hn.mul h3 with h4 | h4
      · left
        rcases Nat.eq_zero_or_pos (a - 1) with h5 | h5
        · omega
        · have := Nat.le_of_dvd h5 h4; omega
      · right
        have := Nat.le_of_dvd (by omega) h4
        rw [show a = n - 1 by omega, beq_self_eq_true, Bool.true_or]
    · right; rw [h2, Bool.or_true]
theorem ps_pr {n b : Nat} (hn : Pr n) (h2 : n < 4294967296) (hb : ¬ n ∣ b) : Cp.ps n b = true := by
  have h1 := hn.1
  have hc := ctz_mul (x := n - 1) (by omega) (by omega)
  have hf := hn.fermat hb
  unfold Cp.ps
  generalize Lib.ctz 64 (n - 1) = s at *
  have key : (b ^ ((n - 1) / 2 ^ s) % n) ^ 2 ^ s % n = 1 := by rw [← Nat.pow_mod, ← Nat.pow_mul, hc]; exact hf
  show (b ^ ((n - 1) / 2 ^ s) % n == 1 || Cp.sq n s (b ^ ((n - 1) / 2 ^ s) % n)) = true
  rcases sq_pr hn s _ (Nat.mod_lt _ (by omega)) key with h | h
  · rw [h]; rfl
  · rw [h, Bool.or_true]
def isp (m : Nat) : Bool :=
  bif m % 2 == 0 then m == 2 else bif !Cp.ps m 2 then false else
  bif m % 3 == 0 then m == 3 else bif !Cp.ps m 3 then false else
  bif m % 5 == 0 then m == 5 else bif !Cp.ps m 5 then false else
  bif m % 7 == 0 then m == 7 else Cp.ps m 7
theorem pr_dvd {m b : Nat} (hb : 1 < b) (h : m % b = 0) (hm : Pr m) : m = b := by
  rcases hm.2 b (Nat.dvd_of_mod_eq_zero h) with h | h
  · omega
  · exact h.symm
theorem isp_eq {m : Nat} (h1 : 2 ≤ m) (h2 : m ≤ 2147483647) : isp m = true ↔ Pr m := by
  have two : Pr 2 := smalls_pr 2 (by decide)
  have three : Pr 3 := smalls_pr 3 (by decide)
  have five : Pr 5 := smalls_pr 5 (by decide)
  have seven : Pr 7 := smalls_pr 7 (by decide)
  have ndv : ∀ b, m % b ≠ 0 → 0 < b → b < m → True := fun _ _ _ _ => trivial
  unfold isp
  by_cases c2 : m % 2 = 0
  · rw [show (m % 2 == 0) = true from by rw [c2]; rfl, cond_true]
    constructor
    · intro h; have h : m = 2 := by simpa using h
      rw [h]; exact two
    · intro h; rw [pr_dvd (by omega) c2 h]; rfl
  rw [show (m % 2 == 0) = false from by rw [beq_eq_false_iff_ne]; exact c2, cond_false]
  have pd : ∀ b, 0 < b → m % b ≠ 0 → Pr m → Cp.ps m b = true ∨ m ∣ b := fun b _ _ hm => by
    by_cases h : m ∣ b
    · exact .inr h
    · exact .inl (ps_pr hm (by omega) h)
  have n2 : ¬ m ∣ 2 := fun h => by
    have := Nat.le_of_dvd (by omega) h
    obtain rfl : m = 2 := by omega
    simp at c2
  have p2 : Pr m → Cp.ps m 2 = true := fun hm => ps_pr hm (by omega) n2
  cases q2 : Cp.ps m 2 with
  | false => exact Iff.intro (fun h => nomatch h) (fun h => nomatch (p2 h).symm.trans q2)
  | true =>
  rw [Bool.not_true, cond_false]
  by_cases c3 : m % 3 = 0
  · rw [show (m % 3 == 0) = true from by rw [c3]; rfl, cond_true]
    constructor
    · intro h; have h : m = 3 := by simpa using h
      rw [h]; exact three
    · intro h; rw [pr_dvd (by omega) c3 h]; rfl
  rw [show (m % 3 == 0) = false from by rw [beq_eq_false_iff_ne]; exact c3, cond_false]
  have m5 : 5 ≤ m := by
    rcases Nat.lt_or_ge m 5 with h | h
    · exfalso
      rcases (by omega : m = 2 ∨ m = 3 ∨ m = 4) with rfl | rfl | rfl <;> simp at c2 c3
    · exact h
  have p3 : Pr m → Cp.ps m 3 = true := fun hm => ps_pr hm (by omega) fun h => by have := Nat.le_of_dvd (by omega) h; omega
  cases q3 : Cp.ps m 3 with
  | false => exact Iff.intro (fun h => nomatch h) (fun h => nomatch (p3 h).symm.trans q3)
  | true =>
  rw [Bool.not_true, cond_false]
  by_cases c5 : m % 5 = 0
  · rw [show (m % 5 == 0) = true from by rw [c5]; rfl, cond_true]
    constructor
    · intro h; have h : m = 5 := by simpa using h
      rw [h]; exact five
    · intro h; rw [pr_dvd (by omega) c5 h]; rfl
  rw [show (m % 5 == 0) = false from by rw [beq_eq_false_iff_ne]; exact c5, cond_false]
  have m7 : 7 ≤ m := by
    rcases Nat.lt_or_ge m 7 with h | h
    · exfalso
      rcases (by omega : m = 5 ∨ m = 6) with rfl | rfl <;> simp at c2 c5
    · exact h
  have p5 : Pr m → Cp.ps m 5 = true := fun hm => ps_pr hm (by omega) fun h => by have := Nat.le_of_dvd (by omega) h; omega
  cases q5 : Cp.ps m 5 with
  | false => exact Iff.intro (fun h => nomatch h) (fun h => nomatch (p5 h).symm.trans q5)
  | true =>
  rw [Bool.not_true, cond_false]
  by_cases c7 : m % 7 = 0
  · rw [show (m % 7 == 0) = true from by rw [c7]; rfl, cond_true]
    constructor
    · intro h; have h : m = 7 := by simpa using h
      rw [h]; exact seven
    · intro h; rw [pr_dvd (by omega) c7 h]; rfl
  rw [show (m % 7 == 0) = false from by rw [beq_eq_false_iff_ne]; exact c7, cond_false]
  have m8 : 8 ≤ m := by
    rcases Nat.lt_or_ge m 8 with h | h
    · exfalso
      obtain rfl : m = 7 := by omega
      simp at c7
    · exact h
  have p7 : Pr m → Cp.ps m 7 = true := fun hm => ps_pr hm (by omega) fun h => by have := Nat.le_of_dvd (by omega) h; omega
  refine ⟨fun q7 => ?_, p7⟩
  have hg : Nat.gcd m 210 = 1 := by
    have e : (210 : Nat) = 2 * (3 * (5 * 7)) := rfl
    have f : ∀ {b}, Pr b → m % b ≠ 0 → Nat.Coprime m b := fun {b} hb hn => (hb.cop fun h => hn (Nat.mod_eq_zero_of_dvd h)).symm
    rw [e]
    exact (f two c2).mul_right ((f three c3).mul_right ((f five c5).mul_right (f seven c7)))
  refine pr_of_ip (by omega) h2 hg ?_
  unfold Cp.ip
  rw [q2, q3, q5, q7]
  rfl
end Go.Proofs.YtkbgeggflhfleaaGreatDoor.Mr
