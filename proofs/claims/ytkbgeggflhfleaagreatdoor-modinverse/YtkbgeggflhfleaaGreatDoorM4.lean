/-
  Plain: below 2^31 Miller's test to the bases 2, 3, 5 and 7 tells the primes.
-/
import Derived.Test.YtkbgeggflhfleaaGreatDoorM2
import Derived.Test.YtkbgeggflhfleaaGreatDoorM3
import Derived.Test.YtkbgeggflhfleaaGreatDoorX4
namespace Go.Proofs.YtkbgeggflhfleaaGreatDoor.Mr
open Go.Proofs.YtkbgeggflhfleaaGreatDoor
set_option linter.unusedVariables false
set_option linter.unusedSimpArgs false
theorem Pr.fermat {q b : Nat} (hq : Pr q) (hb : ¬ q ∣ b) : b ^ (q - 1) % q = 1 := by
  have h1 := hq.1
  have h := Cp.fermat hq.pri (a := (b : Int)) (fun h => hb (Int.natCast_dvd_natCast.1 h))
  rw [Int.mul_emod, Int.emod_emod, ← Int.mul_emod, ← Int.pow_succ', show q - 2 + 1 = q - 1 by omega, ← Int.natCast_pow, ← Int.natCast_emod] at h
  omega
theorem Pr.gd {q : Nat} (hq : Pr q) (h : 7 < q) : Gd q (q - 1) := by
  have f : ∀ b, 0 < b → b < q → ¬ q ∣ b := fun b h1 h2 h3 => by have := Nat.le_of_dvd h1 h3; omega
  exact ⟨hq.fermat (f 2 (by omega) (by omega)), hq.fermat (f 3 (by omega) (by omega)), hq.fermat (f 5 (by omega) (by omega)), hq.fermat (f 7 (by omega) (by omega))⟩
theorem sl_pr : ∀ e ∈ sl, Pr e.1 := by
  have h : ∀ e ∈ sl, 1 < e.1 ∧ e.1 < 216 ∧ ∀ d, d < 216 → d < e.1 → 1 < d → e.1 % d ≠ 0 := by decide +kernel
  intro e he
  obtain ⟨h1, h0, h2⟩ := h e he
  generalize e.1 = r at *
  refine ⟨h1, fun d hd => ?_⟩
  have h3 := Nat.le_of_dvd (by omega) hd
  have h4 : d ≠ 0 := fun h => by rw [h] at hd; have := Nat.eq_zero_of_zero_dvd hd; omega
  rcases Nat.lt_or_ge d r with h5 | h5
  · rcases Nat.lt_or_ge 1 d with h6 | h6
    · exact absurd (Nat.mod_eq_zero_of_dvd hd) (h2 d (by omega) h5 h6)
    · exact .inl (by omega)
  · exact .inr (by omega)
theorem pr_of_ip {n : Nat} (h1 : 1 < n) (h2 : n ≤ 2147483647) (hg : Nat.gcd n 210 = 1) (hi : Cp.ip n = true) : Pr n := by
  refine Classical.byContradiction fun hn => ?_
  have cof : ∀ {p m : Nat}, Pr p → p * m = n → 1 < m := fun {p m} hp he => by
    rcases Nat.lt_trichotomy m 1 with h | h | h
    · obtain rfl : m = 0 := by omega
      simp at he; omega
    · subst h
      rw [Nat.mul_one] at he
      exact absurd (he ▸ hp) hn
    · exact h
  have mid : ∀ p, Pr p → p ∣ n → 215 < p → p ≤ 65537 → False := fun p hp hd h3 h4 => by
    obtain ⟨m, hm⟩ := hd
    have hm1 := cof hp hm.symm
    have hodd : p % 2 = 1 := by
      rcases Nat.mod_two_eq_zero_or_one p with h | h
      · rcases hp.2 2 (Nat.dvd_of_mod_eq_zero h) with h | h <;> omega
      · exact h
    exact chk_no hp.1 (pchk_chk hp h3 (pchk_all (by omega) (by omega)) hodd) hm1 (hm ▸ h2) (hm ▸ hg) (hm ▸ hi)
  have mem : ∀ p, Pr p → p ∣ n → p ≤ 65537 → ∃ e ∈ sl, e.1 = p := fun p hp hd h => by
    rcases Nat.lt_or_ge 215 p with h3 | h3
    · exact (mid p hp hd h3 h).elim
    · exact sl_mem hp h3 (Nat.Coprime.coprime_dvd_left hd hg)
  by_cases hq : ∃ q, Pr q ∧ q ∣ n ∧ 65537 < q
  · obtain ⟨q, hq, hd, h3⟩ := hq
    obtain ⟨s, hs⟩ := hd
    have hs1 := cof hq hs.symm
    have hs2 : s ≤ 32767 := by
      rcases Nat.lt_or_ge 32767 s with h | h
      · have := Nat.mul_le_mul (show 65538 ≤ q by omega) (show 32768 ≤ s by omega)
        omega
      · exact h
    obtain ⟨c, e, he, h5, h6⟩ := go_ok 5 sl 1 s sl_lo sl_sorted (by have : (11 : Nat) ^ 5 = 161051 := rfl; omega) (by omega) hs1 (fun p hp hd => by
      have h7 := Nat.le_of_dvd (by omega) hd
      exact mem p hp (Nat.dvd_trans hd ⟨q, by rw [hs, Nat.mul_comm]⟩) (by omega)) a_all
    have h7 : chkA s = true := by
      have h8 : chkA (c * e.1) = true := h6
      rwa [h5, Nat.one_mul] at h8
    have g1 := hq.gd (by omega)
    have g2 := (ip_gd h1 (by omega) hi).sub hq.1 ⟨s, hs⟩
    rw [hs] at g2
    exact chkA_no hq h3 h7 (g1.cof hq.1 (by omega) g2)
  · obtain ⟨c, e, he, h5, h6⟩ := go_ok 9 sl 1 n sl_lo sl_sorted (by have : (11 : Nat) ^ 9 = 2357947691 := rfl; omega) (by omega) h1 (fun p hp hd => mem p hp hd (Nat.le_of_not_lt fun h => hq ⟨p, hp, hd, h⟩)) c_all
    rw [Nat.one_mul] at h5
    have hc := cof (sl_pr e he) (by rw [Nat.mul_comm]; exact h5)
    exact tC_no he h6 hc (h5 ▸ h2) (h5 ▸ hg) (h5 ▸ hi)
theorem sq_pr {n : Nat} (hn : Pr n) : ∀ (s a : Nat), a < n → a ^ 2 ^ s % n = 1 → a = 1 ∨ Cp.sq n s a = true
  | 0, a, h, h1 => .inl (by rw [Nat.pow_zero, Nat.pow_one, Nat.mod_eq_of_lt h] at h1; exact h1)
  | s + 1, a, h, h1 => by
    have h0 := hn.1
    rw [Nat.pow_succ', Nat.pow_mul, Nat.pow_two, Nat.pow_mod] at h1
    rw [Cp.sq]
    rcases sq_pr hn s _ (Nat.mod_lt _ (by omega)) h1 with h2 | h2
    · have ha : a ≠ 0 := fun h => by rw [h, Nat.zero_mul, Nat.zero_mod] at h2; omega
      have h3 : n ∣ (a - 1) * (a + 1) := by
        have e : (a - 1) * (a + 1) = a * a - 1 := by
          obtain ⟨b, rfl⟩ : ∃ b, a = b + 1 := ⟨a - 1, by omega⟩
          rw [Nat.add_sub_cancel]
          simp only [Nat.mul_add, Nat.add_mul]
          omega
        have := Nat.div_add_mod (a * a) n
        rw [h2] at this
        rw [e]
        exact ⟨a * a / n, by omega⟩
      rcases hn.mul h3 with h4 | h4
      · left
        rcases Nat.eq_zero_or_pos (a - 1) with h5 | h5
        · omega
        · have := Nat.le_of_dvd h5 h4; omega
      · right
        have := Nat.le_of_dvd (by omega) h4
        rw [show a = n - 1 by omega, beq_self_eq_true, Bool.true_or]
    · right; rw [h2, Bool.or_true]
theorem ps_pr {n b : Nat} (hn : Pr n) (h2 : n < 4294967296) (hb : ¬ n ∣ b) : Cp.ps n b = true := by
  have h1 := hn.1
  have hc := ctz_mul (x := n - 1) (by omega) (by omega)
  have hf := hn.fermat hb
  unfold Cp.ps
  generalize Lib.ctz 64 (n - 1) = s at *
  have key : (b ^ ((n - 1) / 2 ^ s) % n) ^ 2 ^ s % n = 1 := by rw [← Nat.pow_mod, ← Nat.pow_mul, hc]; exact hf
  show (b ^ ((n - 1) / 2 ^ s) % n == 1 || Cp.sq n s (b ^ ((n - 1) / 2 ^ s) % n)) = true
  rcases sq_pr hn s _ (Nat.mod_lt _ (by omega)) key with h | h
  · rw [h]; rfl
  · rw [h, Bool.or_true]
def isp (m : Nat) : Bool :=
  bif m % 2 == 0 then m == 2 else bif !Cp.ps m 2 then false else
  bif m % 3 == 0 then m == 3 else bif !Cp.ps m 3 then false else
  bif m % 5 == 0 then m == 5 else bif !Cp.ps m 5 then false else
  bif m % 7 == 0 then m == 7 else Cp.ps m 7
theorem pr_dvd {m b : Nat} (hb : 1 < b) (h : m % b = 0) (hm : Pr m) : m = b := by
  rcases hm.2 b (Nat.dvd_of_mod_eq_zero h) with h | h
  · omega
  · exact h.symm
theorem isp_eq {m : Nat} (h1 : 2 ≤ m) (h2 : m ≤ 2147483647) : isp m = true ↔ Pr m := by
  have two : Pr 2 := smalls_pr 2 (by decide)
  have three : Pr 3 := smalls_pr 3 (by decide)
  have five : Pr 5 := smalls_pr 5 (by decide)
  have seven : Pr 7 := smalls_pr 7 (by decide)
  have ndv : ∀ b, m % b ≠ 0 → 0 < b → b < m → True := fun _ _ _ _ => trivial
  unfold isp
  by_cases c2 : m % 2 = 0
  · rw [show (m % 2 == 0) = true from by rw [c2]; rfl, cond_true]
    constructor
    · intro h; have h : m = 2 := by simpa using h
      rw [h]; exact two
    · intro h; rw [pr_dvd (by omega) c2 h]; rfl
  rw [show (m % 2 == 0) = false from by rw [beq_eq_false_iff_ne]; exact c2, cond_false]
  have pd : ∀ b, 0 < b → m % b ≠ 0 → Pr m → Cp.ps m b = true ∨ m ∣ b := fun b _ _ hm => by
    by_cases h : m ∣ b
    · exact .inr h
    · exact .inl (ps_pr hm (by omega) h)
  have n2 : ¬ m ∣ 2 := fun h => by
    have := Nat.le_of_dvd (by omega) h
    obtain rfl : m = 2 := by omega
    simp at c2
  have p2 : Pr m → Cp.ps m 2 = true := fun hm => ps_pr hm (by omega) n2
  cases q2 : Cp.ps m 2 with
  | false => exact Iff.intro (fun h => nomatch h) (fun h => nomatch (p2 h).symm.trans q2)
  | true =>
  rw [Bool.not_true, cond_false]
  by_cases c3 : m % 3 = 0
  · rw [show (m % 3 == 0) = true from by rw [c3]; rfl, cond_true]
    constructor
    · intro h; have h : m = 3 := by simpa using h
      rw [h]; exact three
    · intro h; rw [pr_dvd (by omega) c3 h]; rfl
  rw [show (m % 3 == 0) = false from by rw [beq_eq_false_iff_ne]; exact c3, cond_false]
  have m5 : 5 ≤ m := by
    rcases Nat.lt_or_ge m 5 with h | h
    · exfalso
      rcases (by omega : m = 2 ∨ m = 3 ∨ m = 4) with rfl | rfl | rfl <;> simp at c2 c3
    · exact h
  have p3 : Pr m → Cp.ps m 3 = true := fun hm => ps_pr hm (by omega) fun h => by have := Nat.le_of_dvd (by omega) h; omega
  cases q3 : Cp.ps m 3 with
  | false => exact Iff.intro (fun h => nomatch h) (fun h => nomatch (p3 h).symm.trans q3)
  | true =>
  rw [Bool.not_true, cond_false]
  by_cases c5 : m % 5 = 0
  · rw [show (m % 5 == 0) = true from by rw [c5]; rfl, cond_true]
    constructor
    · intro h; have h : m = 5 := by simpa using h
      rw [h]; exact five
    · intro h; rw [pr_dvd (by omega) c5 h]; rfl
  rw [show (m % 5 == 0) = false from by rw [beq_eq_false_iff_ne]; exact c5, cond_false]
  have m7 : 7 ≤ m := by
    rcases Nat.lt_or_ge m 7 with h | h
    · exfalso
      rcases (by omega : m = 5 ∨ m = 6) with rfl | rfl <;> simp at c2 c5
    · exact h
  have p5 : Pr m → Cp.ps m 5 = true := fun hm => ps_pr hm (by omega) fun h => by have := Nat.le_of_dvd (by omega) h; omega
  cases q5 : Cp.ps m 5 with
  | false => exact Iff.intro (fun h => nomatch h) (fun h => nomatch (p5 h).symm.trans q5)
  | true =>
  rw [Bool.not_true, cond_false]
  by_cases c7 : m % 7 = 0
  · rw [show (m % 7 == 0) = true from by rw [c7]; rfl, cond_true]
    constructor
    · intro h; have h : m = 7 := by simpa using h
      rw [h]; exact seven
    · intro h; rw [pr_dvd (by omega) c7 h]; rfl
  rw [show (m % 7 == 0) = false from by rw [beq_eq_false_iff_ne]; exact c7, cond_false]
  have m8 : 8 ≤ m := by
    rcases Nat.lt_or_ge m 8 with h | h
    · exfalso
      obtain rfl : m = 7 := by omega
      simp at c7
    · exact h
  have p7 : Pr m → Cp.ps m 7 = true := fun hm => ps_pr hm (by omega) fun h => by have := Nat.le_of_dvd (by omega) h; omega
  refine ⟨fun q7 => ?_, p7⟩
  have hg : Nat.gcd m 210 = 1 := by
    have e : (210 : Nat) = 2 * (3 * (5 * 7)) := rfl
    have f : ∀ {b}, Pr b → m % b ≠ 0 → Nat.Coprime m b := fun {b} hb hn => (hb.cop fun h => hn (Nat.mod_eq_zero_of_dvd h)).symm
    rw [e]
    exact (f two c2).mul_right ((f three c3).mul_right ((f five c5).mul_right (f seven c7)))
  refine pr_of_ip (by omega) h2 hg ?_
  unfold Cp.ip
  rw [q2, q3, q5, q7]
  rfl
end Go.Proofs.YtkbgeggflhfleaaGreatDoor.Mr
