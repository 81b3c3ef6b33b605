/-
  Plain: Miller's test to the bases 2, 3, 5 and 7 is right below 2^31, by a search that is checked: what orders say of a composite that passes (definitions, and what each check says).
-/
import Derived.Test.YtkbgeggflhfleaaGreatDoorRdLnWrIbWgUeUfWxM0
namespace Go.Proofs.YtkbgeggflhfleaaGreatDoor.Mr
open Go.Proofs.YtkbgeggflhfleaaGreatDoor
set_option linter.unusedVariables false
set_option linter.unusedSimpArgs false
set_option maxHeartbeats 8000000
theorem beqT {a b : Nat} : Nat.beq a b = true ↔ a = b := by rw [Nat.beq_eq]
def Pr (p : Nat) : Prop := 1 < p ∧ ∀ d, d ∣ p → d = 1 ∨ d = p
theorem Pr.pri {p : Nat} (h : Pr p) : Gs.Pri (p : Int) := Gs.pri_of_min h.1 fun d h1 h2 => (h.2 d h2).resolve_left (by omega)
theorem ex_pr (n : Nat) : 1 < n → ∃ p, Pr p ∧ p ∣ n := by
  induction n using Nat.strongRecOn with
  | _ n ih =>
    intro hn
    by_cases h : ∀ d, d ∣ n → d = 1 ∨ d = n
    · exact ⟨n, ⟨hn, h⟩, Nat.dvd_refl n⟩
    · obtain ⟨d, hd⟩ := Classical.not_forall.1 h
      obtain ⟨h1, hd⟩ := Classical.not_imp.1 hd
      have h2 := Nat.le_of_dvd (by omega) h1
      have h3 : d ≠ 0 := fun h => by rw [h] at h1; have := Nat.eq_zero_of_zero_dvd h1; omega
      obtain ⟨p, h4, h5⟩ := ih d (by omega) (by omega)
      exact ⟨p, h4, Nat.dvd_trans h5 h1⟩
theorem Pr.cop {r h : Nat} (hr : Pr r) (hn : ¬ r ∣ h) : Nat.Coprime r h := by
  rcases hr.2 _ (Nat.gcd_dvd_left r h) with h1 | h1
  · exact h1
  · exact absurd (h1 ▸ Nat.gcd_dvd_right r h) hn
theorem Pr.mul {r a b : Nat} (hr : Pr r) (h : r ∣ a * b) : r ∣ a ∨ r ∣ b := by
  by_cases h1 : r ∣ a
  · exact .inl h1
  · exact .inr ((hr.cop h1).dvd_of_dvd_mul_left h)
theorem Pr.pow {r a : Nat} (hr : Pr r) : ∀ {n}, r ∣ a ^ n → r ∣ a
  | 0, h => by rw [Nat.pow_zero] at h; have := Nat.le_of_dvd (by omega) h; have := hr.1; omega
  | n + 1, h => by rw [Nat.pow_succ] at h; rcases hr.mul h with h | h; exact hr.pow h; exact h
theorem Pr.prodR {r : Nat} (hr : Pr r) : ∀ (n lo : Nat), 0 < lo → r ∣ Cp.prodR n lo → r < lo + 2 ^ n
  | 0, lo, h0, h => by rw [Cp.prodR] at h; have := Nat.le_of_dvd h0 h; have : 2 ^ 0 = 1 := rfl; omega
  | n + 1, lo, h0, h => by
    rw [Cp.prodR] at h
    rcases hr.mul h with h | h
    · have := hr.prodR n lo h0 h; rw [Nat.pow_succ]; omega
    · have := hr.prodR n _ (Nat.add_pos_left h0 _) h; rw [Nat.pow_succ]; omega
def Gd (p j : Nat) : Prop := 2 ^ j % p = 1 ∧ 3 ^ j % p = 1 ∧ 5 ^ j % p = 1 ∧ 7 ^ j % p = 1
theorem pow_cut {b p i j k : Nat} (hp : 1 < p) (h : b ^ i % p = 1) (e : j = i * k + (j - i * k)) : b ^ j % p = b ^ (j - i * k) % p := by
  have h1 : b ^ j = (b ^ i) ^ k * b ^ (j - i * k) := by rw [← Nat.pow_mul, ← Nat.pow_add, ← e]
  rw [h1, Nat.mul_mod, Nat.pow_mod, h, Nat.one_pow, Nat.mod_eq_of_lt hp, Nat.one_mul, Nat.mod_mod]
theorem pow_gcd {b p : Nat} (hp : 1 < p) (i j : Nat) : b ^ i % p = 1 → b ^ j % p = 1 → b ^ (Nat.gcd i j) % p = 1 := by
  induction i, j using Nat.gcd.induction with
  | H0 n => intro _ h; rwa [Nat.gcd_zero_left]
  | H1 m n h0 ih =>
    intro h1 h2
    rw [Nat.gcd_rec]
    refine ih ?_ h1
    have e := Nat.div_add_mod n m
    have h3 := pow_cut (k := n / m) hp h1 (j := n) (by omega)
    rw [show n - m * (n / m) = n % m by omega] at h3
    rw [← h3, h2]
theorem pow_dvd {b p i j : Nat} (hp : 1 < p) (h : b ^ i % p = 1) (hd : i ∣ j) : b ^ j % p = 1 := by
  obtain ⟨k, rfl⟩ := hd
  rw [Nat.pow_mul, Nat.pow_mod, h, Nat.one_pow, Nat.mod_eq_of_lt hp]
theorem Gd.gcd {p i j : Nat} (hp : 1 < p) (h : Gd p i) (k : Gd p j) : Gd p (Nat.gcd i j) :=
  ⟨pow_gcd hp _ _ h.1 k.1, pow_gcd hp _ _ h.2.1 k.2.1, pow_gcd hp _ _ h.2.2.1 k.2.2.1, pow_gcd hp _ _ h.2.2.2 k.2.2.2⟩
theorem Gd.dvd {p i j : Nat} (hp : 1 < p) (h : Gd p i) (hd : i ∣ j) : Gd p j := ⟨pow_dvd hp h.1 hd, pow_dvd hp h.2.1 hd, pow_dvd hp h.2.2.1 hd, pow_dvd hp h.2.2.2 hd⟩
theorem Gd.cof {p m : Nat} (hp : 1 < p) (hm : 0 < m) (h : Gd p (p - 1)) (k : Gd p (p * m - 1)) : Gd p (m - 1) := by
  have e : p * m - 1 - (p - 1) * m = m - 1 := by rw [Nat.sub_mul, Nat.one_mul]; have := Nat.le_mul_of_pos_left m (show 0 < p by omega); omega
  have e2 : p * m - 1 = (p - 1) * m + (p * m - 1 - (p - 1) * m) := by
    rw [Nat.sub_mul, Nat.one_mul]; have := Nat.le_mul_of_pos_left m (show 0 < p by omega); omega
  have f : ∀ {b : Nat}, b ^ (p - 1) % p = 1 → b ^ (p * m - 1) % p = 1 → b ^ (m - 1) % p = 1 := fun {b} h1 h2 => by
    rw [pow_cut hp h1 e2, e] at h2; exact h2
  exact ⟨f h.1 k.1, f h.2.1 k.2.1, f h.2.2.1 k.2.2.1, f h.2.2.2 k.2.2.2⟩
theorem Gd.sub {p n j : Nat} (hp : 1 < p) (hd : p ∣ n) (h : Gd n j) : Gd p j := by
  have f : ∀ {b : Nat}, b ^ j % n = 1 → b ^ j % p = 1 := fun {b} h1 => by
    rw [← Nat.mod_mod_of_dvd _ hd, h1, Nat.mod_eq_of_lt hp]
  exact ⟨f h.1, f h.2.1, f h.2.2.1, f h.2.2.2⟩
noncomputable def nz (p x : Nat) : Bool := Bool.rec true (Bool.rec true (Bool.rec true (Bool.rec true false (Nat.beq (Nat.mod (Nat.pow 7 x) p) 1)) (Nat.beq (Nat.mod (Nat.pow 5 x) p) 1)) (Nat.beq (Nat.mod (Nat.pow 3 x) p) 1)) (Nat.beq (Nat.mod (Nat.pow 2 x) p) 1)
theorem nz_no {p x : Nat} (h : nz p x = true) (g : Gd p x) : False := by
  unfold nz at h
  have e : ∀ b, b ^ x % p = 1 → Nat.beq (Nat.mod (Nat.pow b x) p) 1 = true := fun b hb => beqT.2 hb
  rw [e 2 g.1, e 3 g.2.1, e 5 g.2.2.1, e 7 g.2.2.2] at h
  cases h
noncomputable def al (p x : Nat) : Bool := Bool.rec false (Bool.rec false (Bool.rec false (Bool.rec false true (Nat.beq (Nat.mod (Nat.pow 7 x) p) 1)) (Nat.beq (Nat.mod (Nat.pow 5 x) p) 1)) (Nat.beq (Nat.mod (Nat.pow 3 x) p) 1)) (Nat.beq (Nat.mod (Nat.pow 2 x) p) 1)
theorem al_ok {p x : Nat} (h : al p x = true) : Gd p x := by
  unfold al at h
  have e : ∀ b, Nat.beq (Nat.mod (Nat.pow b x) p) 1 = true → b ^ x % p = 1 := fun b hb => beqT.1 hb
  cases h2 : Nat.beq (Nat.mod (Nat.pow 2 x) p) 1 with
  | false => rw [h2] at h; cases h
  | true =>
    cases h3 : Nat.beq (Nat.mod (Nat.pow 3 x) p) 1 with
    | false => rw [h2, h3] at h; cases h
    | true =>
      cases h5 : Nat.beq (Nat.mod (Nat.pow 5 x) p) 1 with
      | false => rw [h2, h3, h5] at h; cases h
      | true =>
        cases h7 : Nat.beq (Nat.mod (Nat.pow 7 x) p) 1 with
        | false => rw [h2, h3, h5, h7] at h; cases h
        | true => exact ⟨e 2 h2, e 3 h3, e 5 h5, e 7 h7⟩
theorem part {p r w j : Nat} (hp : 1 < p) (hg : Gd p (p - 1)) (hr : Pr r) (hrp : r ∣ p - 1) (hnz : nz p ((p - 1) / r) = true) (hw : w ∣ r ^ 16) (hwp : w ∣ p - 1) (hj : Gd p j) : w ∣ j := by
  have hG := Gd.gcd hp hj hg
  obtain ⟨h, hh⟩ := Nat.gcd_dvd_right j (p - 1)
  by_cases hrh : r ∣ h
  · exfalso
    obtain ⟨h', rfl⟩ := hrh
    refine nz_no hnz (hG.dvd hp ⟨h', ?_⟩)
    have hr0 : 0 < r := by have := hr.1; omega
    refine Nat.div_eq_of_eq_mul_left hr0 ?_
    rw [Nat.mul_assoc, Nat.mul_comm h' r]
    exact hh
  · have hc : Nat.Coprime w h := Nat.Coprime.coprime_dvd_left hw ((hr.cop hrh).pow_left 16)
    have h2 : w ∣ Nat.gcd j (p - 1) := by
      refine hc.dvd_of_dvd_mul_right ?_
      rw [← hh]
      exact hwp
    exact Nat.dvd_trans h2 (Nat.gcd_dvd_left _ _)
def K : Nat := 46390896773824573120118197131626654133535460698098654227814792228582687993471515675675303519130505957081396442809128779129984947682780134232434682183959939102665927776439857317019738245619747364381030569622906549543129198965152594576297260803180404842596116964782060639065966089166712338842834343045860606296811709288710361986642298681053856193817242616463360000000000000000000000000000000000000000000000000000
theorem K_eq : K = Cp.prodR 7 1 * (Cp.prodR 6 129 * (Cp.prodR 4 193 * (Cp.prodR 2 209 * Cp.prodR 1 213 * Cp.prodR 0 215))) := by decide +kernel
theorem K_dvd {d : Nat} (h0 : 0 < d) (h : d ≤ 215) : d ∣ K := by
  rw [K_eq]
  rcases Nat.lt_or_ge d 129 with h1 | h1
  · exact Nat.dvd_mul_right_of_dvd (Cp.dvd_prodR 7 1 d (by omega) (by omega)) _
  refine Nat.dvd_mul_left_of_dvd ?_ _
  rcases Nat.lt_or_ge d 193 with h2 | h2
  · exact Nat.dvd_mul_right_of_dvd (Cp.dvd_prodR 6 129 d (by omega) (by omega)) _
  refine Nat.dvd_mul_left_of_dvd ?_ _
  rcases Nat.lt_or_ge d 209 with h3 | h3
  · exact Nat.dvd_mul_right_of_dvd (Cp.dvd_prodR 4 193 d (by omega) (by omega)) _
  refine Nat.dvd_mul_left_of_dvd ?_ _
  rcases Nat.lt_or_ge d 213 with h4 | h4
  · exact Nat.dvd_mul_right_of_dvd (Nat.dvd_mul_right_of_dvd (Cp.dvd_prodR 2 209 d (by omega) (by omega)) _) _
  rcases Nat.lt_or_ge d 215 with h5 | h5
  · exact Nat.dvd_mul_right_of_dvd (Nat.dvd_mul_left_of_dvd (Cp.dvd_prodR 1 213 d (by omega) (by omega)) _) _
  · exact Nat.dvd_mul_left_of_dvd (Cp.dvd_prodR 0 215 d (by omega) (by omega)) _
theorem K_pr {p : Nat} (hp : Pr p) (h : p ∣ K) : p ≤ 215 := by
  rw [K_eq] at h
  rcases hp.mul h with h | h
  · have := hp.prodR 7 1 (by omega) h; omega
  rcases hp.mul h with h | h
  · have := hp.prodR 6 129 (by omega) h; omega
  rcases hp.mul h with h | h
  · have := hp.prodR 4 193 (by omega) h; omega
  rcases hp.mul h with h | h
  · rcases hp.mul h with h | h
    · have := hp.prodR 2 209 (by omega) h; omega
    · have := hp.prodR 1 213 (by omega) h; omega
  · have := hp.prodR 0 215 (by omega) h; omega
theorem pr_K {r : Nat} (h1 : 1 < r) (h2 : r < 46656) (h : Nat.gcd r K = 1) : Pr r := by
  refine ⟨h1, fun d hd => ?_⟩
  obtain ⟨e, rfl⟩ := hd
  have key : ∀ x, x ∣ d * e → 1 < x → x ≤ 215 → False := fun x x1 x2 x3 => by
    have := Nat.dvd_gcd x1 (K_dvd (by omega) x3)
    rw [h] at this
    have := Nat.le_of_dvd (by omega) this
    omega
  have d0 : d ≠ 0 := fun h => by rw [h, Nat.zero_mul] at h1; omega
  have e0 : e ≠ 0 := fun h => by rw [h, Nat.mul_zero] at h1; omega
  by_cases hd1 : d = 1
  · exact .inl hd1
  · by_cases he1 : e = 1
    · right; rw [he1, Nat.mul_one]
    · exfalso
      rcases Nat.lt_or_ge d 216 with h3 | h3
      · exact key d (Nat.dvd_mul_right _ _) (by omega) (by omega)
      · rcases Nat.lt_or_ge e 216 with h4 | h4
        · exact key e (Nat.dvd_mul_left _ _) (by omega) (by omega)
        · have := Nat.mul_le_mul h3 h4
          omega
def smalls : List Nat := [2, 3, 5, 7, 11, 13, 17, 19, 23, 29, 31, 37, 41, 43, 47, 53, 59, 61, 67, 71, 73, 79, 83, 89, 97, 101, 103, 107, 109, 113, 127, 131, 137, 139, 149, 151, 157, 163, 167, 173, 179, 181, 191, 193, 197, 199, 211]
theorem smalls_pr : ∀ r ∈ smalls, Pr r := by
  have h : ∀ r ∈ smalls, 1 < r ∧ r < 216 ∧ ∀ d, d < 216 → d < r → 1 < d → r % d ≠ 0 := by decide +kernel
  intro r hr
  obtain ⟨h1, h0, h2⟩ := h r hr
  refine ⟨h1, fun d hd => ?_⟩
  have h3 := Nat.le_of_dvd (by omega) hd
  have h4 : d ≠ 0 := fun h => by rw [h] at hd; have := Nat.eq_zero_of_zero_dvd hd; omega
  rcases Nat.lt_or_ge d r with h5 | h5
  · rcases Nat.lt_or_ge 1 d with h6 | h6
    · exact absurd (Nat.mod_eq_zero_of_dvd hd) (h2 d (by omega) h5 h6)
    · exact .inl (by omega)
  · exact .inr (by omega)
noncomputable def oE (p : Nat) (l : List Nat) : Nat → Nat → Nat :=
  List.rec (fun E R => Bool.rec (Bool.rec E (Bool.rec E (Bool.rec E (Bool.rec E (Nat.div (Nat.mul E R) (Nat.gcd E R)) (nz p (Nat.div (Nat.sub p 1) R))) (Nat.beq (Nat.gcd R K) 1)) (Nat.ble R 46655)) (Nat.beq (Nat.mod (Nat.sub p 1) R) 0)) E (Nat.ble R 1))
    (fun r _ ih E R => Bool.rec (ih E R) ((fun w => ih (Bool.rec E (Nat.div (Nat.mul E w) (Nat.gcd E w)) (nz p (Nat.div (Nat.sub p 1) r))) (Nat.div R w)) (Nat.gcd (Nat.sub p 1) (Nat.pow r 16))) (Nat.beq (Nat.mod (Nat.sub p 1) r) 0)) l
theorem lcm_dvd' {E w j : Nat} (h1 : E ∣ j) (h2 : w ∣ j) : Nat.div (Nat.mul E w) (Nat.gcd E w) ∣ j := Nat.lcm_dvd h1 h2
theorem oE_ok {p j : Nat} (hp : 1 < p) (hg : Gd p (p - 1)) (hj : Gd p j) : ∀ (l : List Nat), (∀ r ∈ l, Pr r) → ∀ E R, E ∣ j → oE p l E R ∣ j
  | [], _, E, R, hE => by
    show Bool.rec (Bool.rec E (Bool.rec E (Bool.rec E (Bool.rec E (Nat.div (Nat.mul E R) (Nat.gcd E R)) (nz p (Nat.div (Nat.sub p 1) R))) (Nat.beq (Nat.gcd R K) 1)) (Nat.ble R 46655)) (Nat.beq (Nat.mod (Nat.sub p 1) R) 0)) E (Nat.ble R 1) ∣ j
    cases h1 : Nat.ble R 1 with
    | true => exact hE
    | false =>
      cases h5 : Nat.beq (Nat.mod (Nat.sub p 1) R) 0 with
      | false => exact hE
      | true =>
        cases h2 : Nat.ble R 46655 with
        | false => exact hE
        | true =>
          cases h3 : Nat.beq (Nat.gcd R K) 1 with
          | false => exact hE
          | true =>
            cases h4 : nz p (Nat.div (Nat.sub p 1) R) with
            | false => exact hE
            | true =>
              have g1 : 1 < R := Nat.lt_of_not_le fun h => by rw [Nat.ble_eq_true_of_le h] at h1; cases h1
              have g2 := Nat.le_of_ble_eq_true h2
              have hR : R ∣ p - 1 := Nat.dvd_of_mod_eq_zero (beqT.1 h5)
              exact lcm_dvd' hE (part hp hg (pr_K g1 (by omega) (beqT.1 h3)) hR h4 ⟨R ^ 15, by rw [← Nat.pow_succ']⟩ hR hj)
  | r :: l, hl, E, R, hE => by
    have ih := oE_ok hp hg hj l fun x hx => hl x (List.mem_cons_of_mem _ hx)
    show Bool.rec (oE p l E R) (oE p l (Bool.rec E (Nat.div (Nat.mul E (Nat.gcd (Nat.sub p 1) (Nat.pow r 16))) (Nat.gcd E (Nat.gcd (Nat.sub p 1) (Nat.pow r 16)))) (nz p (Nat.div (Nat.sub p 1) r))) (Nat.div R (Nat.gcd (Nat.sub p 1) (Nat.pow r 16)))) (Nat.beq (Nat.mod (Nat.sub p 1) r) 0) ∣ j
    cases h1 : Nat.beq (Nat.mod (Nat.sub p 1) r) 0 with
    | false => exact ih E R hE
    | true =>
      have hrp : r ∣ p - 1 := Nat.dvd_of_mod_eq_zero (beqT.1 h1)
      refine ih _ _ ?_
      cases h2 : nz p (Nat.div (Nat.sub p 1) r) with
      | false => exact hE
      | true => exact lcm_dvd' hE (part hp hg (hl r (List.mem_cons_self ..)) hrp h2 (Nat.gcd_dvd_right _ _) (Nat.gcd_dvd_left _ _) hj)
def kk : Nat := 1024
def f2 (n : Nat) : Bool :=
  (fun e => Nat.beq (Nat.mod (Nat.mul (Nat.pow (Nat.mod (Nat.mul (Nat.pow (Nat.mod (Nat.pow 2 (Nat.div e 1048576)) n) kk) (Nat.pow 2 (Nat.mod (Nat.div e kk) kk))) n) kk) (Nat.pow 2 (Nat.mod e kk))) n) 1) (Nat.sub n 1)
theorem pow_digit (x n u c : Nat) : (x ^ u % n) ^ c % n = x ^ (c * u) % n := by rw [← Nat.pow_mod, ← Nat.pow_mul, Nat.mul_comm]
theorem f2_gen (n e c cc : Nat) (hc : c * (c * (e / cc) + e / c % c) + e % c = e) : ((2 ^ (e / cc) % n) ^ c * 2 ^ (e / c % c) % n) ^ c * 2 ^ (e % c) % n = 2 ^ e % n := by
  have e1 : ∀ x u v : Nat, ((x ^ u % n) ^ c * x ^ v) % n = x ^ (c * u + v) % n := fun x u v => by
    rw [Nat.mul_mod, pow_digit, ← Nat.mul_mod, ← Nat.pow_add]
  rw [e1, e1, hc]
theorem f2_eq (n : Nat) : f2 n = Nat.beq (2 ^ (n - 1) % n) 1 :=
  congrArg (fun x => Nat.beq x 1) (f2_gen n (n - 1) kk 1048576 (by unfold kk; omega))
noncomputable def T (n : Nat) : Bool := Bool.rec true (Bool.rec true (Bool.rec true false (Cp.ipF n)) (f2 n)) (Nat.beq (Nat.gcd n 210) 1)
theorem sq_pow {m : Nat} (hm : 1 < m) : ∀ (s a : Nat), Cp.sq m s a = true → a ^ 2 ^ s % m = 1
  | 0, a, h => by cases h
  | s + 1, a, h => by
    rw [Cp.sq] at h
    rw [Nat.pow_succ', Nat.pow_mul]
    rcases Bool.or_eq_true_iff.1 h with h | h
    · obtain rfl : a = m - 1 := by simpa using h
      have h1 : (m - 1) ^ 2 % m = 1 := by
        obtain ⟨k, rfl⟩ : ∃ k, m = k + 2 := ⟨m - 2, by omega⟩
        have e : (k + 2 - 1) ^ 2 = 1 + (k + 2) * k := by
          rw [show k + 2 - 1 = k + 1 by omega, Nat.pow_two]
          simp only [Nat.mul_add, Nat.add_mul]
          omega
        rw [e, Nat.add_mul_mod_self_left, Nat.mod_eq_of_lt hm]
      rw [Nat.pow_mod, h1, Nat.one_pow, Nat.mod_eq_of_lt hm]
    · have := sq_pow hm s _ h
      rw [← Nat.pow_mod] at this
      rw [Nat.pow_two]
      exact this
theorem ctz_mul {x : Nat} (h0 : x ≠ 0) (h : x < 2 ^ 64) : x / 2 ^ Lib.ctz 64 x * 2 ^ Lib.ctz 64 x = x := by
  obtain ⟨m, hm, -⟩ := Lib.ctzFrom_spec 64 x (by omega) h
  have e : Lib.ctz 64 x = Lib.ctzFrom 64 x := by simp [Lib.ctz, h0]
  rw [e]
  exact Nat.div_mul_cancel ⟨_, hm⟩
theorem ps_pow {m b : Nat} (hm : 1 < m) (h2 : m < 4294967296) (h : Cp.ps m b = true) : b ^ (m - 1) % m = 1 := by
  have hc := ctz_mul (x := m - 1) (by omega) (by omega)
  unfold Cp.ps at h
  generalize Lib.ctz 64 (m - 1) = s at *
  have key : (b ^ ((m - 1) / 2 ^ s) % m) ^ 2 ^ s % m = b ^ (m - 1) % m := by rw [← Nat.pow_mod, ← Nat.pow_mul, hc]
  rw [← key]
  rcases Bool.or_eq_true_iff.1 h with h | h
  · have h : b ^ ((m - 1) / 2 ^ s) % m = 1 := by simpa using h
    rw [h, Nat.one_pow, Nat.mod_eq_of_lt hm]
  · exact sq_pow hm s _ h
theorem ip_gd {m : Nat} (hm : 1 < m) (h2 : m < 4294967296) (h : Cp.ip m = true) : Gd m (m - 1) := by
  unfold Cp.ip at h
  simp only [Bool.and_eq_true] at h
  exact ⟨ps_pow hm h2 h.1, ps_pow hm h2 h.2.1, ps_pow hm h2 h.2.2.1, ps_pow hm h2 h.2.2.2⟩
theorem T_no {n : Nat} (h1 : 1 < n) (h2 : n < 4294967296) (hT : T n = true) (hg : Nat.gcd n 210 = 1) (hi : Cp.ip n = true) : False := by
  have e1 : f2 n = true := by rw [f2_eq]; exact beqT.2 (ip_gd h1 h2 hi).1
  have e2 : Cp.ipF n = true := by rw [Cp.ipF_eq h1 h2]; exact hi
  unfold T at hT
  rw [e1, e2, show Nat.beq (Nat.gcd n 210) 1 = true from beqT.2 hg] at hT
  cases hT
noncomputable def rg (t : Nat → Bool) (hi : Nat) (d : Nat) : Nat → Bool :=
  Nat.rec (motive := fun _ => Nat → Bool) (fun k => Bool.rec true (t k) (Nat.ble k hi)) (fun d ih lo => Bool.rec true (Bool.rec false (ih (Nat.add lo (Nat.pow 2 d))) (ih lo)) (Nat.ble lo hi)) d
theorem rg_ok {t : Nat → Bool} {hi : Nat} : ∀ (d lo : Nat), rg t hi d lo = true → ∀ k, lo ≤ k → k < lo + 2 ^ d → k ≤ hi → t k = true
  | 0, lo, h, k, h1, h2, h3 => by
    obtain rfl : k = lo := by simp at h2; omega
    have h : Bool.rec true (t k) (Nat.ble k hi) = true := h
    rw [Nat.ble_eq_true_of_le h3] at h
    exact h
  | d + 1, lo, h, k, h1, h2, h3 => by
    have h : Bool.rec true (Bool.rec false (rg t hi d (Nat.add lo (Nat.pow 2 d))) (rg t hi d lo)) (Nat.ble lo hi) = true := h
    rw [Nat.ble_eq_true_of_le (by omega : lo ≤ hi)] at h
    cases h4 : rg t hi d lo with
    | false => rw [h4] at h; cases h
    | true =>
      rw [h4] at h
      rcases Nat.lt_or_ge k (lo + 2 ^ d) with h5 | h5
      · exact rg_ok d lo h4 k h1 h5 h3
      · exact rg_ok d (lo + 2 ^ d) h k h5 (by rw [Nat.pow_succ] at h2; omega) h3
noncomputable def chk (p : Nat) : Bool :=
  Bool.rec false ((fun E => (fun k => rg (fun i => T (Nat.mul p (Nat.add 1 (Nat.mul i E)))) k (Nat.succ (Nat.log2 k)) 1) (Nat.div (Nat.sub (Nat.div 2147483647 p) 1) E)) (oE p smalls 1 (Nat.sub p 1))) (al p (Nat.sub p 1))
def K2 : Nat := Nat.mul (Cp.prodR 5 217) (Cp.prodR 3 249)
noncomputable def pchk (i : Nat) : Bool := (fun p => Bool.rec true (Bool.rec (Bool.rec true (chk p) (Nat.beq (Nat.gcd p K2) 1)) (chk p) (Nat.ble p 256)) (Nat.beq (Nat.gcd p K) 1)) (Nat.add (Nat.mul 2 i) 1)
theorem chk_no {p m : Nat} (hp : 1 < p) (h : chk p = true) (hm : 1 < m) (hN : p * m ≤ 2147483647) (hg : Nat.gcd (p * m) 210 = 1) (hi : Cp.ip (p * m) = true) : False := by
  have hn1 : 1 < p * m := Nat.lt_of_lt_of_le hm (Nat.le_mul_of_pos_left m (by omega))
  unfold chk at h
  cases h1 : al p (Nat.sub p 1) with
  | false => rw [h1] at h; cases h
  | true =>
    rw [h1] at h
    have g1 : Gd p (p - 1) := al_ok h1
    have g2 : Gd p (m - 1) := g1.cof hp (by omega) ((ip_gd hn1 (by omega) hi).sub hp (Nat.dvd_mul_right _ _))
    obtain ⟨k, hk⟩ := oE_ok hp g1 g2 smalls smalls_pr 1 (p - 1) (Nat.one_dvd _)
    have h : rg (fun i => T (p * (1 + i * oE p smalls 1 (p - 1)))) ((2147483647 / p - 1) / oE p smalls 1 (p - 1)) (((2147483647 / p - 1) / oE p smalls 1 (p - 1)).log2 + 1) 1 = true := h
    generalize oE p smalls 1 (p - 1) = E at *
    have hk0 : k ≠ 0 := fun h => by rw [h, Nat.mul_zero] at hk; omega
    have hE0 : 0 < E := Nat.pos_of_ne_zero fun h => by rw [h, Nat.zero_mul] at hk; omega
    have hmN : m ≤ 2147483647 / p := (Nat.le_div_iff_mul_le (by omega)).2 (by rw [Nat.mul_comm]; exact hN)
    have hkK : k ≤ (2147483647 / p - 1) / E := (Nat.le_div_iff_mul_le hE0).2 (by rw [Nat.mul_comm, ← hk]; omega)
    have hT := rg_ok _ _ h k (by omega) (by have := Nat.lt_log2_self (n := (2147483647 / p - 1) / E); omega) hkK
    have e : p * (1 + k * E) = p * m := by rw [Nat.mul_comm k E, ← hk]; congr 1; omega
    rw [e] at hT
    exact T_no hn1 (by omega) hT hg hi
theorem pchk_chk {p : Nat} (hp : Pr p) (h1 : 215 < p) (h : pchk (p / 2) = true) (h2 : p % 2 = 1) : chk p = true := by
  have h : Bool.rec true (Bool.rec (Bool.rec true (chk (2 * (p / 2) + 1)) (Nat.beq (Nat.gcd (2 * (p / 2) + 1) K2) 1)) (chk (2 * (p / 2) + 1)) (Nat.ble (2 * (p / 2) + 1) 256)) (Nat.beq (Nat.gcd (2 * (p / 2) + 1) K) 1) = true := h
  rw [show 2 * (p / 2) + 1 = p by omega] at h
  have hc : Nat.gcd p K = 1 := hp.cop fun h => by have := K_pr hp h; omega
  rw [show Nat.beq (Nat.gcd p K) 1 = true from beqT.2 hc] at h
  cases h3 : Nat.ble p 256 with
  | true => rw [h3] at h; exact h
  | false =>
    have h4 : 256 < p := Nat.lt_of_not_le fun h => by rw [Nat.ble_eq_true_of_le h] at h3; cases h3
    have hc2 : Nat.gcd p K2 = 1 := hp.cop fun h => by
      rcases hp.mul h with h | h
      · have := hp.prodR 5 217 (by omega) h; omega
      · have := hp.prodR 3 249 (by omega) h; omega
    rw [h3, show Nat.beq (Nat.gcd p K2) 1 = true from beqT.2 hc2] at h
    exact h
noncomputable def go (M : Nat) (t : Nat → Nat × Nat → Bool) (d : Nat) : List (Nat × Nat) → Nat → Bool :=
  Nat.rec (motive := fun _ => List (Nat × Nat) → Nat → Bool) (fun _ _ => true) (fun _ G L => List.rec (motive := fun _ => Nat → Bool) (fun _ => true) (fun e L' ih c => Bool.rec true (Bool.rec false (Bool.rec false (ih c) (G (e :: L') (Nat.mul c e.1))) (t c e)) (Nat.ble (Nat.mul c e.1) M)) L) d
theorem go_cons {M : Nat} {t : Nat → Nat × Nat → Bool} {d : Nat} {e : Nat × Nat} {L : List (Nat × Nat)} {c : Nat} (h1 : t c e = true) (h2 : go M t d (e :: L) (c * e.1) = true) (h3 : go M t (d + 1) L c = true) : go M t (d + 1) (e :: L) c = true := by
  show Bool.rec true (Bool.rec false (Bool.rec false (go M t (d + 1) L c) (go M t d (e :: L) (c * e.1))) (t c e)) (Nat.ble (c * e.1) M) = true
  rw [h1, h2, h3]
  cases Nat.ble (c * e.1) M <;> rfl
theorem go_ok {M : Nat} {t : Nat → Nat × Nat → Bool} : ∀ (d : Nat) (L : List (Nat × Nat)) (c x : Nat), (∀ e ∈ L, 11 ≤ e.1) → L.Pairwise (fun e f => e.1 ≤ f.1) → x < 11 ^ d → c * x ≤ M → 1 < x → (∀ p, Pr p → p ∣ x → ∃ e ∈ L, e.1 = p) → go M t d L c = true → ∃ c' e, e ∈ L ∧ c' * e.1 = c * x ∧ t c' e = true
  | 0, L, c, x, _, _, h1, _, h2, _, _ => by simp at h1; omega
  | d + 1, [], c, x, _, _, h1, _, h2, h3, _ => by
    obtain ⟨p, h4, h5⟩ := ex_pr x h2
    obtain ⟨e, h6, -⟩ := h3 p h4 h5
    cases h6
  | d + 1, e :: L, c, x, hL, hs, h1, hM, h2, h3, h => by
    have h : Bool.rec true (Bool.rec false (Bool.rec false (go M t (d + 1) L c) (go M t d (e :: L) (c * e.1))) (t c e)) (Nat.ble (c * e.1) M) = true := h
    have he := hL e (List.mem_cons_self ..)
    have hex : e.1 ≤ x := by
      obtain ⟨p, h4, h5⟩ := ex_pr x h2
      obtain ⟨f, h6, h7⟩ := h3 p h4 h5
      have h8 : e.1 ≤ f.1 := by
        rcases List.mem_cons.1 h6 with rfl | h6
        · exact Nat.le_refl _
        · exact (List.pairwise_cons.1 hs).1 f h6
      have := Nat.le_of_dvd (by omega) h5
      omega
    rw [Nat.ble_eq_true_of_le (Nat.le_trans (Nat.mul_le_mul_left c hex) hM)] at h
    cases h4 : t c e with
    | false => rw [h4] at h; cases h
    | true =>
      rw [h4] at h
      cases h5 : go M t d (e :: L) (c * e.1) with
      | false => rw [h5] at h; cases h
      | true =>
        rw [h5] at h
        by_cases h6 : e.1 ∣ x
        · obtain ⟨y, rfl⟩ := h6
          by_cases hy : y = 1
          · exact ⟨c, e, List.mem_cons_self .., by rw [hy, Nat.mul_one], h4⟩
          · have hy0 : y ≠ 0 := fun h => by rw [h, Nat.mul_zero] at h2; omega
            have hlt : y < 11 ^ d := by
              rw [Nat.pow_succ, Nat.mul_comm (11 ^ d)] at h1
              exact Nat.lt_of_mul_lt_mul_left (Nat.lt_of_le_of_lt (Nat.mul_le_mul_right y he) h1)
            obtain ⟨c', f, g1, g2, g3⟩ := go_ok d (e :: L) (c * e.1) y hL hs hlt (by rw [Nat.mul_assoc]; exact hM) (by omega) (fun p hp hd => h3 p hp (Nat.dvd_trans hd (Nat.dvd_mul_left _ _))) h5
            exact ⟨c', f, g1, by rw [g2, Nat.mul_assoc], g3⟩
        · obtain ⟨c', f, g1, g2, g3⟩ := go_ok (d + 1) L c x (fun f hf => hL f (List.mem_cons_of_mem _ hf)) (List.pairwise_cons.1 hs).2 h1 hM h2 (fun p hp hd => by
            obtain ⟨f, g4, g5⟩ := h3 p hp hd
            rcases List.mem_cons.1 g4 with rfl | g4
            · rw [← g5] at hd; exact absurd hd h6
            · exact ⟨f, g4, g5⟩) h
          exact ⟨c', f, List.mem_cons_of_mem _ g1, g2, g3⟩
def sl : List (Nat × Nat) := [(11, 10), (13, 12), (17, 16), (19, 18), (23, 22), (29, 28), (31, 30), (37, 36), (41, 40), (43, 42), (47, 46), (53, 52), (59, 58), (61, 60), (67, 66), (71, 70), (73, 72), (79, 78), (83, 82), (89, 88), (97, 96), (101, 100), (103, 102), (107, 106), (109, 108), (113, 112), (127, 126), (131, 130), (137, 136), (139, 138), (149, 148), (151, 150), (157, 156), (163, 162), (167, 166), (173, 172), (179, 178), (181, 180), (191, 190), (193, 192), (197, 196), (199, 198), (211, 210)]
theorem sl_lo : ∀ e ∈ sl, 11 ≤ e.1 := by decide +kernel
theorem sl_sorted : sl.Pairwise (fun e f => e.1 ≤ f.1) := by decide +kernel
theorem sl_al : (sl.all fun e => al e.1 (Nat.sub e.1 1)) = true := by decide +kernel
theorem sl_oE : (sl.all fun e => Nat.beq (oE e.1 smalls 1 (Nat.sub e.1 1)) e.2) = true := by decide +kernel
theorem sl_all : ∀ p, p < 216 → (sl.any fun e => e.1 == p) = true ∨ p < 2 ∨ Nat.gcd p 210 ≠ 1 ∨ ((List.range p).any fun d => decide (1 < d) && p % d == 0) = true := by decide +kernel
theorem sl_mem {p : Nat} (hp : Pr p) (h : p ≤ 215) (hg : Nat.gcd p 210 = 1) : ∃ e ∈ sl, e.1 = p := by
  rcases sl_all p (by omega) with h1 | h1 | h1 | h1
  · obtain ⟨e, h2, h3⟩ := List.any_eq_true.1 h1
    exact ⟨e, h2, by simpa using h3⟩
  · have := hp.1; omega
  · exact absurd hg h1
  · obtain ⟨d, h2, h3⟩ := List.any_eq_true.1 h1
    simp only [Bool.and_eq_true, decide_eq_true_eq, beq_iff_eq] at h3
    rcases hp.2 d (Nat.dvd_of_mod_eq_zero h3.2) with h4 | h4
    · omega
    · have := List.mem_range.1 h2; omega
noncomputable def tC (c : Nat) (e : Nat × Nat) : Bool := Bool.rec (Bool.rec true (T (Nat.mul c e.1)) (Nat.beq (Nat.mod (Nat.sub c 1) e.2) 0)) true (Nat.beq c 1)
theorem tC_no {c : Nat} {e : Nat × Nat} (he : e ∈ sl) (h : tC c e = true) (hc : 1 < c) (hN : c * e.1 ≤ 2147483647) (hg : Nat.gcd (c * e.1) 210 = 1) (hi : Cp.ip (c * e.1) = true) : False := by
  have he1 := sl_lo e he
  have hn1 : 1 < c * e.1 := Nat.lt_of_lt_of_le hc (Nat.le_mul_of_pos_right c (by omega))
  have g1 : Gd e.1 (e.1 - 1) := al_ok (List.all_eq_true.1 sl_al e he)
  have g0 := (ip_gd hn1 (by omega) hi).sub (show 1 < e.1 by omega) (Nat.dvd_mul_left _ _)
  rw [Nat.mul_comm] at g0
  have g2 : Gd e.1 (c - 1) := g1.cof (by omega) (by omega) g0
  have hd := oE_ok (by omega) g1 g2 smalls smalls_pr 1 (e.1 - 1) (Nat.one_dvd _)
  have hE : oE e.1 smalls 1 (e.1 - 1) = e.2 := beqT.1 (List.all_eq_true.1 sl_oE e he)
  rw [hE] at hd
  unfold tC at h
  rw [show Nat.beq c 1 = false from by cases h1 : Nat.beq c 1 with | false => rfl | true => have := beqT.1 h1; omega, show Nat.beq (Nat.mod (Nat.sub c 1) e.2) 0 = true from beqT.2 (Nat.mod_eq_zero_of_dvd hd)] at h
  exact T_no hn1 (by omega) h hg hi
def gx4 (s : Nat) : Nat := Nat.gcd (Nat.gcd (Nat.sub (Nat.pow 2 (Nat.sub s 1)) 1) (Nat.sub (Nat.pow 3 (Nat.sub s 1)) 1)) (Nat.gcd (Nat.sub (Nat.pow 5 (Nat.sub s 1)) 1) (Nat.sub (Nat.pow 7 (Nat.sub s 1)) 1))
def chkA (s : Nat) : Bool := (fun x => Nat.beq (Nat.mod (Nat.pow (Nat.mod (Cp.prodR 16 2) x) 64) x) 0) (gx4 s)
noncomputable def tA (c : Nat) (e : Nat × Nat) : Bool := chkA (Nat.mul c e.1)
theorem gd_gx4 {q s : Nat} (hq : 1 < q) (g : Gd q (s - 1)) : q ∣ gx4 s := by
  have f : ∀ {b : Nat}, b ^ (s - 1) % q = 1 → q ∣ b ^ (s - 1) - 1 := fun {b} h => by
    have := Nat.div_add_mod (b ^ (s - 1)) q
    rw [h] at this
    exact ⟨b ^ (s - 1) / q, by omega⟩
  exact Nat.dvd_gcd (Nat.dvd_gcd (f g.1) (f g.2.1)) (Nat.dvd_gcd (f g.2.2.1) (f g.2.2.2))
theorem chkA_no {q s : Nat} (hq : Pr q) (h1 : 65537 < q) (h : chkA s = true) (g : Gd q (s - 1)) : False := by
  have h2 : gx4 s ∣ (Cp.prodR 16 2 % gx4 s) ^ 64 := Nat.dvd_of_mod_eq_zero (beqT.1 h)
  have h3 := gd_gx4 hq.1 g
  have h4 := hq.pow (Nat.dvd_trans h3 h2)
  have h5 := (Nat.dvd_mod_iff h3).1 h4
  have := hq.prodR 16 2 (by omega) h5
  omega
end Go.Proofs.YtkbgeggflhfleaaGreatDoor.Mr
