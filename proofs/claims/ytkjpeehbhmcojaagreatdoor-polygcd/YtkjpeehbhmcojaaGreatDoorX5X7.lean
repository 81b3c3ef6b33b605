/-
  Plain: what divisor (residues) makes is a greatest common divisor: it lies in each ideal that holds both, and an ideal that holds it holds both.
-/
import Derived.Test.YtkjpeehbhmcojaaGreatDoorInU0X0X1Y0X4
import Derived.Test.YtkjpeehbhmcojaaGreatDoorUsHaHbHc
namespace Go.Proofs.YtkjpeehbhmcojaaGreatDoor.Md
open Go.Proofs.YtkjpeehbhmcojaaGreatDoor
set_option linter.unusedVariables false
set_option linter.unusedSimpArgs false
set_option maxHeartbeats 8000000
structure Idl (p : Int) (I : (Nat → Int) → Prop) : Prop where
  cg : ∀ {f g : Nat → Int}, I f → (∀ t, p ∣ g t - f t) → I g
  add : ∀ {f g : Nat → Int}, I f → I g → I fun t => f t + g t
  mul : ∀ {f : Nat → Int} (c : Int), I f → I fun t => c * f t
  sh : ∀ {f : Nat → Int} (k : Nat), I f → I fun t => if t < k then 0 else f (t - k)
def tk (Z : List Int) (k : Nat) : Nat → Int := fun t => if t < k then gx Z t else 0
theorem gx_set_eq (Z : List Int) (i : Nat) (v : Int) (h : i < Z.length) : gx (Z.set i v) i = v := by
  rw [gx_mem _ _ (by rw [List.length_set]; exact h)]
  simp
theorem gx_rstep (m c : Int) (bs : List Int) (o : Nat) : ∀ t Z, o + t ≤ Z.length → ∀ i, i < o + t → gx (rstep m c bs o t Z) i = if o ≤ i then (gx Z i + c * gx bs (i - o)) % m else gx Z i
  | 0, Z, _, i, hi => by rw [if_neg (by omega)]; rfl
  | t + 1, Z, h, i, hi => by
    rw [rstep]
    by_cases e : i = o + t
    · subst e
      rw [gx_set_eq _ _ _ (by rw [length_rstep]; omega), if_pos (by omega), Nat.add_sub_cancel_left]
    · rw [gx_set_ne' _ _ _ _ (by omega), gx_rstep m c bs o t Z (by omega) i (by omega)]
theorem dvd_emod_sub (p x : Int) : p ∣ x % p - x := by
  rw [Int.emod_def]
  exact ⟨-(x / p), by rw [Int.mul_neg]; omega⟩
variable {p : Int} {I : (Nat → Int) → Prop}
theorem step_key {bs Z : List Int} {n j : Nat} (hn : n + j < Z.length) (h1 : p ∣ gx bs n - 1) (h0 : ∀ t, n < t → gx bs t = 0) (t : Nat) :
    p ∣ tk (if (0 - gx Z (n + j)) % p = 0 then Z else rstep p ((0 - gx Z (n + j)) % p) bs j n Z) (n + j) t - (tk Z (n + j + 1) t + ((0 - gx Z (n + j)) % p) * (if t < j then 0 else gx bs (t - j))) := by
  have hc := dvd_emod_sub p (0 - gx Z (n + j))
  generalize hcc : (0 - gx Z (n + j)) % p = c at *
  rcases Nat.lt_trichotomy t (n + j) with h | h | h
  · unfold tk
    rw [if_pos h, if_pos (show t < n + j + 1 by omega)]
    by_cases hj : t < j
    · rw [if_pos hj, Int.mul_zero, Int.add_zero]
      split
      · rw [Int.sub_self]; exact Int.dvd_zero p
      · rw [gx_rstep p c bs j n Z (by omega) t (by omega), if_neg (by omega), Int.sub_self]
        exact Int.dvd_zero p
    · rw [if_neg hj]
      split
      · rename_i hz
        rw [hz, Int.zero_mul, Int.add_zero, Int.sub_self]; exact Int.dvd_zero p
      · rw [gx_rstep p c bs j n Z (by omega) t (by omega), if_pos (by omega)]
        exact dvd_emod_sub p _
  · subst h
    unfold tk
    rw [if_neg (by omega), if_pos (by omega), if_neg (by omega), Nat.add_sub_cancel]
    obtain ⟨u, hu⟩ := hc
    obtain ⟨v, hv⟩ := h1
    have e1 : c = p * u - gx Z (n + j) := by omega
    have e2 : gx bs n = p * v + 1 := by omega
    rw [e1, e2]
    refine ⟨-(u + (p * u - gx Z (n + j)) * v), ?_⟩
    generalize gx Z (n + j) = z
    rw [Int.mul_add, Int.mul_one, Int.mul_neg, Int.mul_add]
    have e3 : (p * u - z) * (p * v) = p * ((p * u - z) * v) := by rw [Int.mul_left_comm]
    rw [e3]
    omega
  · unfold tk
    rw [if_neg (by omega), if_neg (by omega)]
    by_cases hj : t < j
    · rw [if_pos hj, Int.mul_zero]; exact Int.dvd_zero p
    · rw [if_neg hj, h0 _ (by omega), Int.mul_zero]; exact Int.dvd_zero p
theorem step_idl (H : Idl p I) {bs Z : List Int} {n j : Nat} (hn : n + j < Z.length) (h1 : p ∣ gx bs n - 1) (h0 : ∀ t, n < t → gx bs t = 0) (hb : I (gx bs)) :
    I (tk Z (n + j + 1)) ↔ I (tk (if (0 - gx Z (n + j)) % p = 0 then Z else rstep p ((0 - gx Z (n + j)) % p) bs j n Z) (n + j)) := by
  have key := step_key hn h1 h0
  refine ⟨fun h => H.cg (H.add h (H.mul ((0 - gx Z (n + j)) % p) (H.sh j hb))) key, fun h => H.cg (H.add h (H.mul (-((0 - gx Z (n + j)) % p)) (H.sh j hb))) fun t => ?_⟩
  obtain ⟨u, hu⟩ := key t
  refine ⟨-u, ?_⟩
  rw [Int.mul_neg, ← hu, Int.neg_mul]
  omega
theorem rrest_idl (H : Idl p I) {bs : List Int} {n : Nat} (h1 : p ∣ gx bs n - 1) (h0 : ∀ t, n < t → gx bs t = 0) (hb : I (gx bs)) : ∀ j Z, n + j ≤ Z.length →
    (I (tk Z (n + j)) ↔ I (tk (rrest p bs n j Z) n))
  | 0, Z, _ => Iff.rfl
  | j + 1, Z, h => by
    rw [rrest]
    refine (step_idl H (by omega) h1 h0 hb).trans (rrest_idl H h1 h0 hb j _ ?_)
    split
    · omega
    · rw [length_rstep]; omega
theorem idl_zero (H : Idl p I) {f g : Nat → Int} (hf : I f) (hg : ∀ t, g t = 0) : I g :=
  H.cg (H.mul 0 hf) fun t => by rw [hg, Int.zero_mul]; exact Int.dvd_zero p
theorem tk_tlen (Z : List Int) (k : Nat) : tk Z (tlen (Z.take k)) = tk Z k := funext fun t => by
  unfold tk
  have h := tlen_le (Z.take k)
  rw [List.length_take] at h
  by_cases h1 : t < tlen (Z.take k)
  · rw [if_pos h1, if_pos (by omega)]
  · rw [if_neg h1]
    by_cases h2 : t < k
    · rw [if_pos h2]
      have := tlen_zero (Z.take k) t (by omega)
      rw [gx_take _ _ _ h2] at this
      exact this.symm
    · rw [if_neg h2]
theorem Res.not_dvd {m : Int} {xs : List Int} (h : Res m xs) {i : Nat} (hi : gx xs i ≠ 0) : ¬ m ∣ gx xs i := fun hd => by
  have h1 := h i
  have := Int.le_of_dvd (by omega) hd
  omega
theorem dvs_idl (H : Idl p I) (hp : 2 ≤ p) (iv : Int → Int) (hiv : ∀ a, ¬ p ∣ a → (a * iv a) % p = 1) : ∀ (f : Nat) (A : List Int) (na : Nat) (B : List Int) (nb : Nat), nb ≤ f → na ≤ A.length → nb ≤ B.length → Res p A → Res p B →
    (0 < nb → gx B (nb - 1) ≠ 0) → ((I (tk A na) ∧ I (tk B nb)) ↔ I (tk (dvs p iv f A na B nb).1 (dvs p iv f A na B nb).2))
  | 0, A, na, B, nb, hf, _, _, _, _, _ => by
    obtain rfl : nb = 0 := by omega
    rw [dvs]
    exact ⟨fun h => h.1, fun h => ⟨h, idl_zero H h fun t => by unfold tk; rw [if_neg (by omega)]⟩⟩
  | f + 1, A, na, B, nb, hf, hA, hB, rA, rB, ht => by
    rw [dvs]
    by_cases h0 : nb = 0
    · subst h0
      rw [if_pos rfl]
      exact ⟨fun h => h.1, fun h => ⟨h, idl_zero H h fun t => by unfold tk; rw [if_neg (by omega)]⟩⟩
    · rw [if_neg h0]
      have hinv := hiv _ (Res.not_dvd rB (ht (by omega)))
      generalize iv (gx B (nb - 1)) = c at *
      have gB : ∀ t, gx ((B.take nb).map (· * c % p)) t = tk B nb t * c % p := fun t => by
        rw [gx_map0 (· * c % p) (by simp)]
        unfold tk
        by_cases h : t < nb
        · rw [if_pos h, gx_take _ _ _ h]
        · rw [if_neg h, gx_past _ nb (by rw [List.length_take]; omega) t (by omega)]
      have lB : ((B.take nb).map (· * c % p)).length = nb := by rw [List.length_map, List.length_take]; omega
      have rB1 : Res p ((B.take nb).map (· * c % p)) := Res.scaled hp
      generalize hB1 : (B.take nb).map (· * c % p) = B1 at *
      clear hB1
      have eI : I (tk B nb) ↔ I (gx B1) := by
        refine ⟨fun h => H.cg (H.mul c h) fun t => ?_, fun h => H.cg (H.mul (gx B (nb - 1)) h) fun t => ?_⟩
        · rw [gB, Int.mul_comm c]; exact dvd_emod_sub p _
        · rw [gB]
          obtain ⟨u, hu⟩ := dvd_emod_sub p (tk B nb t * c)
          obtain ⟨v, hv⟩ := dvd_emod_sub p (gx B (nb - 1) * c)
          rw [hinv] at hv
          generalize tk B nb t = b at *
          generalize gx B (nb - 1) = l at *
          have e1 : b * c % p = b * c + p * u := by omega
          have e2 : l * c = 1 - p * v := by omega
          refine ⟨b * v - l * u, ?_⟩
          rw [e1, Int.mul_add]
          have e3 : l * (b * c) = b - p * (b * v) := by rw [Int.mul_left_comm, e2, Int.mul_sub, Int.mul_one, Int.mul_left_comm]
          have e4 : l * (p * u) = p * (l * u) := by rw [Int.mul_left_comm]
          rw [e3, e4, Int.mul_sub]
          omega
      have m1 : p ∣ gx B1 (nb - 1) - 1 := by
        rw [gB]
        unfold tk
        rw [if_pos (by omega), hinv]
        exact Int.dvd_zero p
      have z1 : ∀ t, nb - 1 < t → gx B1 t = 0 := fun t h => gx_past _ nb (by omega) t (by omega)
      have eB : tk B1 nb = gx B1 := funext fun t => by
        unfold tk
        by_cases h : t < nb
        · rw [if_pos h]
        · rw [if_neg h, z1 t (by omega)]
      have lR := length_rrest p B1 (nb - 1) (na - (nb - 1)) A
      have rR : Res p (rrest p B1 (nb - 1) (na - (nb - 1)) A) := Res.rrest hp _ rA
      have eA : I (gx B1) → (I (tk A na) ↔ I (tk (rrest p B1 (nb - 1) (na - (nb - 1)) A) (min (nb - 1) na))) := fun hb => by
        rcases Nat.le_total na (nb - 1) with h | h
        · rw [show na - (nb - 1) = 0 by omega, show min (nb - 1) na = na by omega]
          exact Iff.rfl
        · have := rrest_idl H m1 z1 hb (na - (nb - 1)) A (by omega)
          rw [show nb - 1 + (na - (nb - 1)) = na by omega] at this
          rw [show min (nb - 1) na = nb - 1 by omega]
          exact this
      generalize rrest p B1 (nb - 1) (na - (nb - 1)) A = R at *
      have hl := tlen_le (R.take (min (nb - 1) na))
      rw [List.length_take] at hl
      have ih := dvs_idl H hp iv hiv f B1 nb R (tlen (R.take (min (nb - 1) na))) (by omega) (by omega) (by omega) rB1 rR (fun h => by
        have h2 := tlen_top _ h
        rwa [gx_take _ _ _ (by omega)] at h2)
      rw [tk_tlen, eB] at ih
      rw [← ih, eI]
      exact ⟨fun h => ⟨h.2, (eA h.2).1 h.1⟩, fun h => ⟨(eA h.1).2 h.2, h.1⟩⟩
def Sat (I : (Nat → Int) → Prop) : Prop := ∀ (c : Int) (f : Nat → Int), c ≠ 0 → I (fun t => c * f t) → I f
def cst (r : Int) : Nat → Int := fun t => if t = 0 then r else 0
theorem Idl.eq {I : (Nat → Int) → Prop} (H : Idl 0 I) {f g : Nat → Int} (hf : I f) (h : ∀ t, g t = f t) : I g :=
  H.cg hf fun t => by rw [h, Int.sub_self]; exact Int.dvd_zero 0
def el (b : Nat → Int) (m j : Nat) (f : Nat → Int) : Nat → Int := fun t => b m * f t - f (m + j) * (if t < j then 0 else b (t - j))
theorem el_bd {b f : Nat → Int} {m j s u : Nat} (hb : ∀ t, (b t).natAbs ≤ 2 ^ u) (hf : ∀ t, (f t).natAbs ≤ 2 ^ s) (t : Nat) : (el b m j f t).natAbs ≤ 2 ^ (s + (u + 1)) := by
  unfold el
  have h1 := Int.natAbs_sub_le (b m * f t) (f (m + j) * (if t < j then 0 else b (t - j)))
  rw [Int.natAbs_mul, Int.natAbs_mul] at h1
  have h2 : (if t < j then (0 : Int) else b (t - j)).natAbs ≤ 2 ^ u := by
    split
    · simp
    · exact hb _
  have h3 := Nat.mul_le_mul (hb m) (hf t)
  have h4 := Nat.mul_le_mul (hf (m + j)) h2
  rw [← Nat.add_assoc, Nat.pow_succ, Nat.pow_add]
  rw [Nat.mul_comm (2 ^ u)] at h3
  omega
theorem el_top {b f : Nat → Int} {m j : Nat} (hb : ∀ t, m < t → b t = 0) (hf : ∀ t, m + j < t → f t = 0) (t : Nat) (ht : m + j ≤ t) : el b m j f t = 0 := by
  unfold el
  rcases Nat.lt_or_ge (m + j) t with h | h
  · rw [hf t h, Int.mul_zero]
    split
    · rw [Int.mul_zero, Int.sub_zero]
    · rw [hb _ (by omega), Int.mul_zero, Int.sub_zero]
  · obtain rfl : t = m + j := by omega
    rw [if_neg (by omega), Nat.add_sub_cancel, Int.mul_comm, Int.sub_self]
theorem el_in {I : (Nat → Int) → Prop} (H : Idl 0 I) {b f : Nat → Int} {m j : Nat} (hb : I b) (hf : I f) : I (el b m j f) :=
  H.eq (H.add (H.mul (b m) hf) (H.mul (-(f (m + j))) (H.sh j hb))) fun t => by
    unfold el
    rw [Int.neg_mul]
    omega
theorem el_out {I : (Nat → Int) → Prop} (H : Idl 0 I) (hS : Sat I) {b f : Nat → Int} {m j : Nat} (hm : b m ≠ 0) (hb : I b) (hf : I (el b m j f)) : I f :=
  hS (b m) f hm (H.eq (H.add hf (H.mul (f (m + j)) (H.sh j hb))) fun t => by
    unfold el
    omega)
theorem elim {b : Nat → Int} {m u : Nat} (hm : b m ≠ 0) (hz : ∀ t, m < t → b t = 0) (hb : ∀ t, (b t).natAbs ≤ 2 ^ u) : ∀ (j s : Nat) (f : Nat → Int), (∀ t, m + j ≤ t → f t = 0) → (∀ t, (f t).natAbs ≤ 2 ^ s) →
    ∃ r : Nat → Int, (∀ t, m ≤ t → r t = 0) ∧ (∀ t, (r t).natAbs ≤ 2 ^ (s + j * (u + 1))) ∧ ∀ I, Idl 0 I → I b → (I f → I r) ∧ (Sat I → I r → I f)
  | 0, s, f, h0, hs => ⟨f, fun t ht => h0 t (by omega), fun t => by rw [Nat.zero_mul]; exact hs t, fun I _ _ => ⟨id, fun _ => id⟩⟩
  | j + 1, s, f, h0, hs => by
    obtain ⟨r, h1, h2, h3⟩ := elim hm hz hb j (s + (u + 1)) (el b m j f) (fun t ht => el_top hz (fun t ht => h0 t (by omega)) t ht) (fun t => el_bd hb hs t)
    refine ⟨r, h1, fun t => ?_, fun I H hI => ⟨fun hf => (h3 I H hI).1 (el_in H hI hf), fun hS hr => el_out H hS hm hI ((h3 I H hI).2 hS hr)⟩⟩
    have := h2 t
    rwa [show s + (u + 1) + j * (u + 1) = s + (j + 1) * (u + 1) by rw [Nat.add_mul, Nat.one_mul]; omega] at this
def mx (g : Nat → Nat) : Nat → Nat
  | 0 => 0
  | k + 1 => max (mx g k) (g k)
theorem le_mx (g : Nat → Nat) : ∀ k i, i < k → g i ≤ mx g k
  | 0, i, h => absurd h (Nat.not_lt_zero _)
  | k + 1, i, h => by
    rw [mx]
    rcases Nat.lt_or_ge i k with h1 | h1
    · have := le_mx g k i h1
      omega
    · obtain rfl : i = k := by omega
      omega
def Bd : Nat → Nat → Nat → Nat → Nat → Nat
  | 0, _, _, _, u => u
  | f + 1, n, m, s, u => if m = 0 then u else mx (fun m1 => Bd f m m1 u (s + (n + 1 - m) * (u + 1))) m
def Cop (a b : Nat → Int) : Prop := ∀ (d : Nat → Int) (N : Nat), (∀ t, N ≤ t → d t = 0) → (∀ I, Idl 0 I → Sat I → I d → I a ∧ I b) → ∀ t, 0 < t → d t = 0
theorem last_not {r : Nat → Int} : ∀ m, (∀ t, m ≤ t → r t = 0) → (∀ t, r t = 0) ∨ ∃ k, k < m ∧ r k ≠ 0 ∧ ∀ t, k < t → r t = 0
  | 0, h => .inl fun t => h t (Nat.zero_le _)
  | m + 1, h => by
    by_cases e : r m = 0
    · rcases last_not m (fun t ht => by
        rcases Nat.lt_or_ge m t with h1 | h1
        · exact h t h1
        · obtain rfl : t = m := by omega
          exact e) with h1 | ⟨k, h1, h2⟩
      · exact .inl h1
      · exact .inr ⟨k, by omega, h2⟩
    · exact .inr ⟨m, by omega, e, fun t ht => h t (by omega)⟩
theorem bez : ∀ (F n m s u : Nat) (a b : Nat → Int), m ≤ F → (∀ t, n < t → a t = 0) → (∀ t, m < t → b t = 0) → b m ≠ 0 → (∀ t, (a t).natAbs ≤ 2 ^ s) → (∀ t, (b t).natAbs ≤ 2 ^ u) → Cop a b →
    ∃ R : Int, R ≠ 0 ∧ R.natAbs ≤ 2 ^ Bd F n m s u ∧ ∀ I, Idl 0 I → I a → I b → I (cst R)
  | 0, n, m, s, u, a, b, hF, ha, hb, hm, hs, hu, hc => by
    obtain rfl : m = 0 := by omega
    refine ⟨b 0, hm, hu 0, fun I H _ h => H.eq h fun t => ?_⟩
    unfold cst
    split
    · rename_i e; rw [e]
    · rw [hb t (by omega)]
  | F + 1, n, m, s, u, a, b, hF, ha, hb, hm, hs, hu, hc => by
    by_cases h0 : m = 0
    · subst h0
      refine ⟨b 0, hm, ?_, fun I H _ h => H.eq h fun t => ?_⟩
      · rw [Bd, if_pos rfl]; exact hu 0
      · unfold cst
        split
        · rename_i e; rw [e]
        · rw [hb t (by omega)]
    · obtain ⟨r, h1, h2, h3⟩ := elim hm hb hu (n + 1 - m) s a (fun t ht => ha t (by omega)) hs
      rcases last_not m h1 with hr | ⟨k, hk, hk0, hkz⟩
      · exfalso
        refine hm (hc b (m + 1) (fun t ht => hb t (by omega)) (fun I H hS hI => ⟨(h3 I H hI).2 hS (idl_zero H hI hr), hI⟩) m (by omega))
      · obtain ⟨R, r0, r1, r2⟩ := bez F m k u (s + (n + 1 - m) * (u + 1)) b r (by omega) hb hkz hk0 hu h2 (fun d N hN hd => hc d N hN fun I H hS hI => by
          obtain ⟨i1, i2⟩ := hd I H hS hI
          exact ⟨(h3 I H i1).2 hS i2, i1⟩)
        refine ⟨R, r0, ?_, fun I H ia ib => r2 I H ib ((h3 I H ib).1 ia)⟩
        have hle : Bd F m k u (s + (n + 1 - m) * (u + 1)) ≤ Bd (F + 1) n m s u := by
          rw [Bd, if_neg h0]
          exact le_mx (fun m1 => Bd F m m1 u (s + (n + 1 - m) * (u + 1))) m k hk
        exact Nat.le_trans r1 (Nat.pow_le_pow_right (by decide) hle)
end Go.Proofs.YtkjpeehbhmcojaaGreatDoor.Md
