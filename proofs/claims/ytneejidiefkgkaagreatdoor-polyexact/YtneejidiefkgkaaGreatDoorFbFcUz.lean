/-
  Plain: division of polynomials from the top, and when it goes.
-/
import Derived.Test.YtneejidiefkgkaaGreatDoorFk
import Derived.Test.YtneejidiefkgkaaGreatDoorFx
import Derived.Test.YtneejidiefkgkaaGreatDoorDcPmInDf
import Derived.Test.YtneejidiefkgkaaGreatDoorUy
namespace Go.Proofs.YtneejidiefkgkaaGreatDoor
open Go.RowKit
set_option linter.unusedVariables false
set_option linter.unusedSimpArgs false

/-- What is left behind r steps. -/
def dG (zs ys : List Int) (m k : Nat) : Nat → Nat → Int
  | 0, t => gx zs t
  | r + 1, t => dG zs ys m k r t - (if k - (r + 1) ≤ t then dG zs ys m k r (m + (k - (r + 1))) / gx ys m * gx ys (t - (k - (r + 1))) else 0)
def dF (zs ys : List Int) (m k i t : Nat) : Int := dG zs ys m k (k - i) t
def dC (zs ys : List Int) (m k s : Nat) : Int := dF zs ys m k (s + 1) (m + s) / gx ys m
section
variable {zs ys : List Int} {m k : Nat}
theorem df_top (t : Nat) : dF zs ys m k k t = gx zs t := by rw [dF, Nat.sub_self, dG]
theorem df_step (s : Nat) (hs : s < k) (t : Nat) : dF zs ys m k s t = dF zs ys m k (s + 1) t - (if s ≤ t then dC zs ys m k s * gx ys (t - s) else 0) := by
  rw [dC, dF, dF, dF]
  obtain ⟨r, hr⟩ : ∃ r, k - s = r + 1 := ⟨k - s - 1, by omega⟩
  rw [hr, show k - (s + 1) = r by omega, dG, show k - (r + 1) = s by omega]
theorem cvf_high {Q : Nat → Int} (hl : ys.length ≤ m + 1) (s : Nat) : ∀ i, i ≤ s → cvf Q ys i (m + s) = 0
  | 0, _ => rfl
  | i + 1, h => by
    rw [cvf, cvf_high hl s i (by omega), if_pos (by omega), gx_past ys (m + 1) hl _ (by omega), Int.mul_zero, Int.add_zero]
/-- Where it goes the digits are the quotient's entries. -/
theorem dv_digits {Q : Nat → Int} (hl : ys.length ≤ m + 1) (hy : gx ys m ≠ 0) (h : ∀ t, gx zs t = cvf Q ys k t) : ∀ r, r ≤ k → (∀ t, dF zs ys m k (k - r) t = cvf Q ys (k - r) t) ∧ ∀ s, k - r ≤ s → s < k → dC zs ys m k s = Q s
  | 0, _ => ⟨fun t => by rw [Nat.sub_zero, df_top, h], fun s h1 h2 => by omega⟩
  | r + 1, hr => by
    obtain ⟨h1, h2⟩ := dv_digits hl hy h r (by omega)
    obtain ⟨s, hs⟩ : ∃ s, k - r = s + 1 := ⟨k - r - 1, by omega⟩
    have hs' : k - (r + 1) = s := by omega
    rw [hs] at h1 h2
    have h3 : dC zs ys m k s = Q s := by
      rw [dC, h1, cvf, cvf_high hl s s (Nat.le_refl _), if_pos (by omega), Nat.add_sub_cancel, Int.zero_add, Int.mul_ediv_cancel _ hy]
    rw [hs']
    refine ⟨fun t => ?_, fun s' h4 h5 => ?_⟩
    · rw [df_step s (by omega), h1, h3, cvf]
      split <;> omega
    · rcases Nat.lt_or_ge s s' with h6 | h6
      · exact h2 s' h6 h5
      · obtain rfl : s' = s := by omega
        exact h3
theorem dv_all {Q : Nat → Int} (hl : ys.length ≤ m + 1) (hy : gx ys m ≠ 0) (h : ∀ t, gx zs t = cvf Q ys k t) : (∀ i, i ≤ k → ∀ t, dF zs ys m k i t = cvf Q ys i t) ∧ ∀ s, s < k → dC zs ys m k s = Q s := by
  refine ⟨fun i hi t => ?_, fun s hs => (dv_digits hl hy h k (Nat.le_refl _)).2 s (by omega) hs⟩
  have := (dv_digits hl hy h (k - i) (by omega)).1 t
  rwa [show k - (k - i) = i by omega] at this
/-- Where each step goes, what is left is zero from the top. -/
theorem df_high (hz : zs.length ≤ m + k) (hl : ys.length ≤ m + 1) (hx : ∀ s, s < k → dF zs ys m k (s + 1) (m + s) % gx ys m = 0) : ∀ r, r ≤ k → ∀ t, m + (k - r) ≤ t → dF zs ys m k (k - r) t = 0
  | 0, _, t, ht => by rw [Nat.sub_zero, df_top, gx_past zs (m + k) hz t (by omega)]
  | r + 1, hr, t, ht => by
    obtain ⟨s, hs⟩ : ∃ s, k - r = s + 1 := ⟨k - r - 1, by omega⟩
    have hs' : k - (r + 1) = s := by omega
    have ih := df_high hz hl hx r (by omega)
    rw [hs] at ih
    rw [hs'] at ht ⊢
    rw [df_step s (by omega), if_pos (by omega)]
    rcases Nat.lt_or_ge (m + s) t with h | h
    · rw [ih t (by omega), gx_past ys (m + 1) hl _ (by omega)]; simp
    · obtain rfl : t = m + s := by omega
      have h1 := Int.emod_add_mul_ediv (dF zs ys m k (s + 1) (m + s)) (gx ys m)
      rw [hx s (by omega), Int.zero_add] at h1
      rw [dC, Nat.add_sub_cancel]
      generalize dF zs ys m k (s + 1) (m + s) = x at *
      rw [Int.mul_comm] at h1
      omega
theorem df_sum (t : Nat) : ∀ i, i ≤ k → dF zs ys m k i t = dF zs ys m k 0 t + cvf (dC zs ys m k) ys i t
  | 0, _ => by rw [cvf, Int.add_zero]
  | i + 1, h => by
    have h1 := df_sum t i (by omega)
    rw [df_step i (by omega)] at h1
    rw [cvf]
    split at h1
    · rename_i h2; rw [if_pos h2]; omega
    · rename_i h2; rw [if_neg h2]; omega
/-- Where it goes to the end the digits make the quotient. -/
theorem dv_of_gd {most : Nat} (hz : zs.length ≤ m + k) (hl : ys.length ≤ m + 1) (h : GD (dF zs ys m k) (dC zs ys m k) (gx ys m) m k most) (t : Nat) : gx zs t = cvf (dC zs ys m k) ys k t := by
  have h1 := df_sum (zs := zs) (ys := ys) (m := m) t k (Nat.le_refl _)
  rw [df_top] at h1
  have h2 : dF zs ys m k 0 t = 0 := by
    rcases Nat.lt_or_ge t m with h3 | h3
    · exact h.2 t h3
    · have := df_high hz hl (fun s hs => (h.1 s hs).1) k (Nat.le_refl _) t (by omega)
      rwa [Nat.sub_self] at this
  omega
theorem gd_of_dv {Q : Nat → Int} {most : Nat} (hl : ys.length ≤ m + 1) (hy : gx ys m ≠ 0) (h : ∀ t, gx zs t = cvf Q ys k t) (hb : ∀ s, s < k → zb (Q s) ≤ most) : GD (dF zs ys m k) (dC zs ys m k) (gx ys m) m k most := by
  obtain ⟨h1, h2⟩ := dv_all hl hy h
  refine ⟨fun s hs => ⟨?_, by rw [h2 s hs]; exact hb s hs⟩, fun t _ => by rw [h1 0 (Nat.zero_le _) t]; rfl⟩
  rw [h1 (s + 1) hs, cvf, cvf_high hl s s (Nat.le_refl _), if_pos (by omega), Nat.add_sub_cancel, Int.zero_add, Int.mul_emod_left]
end
/-- A sum from its end. -/
theorem sm_rev (f : Nat → Int) : ∀ n, Fk.sm f (n + 1) = Fk.sm (fun i => f (n - i)) (n + 1)
  | 0 => rfl
  | n + 1 => by
    have h1 : Fk.sm (fun i => f (n + 1 - i)) (1 + (n + 1)) = Fk.sm (fun i => f (n - i)) (n + 1) + f (n + 1) := by
      have e : ∀ i, i < 1 + (n + 1) → f (n + 1 - i) = (if i = 0 then f (n + 1) else 0) + (if 1 ≤ i then (fun j => f (n - j)) (i - 1) else 0) := fun i hi => by
        cases i with
        | zero => simp
        | succ i => simp
      have e3 : Fk.sm (fun i => if 1 ≤ i then (fun j => f (n - j)) (i - 1) else 0) (1 + (n + 1)) = Fk.sm (fun j => f (n - j)) (n + 1) := Fk.sm_shift0 (fun j => f (n - j)) 1 (n + 1)
      rw [Fk.sm_congr _ e, Fk.sm_add, e3]
      have e2 : Fk.sm (fun i => if i = 0 then f (n + 1) else 0) (1 + (n + 1)) = f (n + 1) := by
        rw [Fk.sm_more 1 (n + 1) (fun i h1 _ => by rw [if_neg (by omega)])]
        simp [Fk.sm]
      rw [e2, Int.add_comm]
    rw [Fk.sm, sm_rev f n, ← h1, Nat.add_comm 1]
theorem cvf_sm (Q : Nat → Int) (b : List Int) (t : Nat) : ∀ n, cvf Q b n t = Fk.sm (fun i => if i ≤ t then Q i * gx b (t - i) else 0) n
  | 0 => rfl
  | n + 1 => by rw [cvf, cvf_sm Q b t n, Fk.sm]
theorem sm_upto (f : Nat → Int) (t n : Nat) (h : ∀ i, n ≤ i → i ≤ t → f i = 0) : Fk.sm (fun i => if i ≤ t then f i else 0) n = Fk.sm f (t + 1) := by
  have h1 : Fk.sm (fun i => if i ≤ t then f i else 0) (n + (t + 1)) = Fk.sm (fun i => if i ≤ t then f i else 0) n := Fk.sm_more n (t + 1) (fun i h1 _ => by
    show (if i ≤ t then f i else 0) = 0
    split
    · exact h i h1 (by assumption)
    · rfl)
  have h2 : Fk.sm (fun i => if i ≤ t then f i else 0) (t + 1 + n) = Fk.sm (fun i => if i ≤ t then f i else 0) (t + 1) := Fk.sm_more (t + 1) n (fun i h1 _ => by rw [if_neg (by omega)])
  rw [← h1, Nat.add_comm, h2]
  exact Fk.sm_congr _ (fun i hi => by rw [if_pos (by omega)])
/-- The product, whichever factor's entries are gone through. -/
theorem pr_cvf {ys : List Int} {m k : Nat} {Q : Nat → Int} (hl : ys.length ≤ m + 1) (hQ : ∀ i, k ≤ i → Q i = 0) (t : Nat) : Fk.pr (gx ys) Q m t = cvf Q ys k t := by
  have h1 : Fk.pr (gx ys) Q m t = Fk.sm (fun i => if i ≤ t then gx ys i * Q (t - i) else 0) (m + 1) := by
    rw [Fk.pr]
    refine Fk.sm_congr _ (fun i _ => ?_)
    rw [Fk.qk]
    split
    · rfl
    · rw [Int.mul_zero]
  rw [h1, sm_upto (fun i => gx ys i * Q (t - i)) t (m + 1) (fun i h2 _ => by show gx ys i * Q (t - i) = 0; rw [gx_past ys (m + 1) hl i h2, Int.zero_mul]), cvf_sm, sm_upto (fun i => Q i * gx ys (t - i)) t k (fun i h2 _ => by show Q i * gx ys (t - i) = 0; rw [hQ i h2, Int.zero_mul]), sm_rev]
  refine Fk.sm_congr _ (fun i hi => ?_)
  show gx ys (t - i) * Q (t - (t - i)) = Q i * gx ys (t - i)
  rw [show t - (t - i) = i by omega, Int.mul_comm]
/-- A quotient's entries are as short as the program's bound says. -/
theorem quo_bits {zs ys : List Int} {m k n : Nat} {Q : Nat → Int} (hk : 1 ≤ k) (hk13 : k ≤ 13) (hm12 : m ≤ 12) (hn : n = m + k) (hzl : zs.length ≤ n) (hl : ys.length ≤ m + 1) (hy : gx ys m ≠ 0) (hQ : ∀ i, k ≤ i → Q i = 0) (h : ∀ t, gx zs t = cvf Q ys k t) (s : Nat) (hs : s < k) : zb (Q s) ≤ k + pb zs + Lib.bitLen n := by
  have hbl := bitLen_bd (x := (n : Int)) (by omega) (by omega)
  rw [Int.toNat_natCast] at hbl
  have hA : ∀ t, ((gx zs t).natAbs : Int) < 2 ^ pb zs := fun t => by
    rcases Nat.lt_or_ge t zs.length with h1 | h1
    · exact Int.lt_of_lt_of_le (zb_ib (gx zs t)).2.1 (p2_mono (zb_pb zs t h1))
    · rw [gx_past zs zs.length (Nat.le_refl _) t h1]
      exact Int.pow_pos (by decide)
  have hp : (0 : Int) < 2 ^ pb zs := Int.pow_pos (by decide)
  have hfb := Fk.factor_bd (b := gx ys) (q := Q) (d := k - 1) (e := m) (c := Lib.bitLen n) (A := 2 ^ pb zs - 1) (by omega) (by omega) (fun j hj => hQ j (by omega)) hy (by omega) (fun t _ => by
    rw [pr_cvf hl hQ t, ← h t]
    have := hA t
    omega) (by rw [show k - 1 + m + 1 = n by omega]; exact hbl.2.2.2.1) s (by omega)
  refine zb_le_of (Int.lt_of_le_of_lt hfb ?_)
  have hc : (0 : Int) < 2 ^ (k - 1 + 1 + Lib.bitLen n) := Int.pow_pos (by decide)
  have e : (2 : Int) ^ (k + pb zs + Lib.bitLen n) = 2 ^ (k - 1 + 1 + Lib.bitLen n) * 2 ^ pb zs := by
    rw [← Int.pow_add]
    congr 1
    omega
  rw [e]
  exact Int.mul_lt_mul_of_pos_left (by omega) hc
theorem zb_lt {z : Int} {b Q : Nat} (h : zb z ≤ b) (hQ : b ≤ 32 * Q) : (z.natAbs : Int) < pw Q := by
  have h1 := (zb_ib z).2.1
  have h2 : (2 : Int) ^ zb z ≤ 2 ^ (32 * Q) := p2_mono (by omega)
  have h3 : (2 : Int) ^ (32 * Q) = pw Q := by rw [Int.pow_mul]; rfl
  omega
/-- All that exactQuotient wants of its numbers. -/
theorem dq_of {zs ys : List Int} {m k A L Q D most : Nat} (hk : k ≤ 1000) (hz : ∀ t, ((gx zs t).natAbs : Int) < pw A) (hy : ∀ t, ((gx ys t).natAbs : Int) < pw L) (hq : most ≤ 32 * Q) (h1 : A ≤ D) (h2 : Q + L ≤ D) : DQ zs ys (dC zs ys m k) (dF zs ys m k) (m + k) m k (D + 1) most := by
  have hpD := pw_pos D
  refine ⟨fun t _ => df_top t, df_step, fun s _ => rfl, fun i hi hs t => ?_, fun i _ hi => Int.lt_of_lt_of_le (zb_lt hi hq) (pw_mono (by omega))⟩
  have step : ∀ r, r ≤ k - i → ∀ t, ((dF zs ys m k (k - r) t).natAbs : Int) ≤ (r + 1) * pw D := by
    intro r
    induction r with
    | zero =>
      intro _ t
      rw [Nat.sub_zero, df_top]
      have := hz t
      have := pw_mono h1
      simp
      omega
    | succ r ih =>
      intro hr t
      obtain ⟨s, hs'⟩ : ∃ s, k - r = s + 1 := ⟨k - r - 1, by omega⟩
      have ih' := ih (by omega) t
      rw [hs'] at ih'
      rw [show k - (r + 1) = s by omega, df_step s (by omega)]
      have h3 : ((if s ≤ t then dC zs ys m k s * gx ys (t - s) else 0 : Int).natAbs : Int) ≤ pw D := by
        split
        · have h4 := term_lt (zb_lt (hs s (by omega) (by omega)) hq) (hy (t - s))
          have h5 := pw_mono h2
          omega
        · simp; omega
      have e : ((r + 1 : Nat) + 1 : Int) * pw D = (r + 1 : Int) * pw D + pw D := by rw [Int.add_mul, Int.one_mul]; rfl
      rw [e]
      generalize (if s ≤ t then dC zs ys m k s * gx ys (t - s) else 0 : Int) = x at *
      generalize dF zs ys m k (s + 1) t = y at *
      omega
  have h3 := step (k - i) (Nat.le_refl _) t
  rw [show k - (k - i) = i by omega] at h3
  have h4 : (((k - i : Nat) : Int) + 1) * pw D < 4294967296 * pw D := Int.mul_lt_mul_of_pos_right (by omega) hpD
  rw [pw_succ]
  omega
end Go.Proofs.YtneejidiefkgkaaGreatDoor
/-
  Plain: one polynomial is a multiple of another.
-/
namespace Go.Proofs.YtneejidiefkgkaaGreatDoor
open Go.RowKit
set_option linter.unusedVariables false
set_option linter.unusedSimpArgs false

/-- ys divides xs. -/
def Dvd (xs ys : List Int) : Prop := ∃ q : List Int, ∀ t, gx xs t = gx (mulp q ys) t
theorem ps_lin1 {a b c ys : List Int} (h : ∀ j, gx a j = gx b j + gx c j) (t : Nat) : ∀ i, ps a ys i t = ps b ys i t + ps c ys i t
  | 0 => rfl
  | i + 1 => by
    rw [ps, ps, ps, ps_lin1 h t i, h]
    split
    · rw [Int.add_mul]; omega
    · omega
theorem mulp_lin1 {a b c ys : List Int} (h : ∀ j, gx a j = gx b j + gx c j) (t : Nat) : gx (mulp a ys) t = gx (mulp b ys) t + gx (mulp c ys) t := by
  rw [gx_mulp, gx_mulp, gx_mulp, ps_lin1 h]
section
variable {p ys : List Int} {m : Nat}
theorem mulp_short (hl : ys.length = m + 1) (t : Nat) (ht : m + tlen p ≤ t) : gx (mulp p ys) t = 0 := by
  have h := ps_more p ys t (tlen p) (fun i hi => tlen_zero p i hi) (t + 1 - tlen p)
  rw [gx_mulp, ← show tlen p + (t + 1 - tlen p) = t + 1 by omega, h]
  exact ps_far p ys t (tlen p) (by omega)
theorem mulp_topp (hl : ys.length = m + 1) (a : Nat) (ha : tlen p = a + 1) : gx (mulp p ys) (m + a) = gx p a * gx ys m := by
  have h := ps_more p ys (m + a) (a + 1) (fun i hi => tlen_zero p i (by omega)) m
  rw [gx_mulp, show m + a + 1 = a + 1 + m by omega, h]
  exact ps_top p ys a m hl
/-- What a multiple's length and leading entry are. -/
theorem mult_top {rz : List Int} (hl : ys.length = m + 1) (hy : gx ys m ≠ 0) (h : ∀ t, gx rz t = gx (mulp p ys) t) : tlen rz = 0 ∨ ∃ a, tlen p = a + 1 ∧ tlen rz = m + a + 1 ∧ gx rz (m + a) = gx p a * gx ys m := by
  rcases Nat.eq_zero_or_pos (tlen p) with h0 | h0
  · refine .inl (tlen_eq _ 0 (fun j _ => ?_) (.inl rfl))
    rw [h, gx_mulp]
    have e : ∀ i, ps p ys i j = 0 := fun i => by
      induction i with
      | zero => rfl
      | succ i ih => rw [ps_none p ys i j (tlen_zero p i (by omega)), ih]
    exact e _
  · obtain ⟨a, ha⟩ : ∃ a, tlen p = a + 1 := ⟨tlen p - 1, by omega⟩
    have h1 : gx rz (m + a) = gx p a * gx ys m := by rw [h, mulp_topp hl a ha]
    refine .inr ⟨a, ha, tlen_eq _ _ (fun j hj => by rw [h, mulp_short hl j (by omega)]) (.inr ?_), h1⟩
    rw [Nat.add_sub_cancel, h1]
    have h2 := tlen_top p h0
    rw [ha, Nat.add_sub_cancel] at h2
    exact Int.mul_ne_zero h2 hy
end
/-- What is left is a multiple as well. -/
theorem rest_dvd {xs ys qz rz : List Int} (h : ∀ t, gx xs t = gx (mulp qz ys) t + gx rz t) (hd : Dvd xs ys) : Dvd rz ys := by
  obtain ⟨q, hq⟩ := hd
  refine ⟨pz (· - ·) q qz, fun t => ?_⟩
  have h1 := mulp_lin1 (a := q) (b := qz) (c := pz (· - ·) q qz) (ys := ys) (fun j => by rw [gx_pz0 _ rfl]; omega) t
  have h2 := h t
  rw [hq t] at h2
  omega
/-- Division from the top goes just where ys divides zs. -/
theorem dvd_gd {zs ys : List Int} {m k n : Nat} (hk : 1 ≤ k) (hk13 : k ≤ 13) (hm12 : m ≤ 12) (hn : n = m + k) (hzl : zs.length = n) (hl : ys.length = m + 1) (hy : gx ys m ≠ 0) (hz : gx zs (n - 1) ≠ 0) :
    (GD (dF zs ys m k) (dC zs ys m k) (gx ys m) m k (k + pb zs + Lib.bitLen n) → Dvd zs ys) ∧ (∀ q : List Int, (∀ t, gx zs t = gx (mulp q ys) t) → GD (dF zs ys m k) (dC zs ys m k) (gx ys m) m k (k + pb zs + Lib.bitLen n) ∧ tlen q = k ∧ ∀ s, s < k → dC zs ys m k s = gx q s) := by
  refine ⟨fun h => ?_, fun q hq => ?_⟩
  · have h1 := dv_of_gd (by omega) (by omega) h
    refine ⟨(List.range k).map (dC zs ys m k), fun t => ?_⟩
    have hg : ∀ i, i < k → gx ((List.range k).map (dC zs ys m k)) i = dC zs ys m k i := fun i hi => by rw [gx_mem _ _ (by simpa using hi)]; simp
    have h2 := ps_late ((List.range k).map (dC zs ys m k)) ys t k
    have h3 := ps_more ((List.range k).map (dC zs ys m k)) ys t k (fun i hi => gx_past _ k (by simp) i hi) (t + 1)
    rw [gx_mulp, ← h2, Nat.add_comm (t + 1), h3, ps_cvf, h1 t]
    exact cvf_congr ys t _ (fun i hi => (hg i hi).symm)
  · have htz : tlen zs = n := tlen_eq _ _ (fun j hj => gx_past zs n (by omega) j hj) (.inr hz)
    have hqk : tlen q = k := by
      rcases mult_top hl hy hq with h0 | ⟨a, h1, h2, -⟩
      · omega
      · omega
    have hQ : ∀ i, k ≤ i → gx q i = 0 := fun i hi => tlen_zero q i (by omega)
    have hc : ∀ t, gx zs t = cvf (gx q) ys k t := fun t => by
      have h2 := ps_late q ys t k
      have h3 := ps_more q ys t k hQ (t + 1)
      rw [hq t, gx_mulp, ← h2, Nat.add_comm (t + 1), h3, ps_cvf]
    exact ⟨gd_of_dv (by omega) hy hc (fun s hs => quo_bits hk hk13 hm12 hn (by omega) (by omega) hy hQ hc s hs), hqk, (dv_all (by omega) hy hc).2⟩
end Go.Proofs.YtneejidiefkgkaaGreatDoor
/-
  upoly.divides, Exact, where they go.
-/
namespace Go.Proofs.YtneejidiefkgkaaGreatDoor
open Go.RowKit
set_option linter.unusedVariables false
set_option linter.unusedSimpArgs false

theorem PN.pb {B : Nat} {w : World} {K : Nat} {p : Option Addr} {n : Nat} {es : List Ent} {zs : List Int} (h : PN B w K p n es zs) (hK : K ≤ 1000) : PB B w K p n es zs :=
  ⟨h.el, h.zl, h.nrm, h.pl, h.fr, fun j hj => (h.ev j hj).en hK⟩
/-- What exactQuotient wants of its numbers, where it goes. -/
structure EG (zs ys qs : List Int) (n m k M : Nat) : Prop where
  ql : qs.length = k
  nk : n = m + k
  k1 : 1 ≤ k
  z : ∀ t, t < n → gx zs t = ps qs ys k t
  n1 : n ≤ 1000
  bits : ∀ i, i < k → zb (gx qs i) ≤ k + pb zs + Lib.bitLen n
  hM : M < 80
  mb : ∀ i t, i ≤ k → ((ps qs ys i t).natAbs : Int) < pw M
set_option maxHeartbeats 2000000 in
/-- upoly.divides, where it does. -/
theorem divides_goes {w : World} {B C K L : Nat} {p q : Option Addr} {n m k M : Nat} {es fs : List Ent} {zs ys qs : List Int} (h : PB B w K p n es zs) (hb : PB C w L q (m + 1) fs ys) (g : EG zs ys qs n m k M) (hK : K < 80) (hL : L < 80) :
    Calls Tryz.prog 82 #[.slice q (m + 1 : Nat) (m + 1 : Nat), .slice p n n] w fun r w' => r = .returned (.bool true) ∧ Below w.heap.size w w' := by
  have he := exact_goes h hb g.ql g.nk g.k1 g.z g.n1 hK hL g.bits M g.hM g.mb
  generalize hm1 : m + 1 = m1 at *
  clear hm1
  go_enter Tryz.func82, Tryz.ntmps82
  go_wp2_with fail
  refine he.mono ?_
  rintro r w1 ⟨u, us, rfl, -, -, -, -, hb1⟩
  clear he
  go_wp2
  go_ret
  exact ⟨rfl, hb1⟩
set_option maxHeartbeats 2000000 in
/-- upoly.Exact, where it goes. -/
theorem uExact_goes {w : World} {K L : Nat} {p q : Option Addr} {n nc m mc : Nat} {es fs : List Ent} {zs ys qs : List Int} {m' k M : Nat} (h : PA w K p n nc es zs) (hb : PA w L q m mc fs ys) (g : EG (tr zs) (tr ys) qs (tlen zs) m' k M) (hm' : tlen ys = m' + 1) (hn : n ≤ 1000) (hm : m ≤ 1000) (hK : K < 80) (hL : L < 80) :
    Calls Tryz.prog 8 #[.slice p n nc, .slice q m mc] w fun r w' => ∃ u us, r = .returned (.tuple #[.slice u k k, .bool true]) ∧ us.length = k ∧ PL w' u us ∧ Go.Proofs.YtneejidiefkgkaaGreatDoor.From w.heap.size u ∧ (∀ i, i < k → NV w.heap.size w' M (gx qs i) (ge us i)) ∧ Below w.heap.size w w' := by
  go_enter Tryz.func8, Tryz.ntmps8
  go_wp2_with fail
  refine (read_any K p n nc es zs _ h (by omega) (by omega)).mono ?_
  rintro e w1 ⟨p1, n1, es1, rfl, h1, hb1⟩
  go_wp2_with fail
  refine (read_any L q m mc fs ys _ (hb.below hb1) (by omega) (by omega)).mono ?_
  rintro e w2 ⟨q1, m1, fs1, rfl, k1, hb2⟩
  have hn' := h1.zl
  have hm1 := k1.zl
  rw [length_tr] at hn' hm1
  rw [hn'] at g
  rw [← hm1, hm'] at k1
  have he := exact_goes (h1.below hb2) k1 g.ql g.nk g.k1 g.z g.n1 hK hL g.bits M g.hM g.mb
  rw [← hm', hm1] at he
  have i1 : ¬ (m1 : Int) = 0 := by omega
  have i1' : ((m1 : Int) == 0) = false := by rw [beq_eq_false_iff_ne]; exact i1
  have i2 : (0 : Int) < (n1 : Int) := by have := g.nk; have := g.k1; omega
  have i3 : (m1 : Int) ≤ (n1 : Int) := by have := g.nk; have := g.k1; omega
  have HB := (show Hid _ from bnext' hb1 hb2)
  clear hn' hm1 h1 k1 hm' g hb1 hb2 h hb
  go_wp2_with fail
  refine he.mono ?_
  rintro r w3 ⟨u, us, rfl, r1, r2, r3, r4, hb3⟩
  clear he
  go_wp2
  go_ret2
  have hs := HB.out.size
  exact ⟨u, us, rfl, r1, r2, fun a ha => Nat.le_trans hs (r3 a ha), fun i hi => (r4 i hi).mono hs, bnext' HB.out hb3⟩
theorem pb_nil : pb [] = 0 := rfl
/-- (1 + 2x)^2 is divided by 1 + 2x. -/
theorem eg_start : EG [1, 4, 4] [1, 2] [1, 2] 3 1 2 1 where
  ql := rfl
  nk := rfl
  k1 := by decide
  z := by decide
  n1 := by decide
  bits := by
    intro i hi
    have h : zb (gx [1, 2] i) ≤ 2 := by
      rcases (show i = 0 ∨ i = 1 by omega) with rfl | rfl
      · show zb 1 ≤ 2; decide
      · show zb 2 ≤ 2; decide
    omega
  hM := by decide
  mb := by
    intro i t hi
    rcases Nat.lt_or_ge t 3 with h | h
    · have : (ps [1, 2] [1, 2] i t).natAbs ≤ 4 := by
        rcases (show i = 0 ∨ i = 1 ∨ i = 2 by omega) with rfl | rfl | rfl <;> rcases (show t = 0 ∨ t = 1 ∨ t = 2 by omega) with rfl | rfl | rfl <;> decide
      have e : pw 1 = 4294967296 := by decide
      omega
    · rw [ps_far _ _ _ _ (by simp; omega)]
      decide
end Go.Proofs.YtneejidiefkgkaaGreatDoor
