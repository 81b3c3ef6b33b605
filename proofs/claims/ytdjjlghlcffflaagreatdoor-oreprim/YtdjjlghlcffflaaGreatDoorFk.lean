/-
  Plain: a product's entries bound those of its factors (a sum of squares, weighted by factorials).
-/
import Derived.Test.YtdjjlghlcffflaaGreatDoorPlMmWaWbWc
namespace Go.Proofs.YtdjjlghlcffflaaGreatDoor.Fk
set_option linter.unusedVariables false
set_option linter.unusedSimpArgs false
set_option maxHeartbeats 8000000
def sm (f : Nat → Int) : Nat → Int
  | 0 => 0
  | n + 1 => sm f n + f n
theorem sm_congr {f g : Nat → Int} : ∀ n, (∀ i, i < n → f i = g i) → sm f n = sm g n
  | 0, _ => rfl
  | n + 1, h => by rw [sm, sm, sm_congr n (fun i hi => h i (by omega)), h n (by omega)]
theorem sm_add (f g : Nat → Int) : ∀ n, sm (fun i => f i + g i) n = sm f n + sm g n
  | 0 => rfl
  | n + 1 => by rw [sm, sm, sm, sm_add f g n]; omega
theorem sm_mul (c : Int) (f : Nat → Int) : ∀ n, sm (fun i => c * f i) n = c * sm f n
  | 0 => by simp [sm]
  | n + 1 => by rw [sm, sm, sm_mul c f n, Int.mul_add]
theorem sm_zero : ∀ n, sm (fun _ => 0) n = 0
  | 0 => rfl
  | n + 1 => by rw [sm, sm_zero n]; rfl
theorem sm_none {f : Nat → Int} (n : Nat) (h : ∀ i, i < n → f i = 0) : sm f n = 0 := by rw [sm_congr n h, sm_zero]
theorem sm_comm (f : Nat → Nat → Int) (n : Nat) : ∀ m, sm (fun i => sm (f i) n) m = sm (fun j => sm (fun i => f i j) m) n
  | 0 => by rw [sm]; exact (sm_none n (fun i _ => rfl)).symm
  | m + 1 => by
    rw [sm, sm_comm f n m, ← sm_add]
    exact sm_congr n (fun j _ => rfl)
theorem sm_nonneg {f : Nat → Int} : ∀ n, (∀ i, i < n → 0 ≤ f i) → 0 ≤ sm f n
  | 0, _ => Int.le_refl _
  | n + 1, h => by
    have h1 := sm_nonneg n (fun i hi => h i (by omega))
    have h2 := h n (by omega)
    rw [sm]; omega
theorem sm_mono {f g : Nat → Int} : ∀ n, (∀ i, i < n → f i ≤ g i) → sm f n ≤ sm g n
  | 0, _ => Int.le_refl _
  | n + 1, h => by
    have h1 := sm_mono n (fun i hi => h i (by omega))
    have h2 := h n (by omega)
    rw [sm, sm]; omega
theorem sm_term {f : Nat → Int} (i : Nat) : ∀ n, (∀ j, j < n → 0 ≤ f j) → i < n → f i ≤ sm f n
  | 0, _, h => by omega
  | n + 1, h, hi => by
    have h1 := sm_nonneg n (fun j hj => h j (by omega))
    have h2 := h n (by omega)
    rw [sm]
    rcases Nat.lt_or_ge i n with h3 | h3
    · have := sm_term i n (fun j hj => h j (by omega)) h3
      omega
    · obtain rfl : i = n := by omega
      omega
theorem sm_more {f : Nat → Int} (n : Nat) : ∀ m, (∀ i, n ≤ i → i < n + m → f i = 0) → sm f (n + m) = sm f n
  | 0, _ => rfl
  | m + 1, h => by rw [← Nat.add_assoc, sm, sm_more n m (fun i h1 h2 => h i h1 (by omega)), h (n + m) (by omega) (by omega), Int.add_zero]
theorem sm_shift0 (g : Nat → Int) (c : Nat) : ∀ A, sm (fun k => if c ≤ k then g (k - c) else 0) (c + A) = sm g A
  | 0 => by rw [Nat.add_zero]; exact sm_none c (fun i hi => by rw [if_neg (by omega)])
  | A + 1 => by rw [← Nat.add_assoc, sm, sm_shift0 g c A, if_pos (by omega), sm, Nat.add_sub_cancel_left]
theorem sm_shift (g : Nat → Int) (c A K : Nat) (h : ∀ u, g u ≠ 0 → u < A ∧ u + c < K) : sm (fun k => if c ≤ k then g (k - c) else 0) K = sm g A := by
  have h1 : sm g A = sm g (A + K) := (sm_more A K (fun i h1 _ => Classical.byContradiction fun h2 => by have := (h i h2).1; omega)).symm
  have h2 : sm (fun k => if c ≤ k then g (k - c) else 0) K = sm (fun k => if c ≤ k then g (k - c) else 0) (K + (c + A)) := (sm_more K (c + A) (fun i h1 _ => by
    show (if c ≤ i then g (i - c) else 0) = 0
    split
    · exact Classical.byContradiction fun h2 => by have := (h _ h2).2; omega
    · rfl)).symm
  rw [h1, h2, show K + (c + A) = c + (A + K) by omega, sm_shift0]
theorem sm_sq (f : Nat → Int) (n : Nat) : sm f n * sm f n = sm (fun i => sm (fun j => f i * f j) n) n := by
  rw [sm_congr n (fun i _ => sm_mul (f i) f n)]
  have h := sm_mul (sm f n) f n
  rw [← h]
  exact sm_congr n (fun i _ => Int.mul_comm _ _)
def fc : Nat → Int
  | 0 => 1
  | n + 1 => (n + 1) * fc n
def dsc : Nat → Nat → Int
  | _, 0 => 1
  | 0, _ + 1 => 0
  | n + 1, s + 1 => (n + 1) * dsc n s
def bn : Nat → Nat → Int
  | _, 0 => 1
  | 0, _ + 1 => 0
  | n + 1, s + 1 => bn n s + bn n (s + 1)
theorem fc_pos : ∀ n, 0 < fc n
  | 0 => by decide
  | n + 1 => by rw [fc]; exact Int.mul_pos (by omega) (fc_pos n)
theorem dsc_fc : ∀ n s, s ≤ n → dsc n s * fc (n - s) = fc n
  | n, 0, _ => by cases n <;> simp [dsc]
  | 0, s + 1, h => by omega
  | n + 1, s + 1, h => by rw [dsc, show n + 1 - (s + 1) = n - s by omega, Int.mul_assoc, dsc_fc n s (by omega), fc]
theorem bn_zero (n : Nat) : bn n 0 = 1 := by cases n <;> rfl
theorem bn_past : ∀ n s, n < s → bn n s = 0
  | n, 0, h => by omega
  | 0, s + 1, _ => rfl
  | n + 1, s + 1, h => by rw [bn, bn_past n s (by omega), bn_past n (s + 1) (by omega)]; rfl
theorem fc_succ (n : Nat) : fc (n + 1) = (n + 1) * fc n := rfl
theorem fc_zero : fc 0 = 1 := rfl
theorem bn_fc : ∀ n s, s ≤ n → bn n s * (fc s * fc (n - s)) = fc n
  | n, 0, _ => by rw [bn_zero]; simp [fc]
  | 0, s + 1, h => by omega
  | n + 1, s + 1, h => by
    rw [bn, show n + 1 - (s + 1) = n - s by omega]
    have h1 := bn_fc n s (by omega)
    rcases Nat.lt_or_ge s n with h2 | h2
    · have h3 := bn_fc n (s + 1) h2
      obtain ⟨t, ht⟩ : ∃ t, n - s = t + 1 := ⟨n - s - 1, by omega⟩
      have h4 : n - (s + 1) = t := by omega
      have h5 : (n : Int) = s + t + 1 := by omega
      rw [ht, fc_succ] at h1 ⊢
      rw [h4, fc_succ] at h3
      rw [fc_succ, fc_succ, h5]
      generalize fc s = a at *
      generalize fc t = b at *
      generalize bn n s = x at *
      generalize bn n (s + 1) = y at *
      generalize fc n = z at *
      grind
    · obtain rfl : s = n := by omega
      rw [bn_past s (s + 1) (by omega)]
      rw [Nat.sub_self, fc_zero] at h1 ⊢
      rw [fc_succ]
      generalize fc s = a at *
      generalize bn s s = x at *
      grind
def bp (n : Nat) : Nat → Int
  | 0 => 0
  | s + 1 => bn n s
theorem bn_step (n s : Nat) : bn (n + 1) s = bn n s + bp n s := by
  cases s with
  | zero => rw [bn_zero, bn_zero]; rfl
  | succ s => rw [bn, bp, Int.add_comm]
theorem vand : ∀ i j r, sm (fun s => if s ≤ r then bn i s * bn j (r - s) else 0) (i + 1) = bn (i + j) r
  | 0, j, r => by
    rw [sm, sm, if_pos (Nat.zero_le _), bn_zero, Nat.sub_zero, Nat.zero_add]
    omega
  | i + 1, j, r => by
    have h0 : sm (fun s => if s ≤ r then bn (i + 1) s * bn j (r - s) else 0) (i + 1 + 1) = sm (fun s => if s ≤ r then bn i s * bn j (r - s) else 0) (i + 1 + 1) + sm (fun s => if s ≤ r then bp i s * bn j (r - s) else 0) (i + 1 + 1) := by
      rw [← sm_add]
      refine sm_congr _ (fun s _ => ?_)
      by_cases h : s ≤ r
      · rw [if_pos h, if_pos h, if_pos h, bn_step, Int.add_mul]
      · rw [if_neg h, if_neg h, if_neg h]; rfl
    have h1 : sm (fun s => if s ≤ r then bn i s * bn j (r - s) else 0) (i + 1 + 1) = bn (i + j) r := by
      rw [sm, vand i j r, bn_past i (i + 1) (by omega)]
      split <;> omega
    have h2 : sm (fun s => if s ≤ r then bp i s * bn j (r - s) else 0) (i + 1 + 1) = bp (i + j) r := by
      have e : ∀ s, (if s ≤ r then bp i s * bn j (r - s) else 0) = (if 1 ≤ s then (fun t => if t + 1 ≤ r then bn i t * bn j (r - (t + 1)) else 0) (s - 1) else 0) := fun s => by
        cases s with
        | zero => simp [bp]
        | succ s => simp [bp]
      rw [sm_congr _ (fun s _ => e s)]
      have e2 := sm_shift0 (fun t => if t + 1 ≤ r then bn i t * bn j (r - (t + 1)) else 0) 1 (i + 1)
      rw [Nat.add_comm] at e2
      rw [e2]
      cases r with
      | zero => exact sm_none _ (fun t _ => by rw [if_neg (by omega)])
      | succ r =>
        show _ = bn (i + j) r
        rw [← vand i j r]
        refine sm_congr _ (fun t _ => ?_)
        by_cases h : t ≤ r
        · rw [if_pos (by omega), if_pos h, show r + 1 - (t + 1) = r - t by omega]
        · rw [if_neg (by omega), if_neg h]
    rw [h0, h1, h2, show i + 1 + j = (i + j) + 1 by omega, bn_step]
theorem dsc_bn {n s : Nat} (h : s ≤ n) : dsc n s = bn n s * fc s := by
  have h1 := dsc_fc n s h
  have h2 := bn_fc n s h
  have h3 := fc_pos (n - s)
  have h4 : dsc n s * fc (n - s) = bn n s * fc s * fc (n - s) := by rw [h1, ← h2, Int.mul_assoc]
  exact Int.eq_of_mul_eq_mul_right (by omega) h4
theorem core {i i' j j' s u e : Nat} (h1 : s ≤ i) (h2 : s ≤ i') (h3 : u + (i - s) = j') (h4 : u + (i' - s) = j) (h5 : s ≤ e) :
    dsc e (e - s) * (fc u * ((dsc i s * dsc j' (i - s)) * (dsc i' s * dsc j (i' - s)))) = fc e * (fc i' * fc j') * (bn i s * bn j (i' - s)) := by
  have a1 := dsc_fc e (e - s) (by omega)
  rw [show e - (e - s) = s by omega] at a1
  have a2 := dsc_fc j' (i - s) (by omega)
  rw [show j' - (i - s) = u by omega] at a2
  have a3 := dsc_fc i' s h2
  have a4 := dsc_bn (n := j) (s := i' - s) (by omega)
  rw [dsc_bn h1, a4, ← a1, ← a2, ← a3]
  generalize dsc e (e - s) = x1
  generalize dsc j' (i - s) = x2
  generalize dsc i' s = x3
  generalize fc u = x4
  generalize fc s = x5
  generalize fc (i' - s) = x6
  generalize bn i s = x7
  generalize bn j (i' - s) = x8
  grind
section
variable (b q : Nat → Int) (d e : Nat)
def qk (k i : Nat) : Int := if i ≤ k then q (k - i) else 0
def pr (k : Nat) : Int := sm (fun i => b i * qk q k i) (e + 1)
def rr (s u i : Nat) : Int := if s ≤ i then (b i * dsc i s) * (q (u + (i - s)) * dsc (u + (i - s)) (i - s)) else 0
def tt (i i' s k : Nat) : Int := if s ≤ i ∧ s ≤ i' ∧ i' + (i - s) ≤ k then fc (k - (i' + (i - s))) * (rr b q s (k - (i' + (i - s))) i * rr b q s (k - (i' + (i - s))) i') else 0
theorem one_s (hq : ∀ j, d < j → q j = 0) (i i' s : Nat) (hi : i ≤ e) : sm (fun u => fc u * (rr b q s u i * rr b q s u i')) (d + 1) = sm (tt b q i i' s) (d + e + 1) := by
  by_cases h1 : s ≤ i ∧ s ≤ i'
  · have h := sm_shift (fun u => fc u * (rr b q s u i * rr b q s u i')) (i' + (i - s)) (d + 1) (d + e + 1) (fun u hu => by
      have n1 : q (u + (i - s)) ≠ 0 := fun h0 => hu (by simp only [rr]; rw [if_pos h1.1, h0]; simp)
      have n2 : q (u + (i' - s)) ≠ 0 := fun h0 => hu (by simp only [rr]; rw [if_pos h1.2, h0]; simp)
      have m1 : u + (i - s) ≤ d := by
        rcases Nat.lt_or_ge d (u + (i - s)) with h9 | h9
        · exact absurd (hq _ h9) n1
        · exact h9
      have m2 : u + (i' - s) ≤ d := by
        rcases Nat.lt_or_ge d (u + (i' - s)) with h9 | h9
        · exact absurd (hq _ h9) n2
        · exact h9
      omega)
    rw [← h]
    refine sm_congr _ (fun k _ => ?_)
    rw [tt]
    by_cases h2 : i' + (i - s) ≤ k
    · rw [if_pos h2, if_pos ⟨h1.1, h1.2, h2⟩]
    · rw [if_neg h2, if_neg (fun h => h2 h.2.2)]
  · rw [sm_none (f := tt b q i i' s) _ (fun k _ => by rw [tt, if_neg (fun h => h1 ⟨h.1, h.2.1⟩)])]
    refine sm_none _ (fun u _ => ?_)
    by_cases h2 : s ≤ i
    · have h3 : ¬ s ≤ i' := fun h => h1 ⟨h2, h⟩
      simp only [rr]
      rw [if_neg h3]
      simp
    · simp only [rr]
      rw [if_neg h2]
      simp
theorem one_k (i i' k : Nat) (hi : i ≤ e) : sm (fun s => dsc e (e - s) * tt b q i i' s k) (e + 1) = fc e * ((b i * b i') * (fc k * (qk q k i * qk q k i'))) := by
  by_cases h1 : i ≤ k ∧ i' ≤ k
  · obtain ⟨h1, h2⟩ := h1
    have e1 : ∀ s, s < e + 1 → dsc e (e - s) * tt b q i i' s k = (fc e * (fc i' * fc (k - i')) * ((b i * b i') * (q (k - i) * q (k - i')))) * (if s ≤ i' then bn i s * bn (k - i) (i' - s) else 0) := fun s hs => by
      rw [tt]
      by_cases h3 : s ≤ i'
      · rw [if_pos h3]
        by_cases h4 : s ≤ i
        · by_cases h5 : i' + (i - s) ≤ k
          · rw [if_pos ⟨h4, h3, h5⟩]
            have hc := core (i := i) (i' := i') (j := k - i) (j' := k - i') (s := s) (u := k - (i' + (i - s))) (e := e) h4 h3 (by omega) (by omega) (by omega)
            simp only [rr]
            rw [if_pos h4, if_pos h3, show k - (i' + (i - s)) + (i - s) = k - i' by omega, show k - (i' + (i - s)) + (i' - s) = k - i by omega]
            generalize fc (k - (i' + (i - s))) = x1 at *
            generalize dsc (k - i') (i - s) = x2 at *
            generalize dsc (k - i) (i' - s) = x3 at *
            generalize dsc i s = x4 at *
            generalize dsc i' s = x5 at *
            generalize dsc e (e - s) = x6 at *
            generalize bn i s * bn (k - i) (i' - s) = x7 at *
            generalize fc e * (fc i' * fc (k - i')) = x8 at *
            generalize q (k - i) = y1
            generalize q (k - i') = y2
            generalize b i = y3
            generalize b i' = y4
            have : x6 * (x1 * (y3 * x4 * (y2 * x2) * (y4 * x5 * (y1 * x3)))) = (y3 * y4 * (y1 * y2)) * (x6 * (x1 * (x4 * x2 * (x5 * x3)))) := by grind
            rw [this, hc]
            grind
          · rw [if_neg (fun h => h5 h.2.2), bn_past (k - i) (i' - s) (by omega)]
            simp
        · rw [if_neg (fun h => h4 h.1), bn_past i s (by omega)]
          simp
      · rw [if_neg (fun h => h3 h.2.1), if_neg h3]
        simp
    rw [sm_congr _ e1, sm_mul]
    have e2 : sm (fun s => if s ≤ i' then bn i s * bn (k - i) (i' - s) else 0) (e + 1) = bn k i' := by
      have e3 := sm_more (f := fun s => if s ≤ i' then bn i s * bn (k - i) (i' - s) else 0) (i + 1) (e - i) (fun s h3 _ => by
        show (if s ≤ i' then bn i s * bn (k - i) (i' - s) else 0) = 0
        rw [bn_past i s (by omega)]
        split <;> simp)
      rw [show i + 1 + (e - i) = e + 1 by omega] at e3
      rw [e3, vand, show i + (k - i) = k by omega]
    have e4 := bn_fc k i' h2
    rw [e2, qk, qk, if_pos h1, if_pos h2]
    generalize bn k i' = x1 at *
    generalize fc i' = x2 at *
    generalize fc (k - i') = x3 at *
    rw [← e4]
    generalize fc e = x4
    generalize q (k - i) = y1
    generalize q (k - i') = y2
    generalize b i = y3
    generalize b i' = y4
    grind
  · have e1 : qk q k i * qk q k i' = 0 := by
      rw [qk, qk]
      by_cases h2 : i ≤ k
      · rw [if_neg (fun h => h1 ⟨h2, h⟩), Int.mul_zero]
      · rw [if_neg h2, Int.zero_mul]
    rw [e1, Int.mul_zero, Int.mul_zero, Int.mul_zero]
    refine sm_none _ (fun s _ => ?_)
    rw [tt, if_neg (fun h => h1 (by omega)), Int.mul_zero]
theorem squares (hq : ∀ j, d < j → q j = 0) : fc e * sm (fun k => fc k * (pr b q e k * pr b q e k)) (d + e + 1) = sm (fun s => dsc e (e - s) * sm (fun u => fc u * (sm (rr b q s u) (e + 1) * sm (rr b q s u) (e + 1))) (d + 1)) (e + 1) := by
  -- the right side, pair by pair
  have r1 : ∀ s, dsc e (e - s) * sm (fun u => fc u * (sm (rr b q s u) (e + 1) * sm (rr b q s u) (e + 1))) (d + 1) = sm (fun i => sm (fun i' => sm (fun k => dsc e (e - s) * tt b q i i' s k) (d + e + 1)) (e + 1)) (e + 1) := fun s => by
    have r2 : sm (fun u => fc u * (sm (rr b q s u) (e + 1) * sm (rr b q s u) (e + 1))) (d + 1) = sm (fun i => sm (fun i' => sm (fun u => fc u * (rr b q s u i * rr b q s u i')) (d + 1)) (e + 1)) (e + 1) := by
      have r3 : ∀ u, u < d + 1 → fc u * (sm (rr b q s u) (e + 1) * sm (rr b q s u) (e + 1)) = sm (fun i => sm (fun i' => fc u * (rr b q s u i * rr b q s u i')) (e + 1)) (e + 1) := fun u _ => by
        rw [sm_sq, ← sm_mul]
        exact sm_congr _ (fun i _ => (sm_mul _ _ _).symm)
      rw [sm_congr _ r3, sm_comm]
      exact sm_congr _ (fun i _ => sm_comm _ _ _)
    rw [r2, ← sm_mul]
    refine sm_congr _ (fun i hi => ?_)
    rw [← sm_mul]
    refine sm_congr _ (fun i' _ => ?_)
    rw [one_s b q d e hq i i' s (by omega), ← sm_mul]
  rw [sm_congr _ (fun s _ => r1 s), sm_comm]
  have r4 : ∀ i, i < e + 1 → sm (fun s => sm (fun i' => sm (fun k => dsc e (e - s) * tt b q i i' s k) (d + e + 1)) (e + 1)) (e + 1) = sm (fun i' => sm (fun k => fc e * ((b i * b i') * (fc k * (qk q k i * qk q k i')))) (d + e + 1)) (e + 1) := fun i hi => by
    rw [sm_comm]
    refine sm_congr _ (fun i' _ => ?_)
    rw [sm_comm]
    exact sm_congr _ (fun k _ => one_k b q e i i' k (by omega))
  rw [sm_congr _ r4]
  -- the left side
  have l1 : ∀ k, k < d + e + 1 → fc e * (fc k * (pr b q e k * pr b q e k)) = sm (fun i => sm (fun i' => fc e * ((b i * b i') * (fc k * (qk q k i * qk q k i')))) (e + 1)) (e + 1) := fun k _ => by
    rw [pr, sm_sq, ← Int.mul_assoc, ← sm_mul]
    refine sm_congr _ (fun i _ => ?_)
    rw [← sm_mul]
    refine sm_congr _ (fun i' _ => ?_)
    grind
  rw [← sm_mul, sm_congr _ l1, sm_comm]
  exact sm_congr _ (fun i _ => sm_comm _ _ _)
theorem sq_nonneg (x : Int) : 0 ≤ x * x := by
  rcases Int.le_total 0 x with h | h
  · exact Int.mul_nonneg h h
  · have := Int.mul_nonneg (show 0 ≤ -x by omega) (show 0 ≤ -x by omega)
    rwa [Int.neg_mul_neg] at this
theorem dsc_nonneg : ∀ n s, 0 ≤ dsc n s
  | n, 0 => by cases n <;> simp [dsc]
  | 0, s + 1 => Int.le_refl _
  | n + 1, s + 1 => by rw [dsc]; exact Int.mul_nonneg (by omega) (dsc_nonneg n s)
theorem dsc_all (n : Nat) : dsc n n = fc n := by
  have := dsc_fc n n (Nat.le_refl _)
  rw [Nat.sub_self, fc_zero, Int.mul_one] at this
  exact this
theorem fock (hq : ∀ j, d < j → q j = 0) : fc e * (b e * b e) * sm (fun u => fc u * (q u * q u)) (d + 1) ≤ sm (fun k => fc k * (pr b q e k * pr b q e k)) (d + e + 1) := by
  have h := squares b q d e hq
  have hp := fc_pos e
  have h1 := sm_term (f := fun s => dsc e (e - s) * sm (fun u => fc u * (sm (rr b q s u) (e + 1) * sm (rr b q s u) (e + 1))) (d + 1)) e (e + 1) (fun s _ => Int.mul_nonneg (dsc_nonneg _ _) (sm_nonneg _ (fun u _ => Int.mul_nonneg (Int.le_of_lt (fc_pos u)) (sq_nonneg _)))) (by omega)
  rw [← h] at h1
  have h2 : dsc e (e - e) * sm (fun u => fc u * (sm (rr b q e u) (e + 1) * sm (rr b q e u) (e + 1))) (d + 1) = fc e * (fc e * (b e * b e) * sm (fun u => fc u * (q u * q u)) (d + 1)) := by
    rw [Nat.sub_self, show dsc e 0 = 1 by cases e <;> rfl, Int.one_mul, ← sm_mul, ← sm_mul]
    refine sm_congr _ (fun u _ => ?_)
    have h3 : sm (rr b q e u) (e + 1) = b e * fc e * q u := by
      rw [sm, sm_none e (fun i hi => by rw [rr, if_neg (by omega)]), rr, if_pos (Nat.le_refl _), Nat.sub_self, Nat.add_zero, dsc_all, show dsc u 0 = 1 by cases u <;> rfl]
      grind
    rw [h3]
    grind
  rw [h2] at h1
  exact Int.le_of_mul_le_mul_left h1 hp
end
def sb : Nat → Int
  | 0 => 1
  | n + 1 => 4 * sb n + fc (n + 1)
theorem sb_sm : ∀ N, sm (fun k => fc k * 4 ^ (N - k)) (N + 1) = sb N
  | 0 => by decide
  | N + 1 => by
    rw [sm, Nat.sub_self, Int.pow_zero, Int.mul_one, sb, ← sb_sm N, ← sm_mul]
    congr 1
    refine sm_congr _ (fun k hk => ?_)
    rw [show N + 1 - k = (N - k) + 1 by omega, Int.pow_succ]
    grind
theorem sq_pow (n : Nat) : (2 : Int) ^ n * 2 ^ n = 4 ^ n := by rw [← Int.mul_pow]; rfl
theorem sq_le {x A : Int} (h1 : -A ≤ x) (h2 : x ≤ A) : x * x ≤ A * A := by
  have h3 : 0 ≤ (A - x) * (A + x) := Int.mul_nonneg (by omega) (by omega)
  have h4 : (A - x) * (A + x) = A * A - x * x := by grind
  omega
theorem factor_sq {b q : Nat → Int} {d e : Nat} {A : Int} (hq : ∀ j, d < j → q j = 0) (hb : b e ≠ 0) (hA : ∀ k, k ≤ d + e → -A ≤ pr b q e k ∧ pr b q e k ≤ A) (j : Nat) (hj : j ≤ d) : fc e * (fc j * (4 ^ (d - j) * (q j * q j))) ≤ sb (d + e) * (A * A) := by
  have h := fock (fun i => 2 ^ (e - i) * b i) (fun j => 2 ^ (d - j) * q j) d e (fun j hj => by rw [hq j hj]; simp)
  have hp : ∀ k, k < d + e + 1 → pr (fun i => 2 ^ (e - i) * b i) (fun j => 2 ^ (d - j) * q j) e k = 2 ^ (d + e - k) * pr b q e k := fun k hk => by
    rw [pr, pr, ← sm_mul]
    refine sm_congr _ (fun i hi => ?_)
    rw [qk, qk]
    by_cases h1 : i ≤ k
    · rw [if_pos h1, if_pos h1]
      rcases Nat.lt_or_ge d (k - i) with h2 | h2
      · rw [hq _ h2]; simp
      · have e1 : (2 : Int) ^ (d + e - k) = 2 ^ (e - i) * 2 ^ (d - (k - i)) := by rw [← Int.pow_add]; congr 1; omega
        rw [e1]
        grind
    · rw [if_neg h1, if_neg h1]; simp
  have hr : sm (fun k => fc k * (pr (fun i => 2 ^ (e - i) * b i) (fun j => 2 ^ (d - j) * q j) e k * pr (fun i => 2 ^ (e - i) * b i) (fun j => 2 ^ (d - j) * q j) e k)) (d + e + 1) ≤ sb (d + e) * (A * A) := by
    rw [← sb_sm, Int.mul_comm, ← sm_mul]
    refine sm_mono _ (fun k hk => ?_)
    rw [hp k hk]
    obtain ⟨a1, a2⟩ := hA k (by omega)
    have h1 := sq_le a1 a2
    have h2 : (2 : Int) ^ (d + e - k) * pr b q e k * (2 ^ (d + e - k) * pr b q e k) = 4 ^ (d + e - k) * (pr b q e k * pr b q e k) := by rw [← sq_pow]; grind
    rw [h2]
    have h3 := fc_pos k
    have h4 : (0 : Int) < 4 ^ (d + e - k) := Int.pow_pos (by decide)
    have h5 := Int.mul_le_mul_of_nonneg_left h1 (Int.le_of_lt (Int.mul_pos h3 h4))
    generalize (4 : Int) ^ (d + e - k) = x at *
    generalize pr b q e k * pr b q e k = y at *
    generalize A * A = z at *
    generalize fc k = v at *
    have e1 : v * (x * y) = v * x * y := by grind
    have e2 : z * (v * x) = v * x * z := by grind
    rw [e1, e2]
    exact h5
  refine Int.le_trans ?_ hr
  refine Int.le_trans ?_ h
  have h1 := sm_term (f := fun u => fc u * ((2 ^ (d - u) * q u) * (2 ^ (d - u) * q u))) j (d + 1) (fun u _ => Int.mul_nonneg (Int.le_of_lt (fc_pos u)) (sq_nonneg _)) (by omega)
  have h2 : fc j * ((2 ^ (d - j) * q j) * (2 ^ (d - j) * q j)) = fc j * (4 ^ (d - j) * (q j * q j)) := by rw [← sq_pow]; grind
  rw [h2] at h1
  have h3 : (1 : Int) ≤ (2 ^ (e - e) * b e) * (2 ^ (e - e) * b e) := by
    rw [Nat.sub_self, Int.pow_zero, Int.one_mul]
    have h4 := sq_nonneg (b e)
    have h5 : b e * b e ≠ 0 := Int.mul_ne_zero hb hb
    omega
  have h4 := fc_pos e
  have h5 : 0 ≤ fc j * (4 ^ (d - j) * (q j * q j)) := Int.mul_nonneg (Int.le_of_lt (fc_pos j)) (Int.mul_nonneg (Int.le_of_lt (Int.pow_pos (by decide))) (sq_nonneg _))
  have h6 : fc e * (fc j * (4 ^ (d - j) * (q j * q j))) ≤ fc e * ((2 ^ (e - e) * b e) * (2 ^ (e - e) * b e)) * (fc j * (4 ^ (d - j) * (q j * q j))) := by
    have h7 := Int.mul_le_mul_of_nonneg_right h3 (Int.mul_nonneg (Int.le_of_lt h4) h5)
    generalize (2 ^ (e - e) * b e) * (2 ^ (e - e) * b e) = x at *
    generalize fc j * (4 ^ (d - j) * (q j * q j)) = y at *
    generalize fc e = z at *
    have e1 : z * x * y = x * (z * y) := by grind
    rw [e1]
    rw [Int.one_mul] at h7
    exact h7
  exact Int.le_trans h6 (Int.mul_le_mul_of_nonneg_left h1 (Int.mul_nonneg (Int.le_of_lt h4) (by omega)))
def chk (d e j : Nat) : Bool := decide (sb (d + e) ≤ fc e * (fc j * (4 ^ (d - j) * (4 ^ (d + 1) * ((d + e + 2 : Nat) * (d + e + 2 : Nat))))))
theorem chk_all : ∀ d, d < 13 → ∀ e, e < 13 → ∀ j, j < d + 1 → chk d e j = true := by decide +kernel
theorem factor_bd {b q : Nat → Int} {d e c : Nat} {A : Int} (hd : d < 13) (he : e < 13) (hq : ∀ j, d < j → q j = 0) (hb : b e ≠ 0) (hA0 : 0 ≤ A) (hA : ∀ k, k ≤ d + e → -A ≤ pr b q e k ∧ pr b q e k ≤ A) (hc : ((d + e + 1 : Nat) : Int) < 2 ^ c) (j : Nat) (hj : j ≤ d) : ((q j).natAbs : Int) ≤ 2 ^ (d + 1 + c) * A := by
  have h1 := factor_sq hq hb hA j hj
  have h2 := chk_all d hd e he j (by omega)
  have h3 : sb (d + e) ≤ fc e * (fc j * (4 ^ (d - j) * (4 ^ (d + 1) * ((d + e + 2 : Nat) * (d + e + 2 : Nat))))) := of_decide_eq_true h2
  have h4 : ((d + e + 2 : Nat) : Int) * (d + e + 2 : Nat) ≤ 4 ^ c := by
    rw [← sq_pow]
    exact Int.mul_le_mul (by omega) (by omega) (by omega) (Int.le_of_lt (Int.pow_pos (by decide)))
  have p1 := fc_pos e
  have p2 := fc_pos j
  have p3 : (0 : Int) < 4 ^ (d - j) := Int.pow_pos (by decide)
  have p4 : (0 : Int) < 4 ^ (d + 1) := Int.pow_pos (by decide)
  have pW : 0 < fc e * (fc j * 4 ^ (d - j)) := Int.mul_pos p1 (Int.mul_pos p2 p3)
  have h5 : fc e * (fc j * 4 ^ (d - j)) * (q j * q j) ≤ fc e * (fc j * 4 ^ (d - j)) * (4 ^ (d + 1) * 4 ^ c * (A * A)) := by
    have g1 : sb (d + e) * (A * A) ≤ fc e * (fc j * 4 ^ (d - j)) * (4 ^ (d + 1) * 4 ^ c) * (A * A) := by
      refine Int.mul_le_mul_of_nonneg_right (Int.le_trans h3 ?_) (sq_nonneg A)
      have g2 := Int.mul_le_mul_of_nonneg_left h4 (Int.le_of_lt (Int.mul_pos pW p4))
      generalize ((d + e + 2 : Nat) : Int) * (d + e + 2 : Nat) = x at *
      generalize (4 : Int) ^ c = y at *
      generalize (4 : Int) ^ (d + 1) = z at *
      generalize (4 : Int) ^ (d - j) = v at *
      have e1 : fc e * (fc j * (v * (z * x))) = fc e * (fc j * v) * z * x := by grind
      have e2 : fc e * (fc j * v) * (z * y) = fc e * (fc j * v) * z * y := by grind
      rw [e1, e2]
      exact g2
    have e1 : fc e * (fc j * (4 ^ (d - j) * (q j * q j))) = fc e * (fc j * 4 ^ (d - j)) * (q j * q j) := by grind
    rw [e1] at h1
    have e2 : fc e * (fc j * 4 ^ (d - j)) * (4 ^ (d + 1) * 4 ^ c) * (A * A) = fc e * (fc j * 4 ^ (d - j)) * (4 ^ (d + 1) * 4 ^ c * (A * A)) := by grind
    rw [e2] at g1
    exact Int.le_trans h1 g1
  have h6 := Int.le_of_mul_le_mul_left h5 pW
  have e3 : (4 : Int) ^ (d + 1) * 4 ^ c * (A * A) = (2 ^ (d + 1 + c) * A) * (2 ^ (d + 1 + c) * A) := by
    rw [← Int.pow_add, ← sq_pow]
    grind
  rw [e3] at h6
  have h7 : 0 ≤ 2 ^ (d + 1 + c) * A := Int.mul_nonneg (Int.le_of_lt (Int.pow_pos (by decide))) hA0
  generalize 2 ^ (d + 1 + c) * A = T at *
  rcases Int.lt_or_le T ((q j).natAbs : Int) with h8 | h8
  · exfalso
    have h9 : ((q j).natAbs : Int) * ((q j).natAbs : Int) = q j * q j := by rw [← Int.natCast_mul, Int.natAbs_mul_self]
    have h10 : T * T < ((q j).natAbs : Int) * ((q j).natAbs : Int) := Int.lt_of_le_of_lt (Int.mul_le_mul_of_nonneg_left (Int.le_of_lt h8) h7) (Int.mul_lt_mul_of_pos_right h8 (Int.lt_of_le_of_lt h7 h8))
    omega
  · exact h8
end Go.Proofs.YtdjjlghlcffflaaGreatDoor.Fk
