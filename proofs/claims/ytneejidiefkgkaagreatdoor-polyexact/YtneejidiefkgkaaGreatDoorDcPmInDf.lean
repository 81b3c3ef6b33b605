/-
  Plain: lists that read alike; ashlarref1.Of for entries below 0.
-/
import Derived.Test.YtneejidiefkgkaaGreatDoorRkVq
import Derived.Test.YtneejidiefkgkaaGreatDoorPzDdVvWx
import Derived.Test.YtneejidiefkgkaaGreatDoorUy
namespace Go.Proofs.YtneejidiefkgkaaGreatDoor
open Go.RowKit
set_option linter.unusedVariables false
set_option linter.unusedSimpArgs false

theorem tlen_same {a b : List Int} (h : ∀ j, gx a j = gx b j) : tlen a = tlen b := by
  refine tlen_eq _ _ (fun j hj => by rw [h]; exact tlen_zero b j hj) ?_
  rcases Nat.eq_zero_or_pos (tlen b) with h0 | h0
  · exact .inl h0
  · exact .inr (by rw [h]; exact tlen_top b h0)
theorem tr_same {a b : List Int} (h : ∀ j, gx a j = gx b j) : tr a = tr b := by
  refine gx_ext _ _ (by rw [length_tr, length_tr, tlen_same h]) fun j hj => ?_
  rw [gx_tr, gx_tr, h]
theorem gx_pz0 (op : Int → Int → Int) (h0 : op 0 0 = 0) (zs ys : List Int) (j : Nat) : gx (pz op zs ys) j = op (gx zs j) (gx ys j) := by
  rcases Nat.lt_or_ge j (max zs.length ys.length) with h | h
  · exact gx_pz' op zs ys j h
  · rw [gx_past _ (max zs.length ys.length) (by rw [length_pz]; exact Nat.le_refl _) j h, gx_past zs zs.length (Nat.le_refl _) j (by omega), gx_past ys ys.length (Nat.le_refl _) j (by omega), h0]
theorem pz_sub (zs ys : List Int) : tr (pz (· + ·) zs (tr (ys.map (-1 * ·)))) = tr (pz (· - ·) zs ys) := by
  refine tr_same fun j => ?_
  rw [gx_pz0 _ rfl, gx_pz0 _ rfl, gx_tr, gx_map0 (-1 * ·) rfl]
  omega
theorem rOf_n (a : Int) (w : World) (h0 : -9223372036854775808 ≤ a) (h1 : a ≤ 9223372036854775807) :
    Calls Tryz.prog 72 #[.int .i64 a] w fun r w' => ∃ u : Ent, r = .returned (.agg #[.bool u.s, .slice u.p u.n u.c]) ∧ RE w' 4 a u ∧ Go.Proofs.YtneejidiefkgkaaGreatDoor.From w.heap.size u.p ∧ Below w.heap.size w w' := by
  refine (rOf_any a w h0 h1).mono ?_
  rintro e w1 ⟨s1, p1, n1, d1, rfl, hR1, hv1, hn1, hF1, hb1⟩
  exact ⟨⟨s1, p1, n1, n1⟩, rfl, ⟨⟨d1, hR1, hv1, hn1⟩, rfl⟩, hF1, hb1⟩
end Go.Proofs.YtneejidiefkgkaaGreatDoor
/-
  Plain facts on products of polynomials: over sums, values, derivatives; sizes in bits.
-/
namespace Go.Proofs.YtneejidiefkgkaaGreatDoor
open Go.RowKit
set_option linter.unusedVariables false
set_option linter.unusedSimpArgs false

theorem ps_past (zs ys : List Int) (t : Nat) : ∀ m, ps zs ys (zs.length + m) t = ps zs ys zs.length t
  | 0 => rfl
  | m + 1 => by rw [← Nat.add_assoc, ps_none zs ys _ t (gx_past zs _ (Nat.le_refl _) _ (by omega)), ps_past zs ys t m]
theorem ps_late (zs ys : List Int) (t : Nat) : ∀ m, ps zs ys (t + 1 + m) t = ps zs ys (t + 1) t
  | 0 => rfl
  | m + 1 => by
    rw [← Nat.add_assoc, ps, ps_late zs ys t m, if_neg (by omega), Int.add_zero]
theorem ps_nil (zs : List Int) (t : Nat) : ∀ i, ps zs [] i t = 0
  | 0 => rfl
  | i + 1 => by rw [ps, ps_nil zs t i]; simp [gx]
/-- A product's entry. -/
theorem gx_mulp (zs ys : List Int) (t : Nat) : gx (mulp zs ys) t = ps zs ys (t + 1) t := by
  have h0 : ps zs ys (t + 1) t = ps zs ys zs.length t := by
    have h1 := ps_late zs ys t (zs.length)
    have h2 := ps_past zs ys t (t + 1)
    rw [Nat.add_comm] at h2
    rw [← h1, h2]
  rw [h0, mulp]
  by_cases h : zs.length = 0 ∨ ys.length = 0
  · rw [if_pos h]
    rcases h with h | h
    · rw [h]; rfl
    · rw [List.eq_nil_of_length_eq_zero h, ps_nil]; rfl
  · rw [if_neg h]
    rcases Nat.lt_or_ge t (zs.length + ys.length - 1) with h1 | h1
    · rw [gx_mulz _ _ _ h1]
    · rw [gx_past _ (zs.length + ys.length - 1) (by rw [length_mulz]; exact Nat.le_refl _) t h1, ps_far zs ys t zs.length (by omega)]
theorem ps_sum {zs a b c : List Int} (h : ∀ j, gx a j = gx b j + gx c j) (t : Nat) : ∀ i, ps zs a i t = ps zs b i t + ps zs c i t
  | 0 => rfl
  | i + 1 => by
    rw [ps, ps, ps, ps_sum h t i]
    split
    · rw [h, Int.mul_add]; omega
    · omega
theorem ps_same {zs zs' ys ys' : List Int} (h : ∀ j, gx zs j = gx zs' j) (k : ∀ j, gx ys j = gx ys' j) (t : Nat) : ∀ i, ps zs ys i t = ps zs' ys' i t
  | 0 => rfl
  | i + 1 => by rw [ps, ps, ps_same h k t i, h, k]
/-- A product goes over a sum. -/
theorem mulp_sum (zs ys ws : List Int) : tr (mulp (tr zs) (tr (tr (pz (· + ·) (tr ys) (tr ws))))) = tr (tr (pz (· + ·) (tr (mulp (tr zs) (tr ys))) (tr (mulp (tr zs) (tr ws))))) := by
  refine tr_same fun t => ?_
  rw [gx_mulp, gx_tr, gx_pz0 _ rfl, gx_tr, gx_tr, gx_mulp, gx_mulp]
  exact ps_sum (fun j => by rw [gx_tr, gx_tr, gx_pz0 _ rfl]) t _
/-- The value as a sum. -/
def evf (x : Int) (f : Nat → Int) : Nat → Int
  | 0 => 0
  | k + 1 => evf x f k + f k * x ^ k
theorem evf_cons (x c : Int) (cs : List Int) : ∀ k, evf x (gx (c :: cs)) (k + 1) = c + x * evf x (gx cs) k
  | 0 => by simp [evf, gx]
  | k + 1 => by
    rw [evf, evf_cons x c cs k, evf]
    have h1 : gx (c :: cs) (k + 1) = gx cs k := by simp [gx]
    rw [h1, Int.pow_succ]
    grind
theorem evz_evf (x : Int) : ∀ zs, evz x zs = evf x (gx zs) zs.length
  | [] => rfl
  | c :: cs => by
    rw [evz, List.length_cons, evf_cons, evz_evf x cs]
    grind
theorem evf_congr (x : Int) {f g : Nat → Int} : ∀ k, (∀ j, j < k → f j = g j) → evf x f k = evf x g k
  | 0, _ => rfl
  | k + 1, h => by rw [evf, evf, evf_congr x k (fun j hj => h j (by omega)), h k (by omega)]
theorem evf_zero (x : Int) : ∀ k, evf x (fun _ => 0) k = 0
  | 0 => rfl
  | k + 1 => by rw [evf, evf_zero x k]; simp
theorem evf_add (x : Int) (f g : Nat → Int) : ∀ k, evf x (fun j => f j + g j) k = evf x f k + evf x g k
  | 0 => rfl
  | k + 1 => by
    rw [evf, evf, evf, evf_add x f g k, Int.add_mul]
    omega
theorem evf_more (x : Int) (f : Nat → Int) (k : Nat) (h : ∀ j, k ≤ j → f j = 0) : ∀ m, evf x f (k + m) = evf x f k
  | 0 => rfl
  | m + 1 => by rw [← Nat.add_assoc, evf, evf_more x f k h m, h (k + m) (by omega)]; simp
theorem evf_shift (x : Int) (z : Int) (f : Nat → Int) (i : Nat) : ∀ k, evf x (fun t => if i ≤ t then z * f (t - i) else 0) (i + k) = z * x ^ i * evf x f k
  | 0 => by
    have h : ∀ j, j < i + 0 → (fun t => if i ≤ t then z * f (t - i) else 0) j = (fun _ => 0) j := fun j hj => by simp; omega
    rw [evf_congr x _ h, evf_zero, evf, Int.mul_zero]
  | k + 1 => by
    rw [← Nat.add_assoc, evf, evf_shift x z f i k, evf]
    simp only [Nat.le_add_right, if_true, Nat.add_sub_cancel_left]
    rw [Int.pow_add]
    grind
theorem evf_mul (x : Int) (zs ys : List Int) (T : Nat) : ∀ i, i + ys.length ≤ T + 1 → evf x (ps zs ys i) T = evf x (gx zs) i * evf x (gx ys) ys.length
  | 0, _ => by
    show evf x (fun _ => 0) T = _
    rw [evf_zero, evf, Int.zero_mul]
  | i + 1, h => by
    have h1 : ∀ j, j < T → ps zs ys (i + 1) j = (fun t => ps zs ys i t + (if i ≤ t then gx zs i * gx ys (t - i) else 0)) j := fun j _ => rfl
    have hT : T = i + (T - i) := by omega
    have hk : evf x (gx ys) (T - i) = evf x (gx ys) ys.length := by
      have := evf_more x (gx ys) ys.length (fun j hj => gx_past ys _ (Nat.le_refl _) j hj) (T - i - ys.length)
      rwa [show ys.length + (T - i - ys.length) = T - i by omega] at this
    have hs := evf_shift x (gx zs i) (gx ys) i (T - i)
    rw [← hT, hk] at hs
    rw [evf_congr x T h1, evf_add, evf_mul x zs ys T i (by omega), hs, evf, Int.add_mul]
/-- Values multiply. -/
theorem evz_mulp (x : Int) (zs ys : List Int) : evz x (mulp zs ys) = evz x zs * evz x ys := by
  rw [mulp]
  by_cases h : zs.length = 0 ∨ ys.length = 0
  · rw [if_pos h]
    rcases h with h | h
    · rw [List.eq_nil_of_length_eq_zero h]; simp [evz]
    · rw [List.eq_nil_of_length_eq_zero h]; simp [evz]
  · rw [if_neg h, evz_evf, evz_evf, evz_evf, length_mulz, evf_congr x _ (fun j hj => gx_mulz zs ys j hj), evf_mul x zs ys _ zs.length (by omega)]
theorem gx_derz' (zs : List Int) (j : Nat) : gx (derz zs) j = ((j : Int) + 1) * gx zs (j + 1) := by
  rcases Nat.lt_or_ge j (zs.length - 1) with h | h
  · exact gx_derz zs j h
  · rw [gx_past _ (zs.length - 1) (by rw [length_derz]; exact Nat.le_refl _) j h, gx_past zs zs.length (Nat.le_refl _) (j + 1) (by omega), Int.mul_zero]
theorem rule_step (zs ys : List Int) (t : Nat) : ∀ n, n ≤ t + 1 → ((t : Int) + 1) * ps zs ys n (t + 1) + (n : Int) * (gx zs n * gx ys (t + 1 - n)) = ps (derz zs) ys n t + ps zs (derz ys) n t
  | 0, _ => by simp [ps]
  | n + 1, h => by
    have ih := rule_step zs ys t n (by omega)
    rw [ps, ps, ps, if_pos (by omega), if_pos (by omega), if_pos (by omega), gx_derz', gx_derz', show t - n + 1 = t + 1 - n by omega, show t + 1 - (n + 1) = t - n by omega]
    have e : ((t - n : Nat) : Int) = (t : Int) - (n : Int) := by omega
    rw [e]
    generalize gx zs n = a at *
    generalize gx zs (n + 1) = b at *
    generalize gx ys (t + 1 - n) = c at *
    generalize gx ys (t - n) = d at *
    push_cast
    grind
/-- The derivative of a product. -/
theorem derz_mulp (zs ys : List Int) (t : Nat) : gx (derz (mulp zs ys)) t = gx (mulp (derz zs) ys) t + gx (mulp zs (derz ys)) t := by
  rw [gx_derz', gx_mulp, gx_mulp, gx_mulp, ← rule_step zs ys t (t + 1) (Nat.le_refl _), ps, if_pos (Nat.le_refl _)]
  push_cast
  grind
theorem mulp_rule (zs ys : List Int) : tr (derz (tr (mulp (tr zs) (tr ys)))) = tr (tr (pz (· + ·) (tr (mulp (tr (derz (tr zs))) (tr ys))) (tr (mulp (tr zs) (tr (derz (tr ys))))))) := by
  refine tr_same fun t => ?_
  rw [gx_tr, gx_pz0 _ rfl, gx_tr, gx_tr]
  have h1 : gx (derz (tr (mulp (tr zs) (tr ys)))) t = gx (derz (mulp (tr zs) (tr ys))) t := by rw [gx_derz', gx_derz', gx_tr]
  have h2 : gx (mulp (tr (derz (tr zs))) (tr ys)) t = gx (mulp (derz (tr zs)) (tr ys)) t := by
    rw [gx_mulp, gx_mulp]; exact ps_same (fun j => gx_tr _ j) (fun _ => rfl) t _
  have h3 : gx (mulp (tr zs) (tr (derz (tr ys)))) t = gx (mulp (tr zs) (derz (tr ys))) t := by
    rw [gx_mulp, gx_mulp]; exact ps_same (fun _ => rfl) (fun j => gx_tr _ j) t _
  rw [h1, h2, h3, derz_mulp]
theorem zb_le_of {z : Int} {b : Nat} (h : (z.natAbs : Int) < 2 ^ b) : zb z ≤ b := by
  rcases Nat.lt_or_ge b (zb z) with h1 | h1
  · exfalso
    have h2 := p2_mono (show b ≤ zb z - 1 by omega)
    rcases (zb_ib z).2.2 with h3 | h3
    · omega
    · omega
  · exact h1
theorem pb_of {zs : List Int} {b : Nat} (h : ∀ j, ((gx zs j).natAbs : Int) < 2 ^ b) : pb zs ≤ b := by
  have := pb_le_of zs b (fun j _ => zb_le_of (h j)) zs.length (Nat.le_refl _)
  rwa [List.take_length] at this
end Go.Proofs.YtneejidiefkgkaaGreatDoor
/-
  Plain facts on division without fractions, step by step.
-/
namespace Go.Proofs.YtneejidiefkgkaaGreatDoor
open Go.RowKit
set_option linter.unusedVariables false
set_option linter.unusedSimpArgs false

/-- What is left behind s steps. -/
def RS (L : Int) (b : List Int) (m K0 : Nat) (a : Nat → Int) : Nat → Nat → Int
  | 0, t => a t
  | s + 1, t => L * RS L b m K0 a s t - RS L b m K0 a s (K0 - s + m) * (if K0 - s ≤ t then gx b (t - (K0 - s)) else 0)
/-- The quotient behind s steps. -/
def QS (L : Int) (b : List Int) (m K0 : Nat) (a : Nat → Int) : Nat → Nat → Int
  | 0, _ => 0
  | s + 1, i => L * QS L b m K0 a s i + (if i = K0 - s then RS L b m K0 a s (K0 - s + m) else 0)
/-- The first rows of a product with a function. -/
def cvf (Q : Nat → Int) (b : List Int) : Nat → Nat → Int
  | 0, _ => 0
  | i + 1, t => cvf Q b i t + (if i ≤ t then Q i * gx b (t - i) else 0)
theorem cvf_lin (L c : Int) (Q : Nat → Int) (b : List Int) (k t : Nat) : ∀ n, cvf (fun i => L * Q i + (if i = k then c else 0)) b n t = L * cvf Q b n t + (if k < n ∧ k ≤ t then c * gx b (t - k) else 0)
  | 0 => by simp [cvf]
  | n + 1 => by
    rw [cvf, cvf_lin L c Q b k t n, cvf]
    by_cases h1 : n = k
    · subst h1
      by_cases h2 : n ≤ t
      · rw [if_neg (by omega), if_pos h2, if_pos rfl, if_pos h2, if_pos (by omega)]
        grind
      · rw [if_neg (by omega), if_neg h2, if_neg h2, if_neg (by omega)]
        grind
    · by_cases h2 : n ≤ t
      · rw [if_pos h2, if_neg h1, if_pos h2]
        by_cases h3 : k < n ∧ k ≤ t
        · rw [if_pos h3, if_pos (by omega)]; grind
        · rw [if_neg h3, if_neg (by omega)]; grind
      · rw [if_neg h2, if_neg h2]
        by_cases h3 : k < n ∧ k ≤ t
        · rw [if_pos h3, if_pos (by omega)]; grind
        · rw [if_neg h3, if_neg (by omega)]; grind
theorem cvf_zero (b : List Int) (t : Nat) : ∀ n, cvf (fun _ => 0) b n t = 0
  | 0 => rfl
  | n + 1 => by rw [cvf, cvf_zero b t n]; simp
/-- Behind each step: L^s a = q b + r. -/
theorem pseudo_inv (L : Int) (b : List Int) (m K0 : Nat) (a : Nat → Int) (t : Nat) : ∀ s, s ≤ K0 + 1 → L ^ s * a t = cvf (QS L b m K0 a s) b (K0 + 1) t + RS L b m K0 a s t
  | 0, _ => by
    show L ^ 0 * a t = cvf (fun _ => 0) b (K0 + 1) t + a t
    rw [cvf_zero, Int.pow_zero]
    omega
  | s + 1, h => by
    have ih := pseudo_inv L b m K0 a t s (by omega)
    have e : cvf (QS L b m K0 a (s + 1)) b (K0 + 1) t = L * cvf (QS L b m K0 a s) b (K0 + 1) t + (if K0 - s < K0 + 1 ∧ K0 - s ≤ t then RS L b m K0 a s (K0 - s + m) * gx b (t - (K0 - s)) else 0) := cvf_lin L (RS L b m K0 a s (K0 - s + m)) (QS L b m K0 a s) b (K0 - s) t (K0 + 1)
    rw [e, RS, Int.pow_succ]
    generalize RS L b m K0 a s (K0 - s + m) = c at *
    by_cases h2 : K0 - s ≤ t
    · rw [if_pos (by omega), if_pos h2]
      grind
    · rw [if_neg (by omega), if_neg h2]
      grind
/-- What is left grows shorter by each step. -/
theorem rs_zero {L : Int} {b : List Int} {m K0 : Nat} {a : Nat → Int} (hb : gx b m = L) (hl : b.length ≤ m + 1) (ha : ∀ t, K0 + m + 1 ≤ t → a t = 0) : ∀ s, s ≤ K0 + 1 → ∀ t, K0 + m + 1 ≤ t + s → RS L b m K0 a s t = 0
  | 0, _, t, h => ha t (by omega)
  | s + 1, hs, t, h => by
    have ih := rs_zero hb hl ha s (by omega)
    rw [RS]
    rcases Nat.lt_or_ge (K0 - s + m) t with h1 | h1
    · rw [ih t (by omega), if_pos (by omega), gx_past b (m + 1) hl (t - (K0 - s)) (by omega)]
      simp
    · obtain rfl : t = K0 - s + m := by omega
      rw [if_pos (by omega), show K0 - s + m - (K0 - s) = m by omega, hb]
      grind
/-- Entries that no step has reached. -/
theorem rs_low {L : Int} {b : List Int} {m K0 : Nat} {a : Nat → Int} : ∀ s, s ≤ K0 + 1 → ∀ t, t + s ≤ K0 → RS L b m K0 a s t = L ^ s * a t
  | 0, _, t, _ => by rw [RS, Int.pow_zero]; omega
  | s + 1, hs, t, h => by
    rw [RS, rs_low s (by omega) t (by omega), if_neg (by omega), Int.pow_succ]
    grind
/-- A quotient's entry, all steps done: its own step's lead, and the steps behind it. -/
theorem qs_at {L : Int} {b : List Int} {m K0 : Nat} {a : Nat → Int} (i : Nat) (hi : i ≤ K0) : ∀ s, s ≤ K0 + 1 → QS L b m K0 a s i = if K0 - i < s then RS L b m K0 a (K0 - i) (i + m) * L ^ (s - (K0 - i) - 1) else 0
  | 0, _ => by rw [QS, if_neg (by omega)]
  | s + 1, hs => by
    rw [QS, qs_at i hi s (by omega)]
    by_cases h1 : K0 - i < s
    · rw [if_pos h1, if_neg (by omega), if_pos (by omega), show s + 1 - (K0 - i) - 1 = (s - (K0 - i) - 1) + 1 by omega, Int.pow_succ]
      grind
    · rw [if_neg h1]
      by_cases h2 : K0 - i = s
      · subst h2
        rw [if_pos (by omega), if_pos (by omega), show K0 - (K0 - i) = i by omega, show K0 - i + 1 - (K0 - i) - 1 = 0 by omega, Int.pow_zero]
        grind
      · rw [if_neg (by omega), if_neg (by omega)]
        grind
theorem cvf_congr {Q R : Nat → Int} (b : List Int) (t : Nat) : ∀ n, (∀ i, i < n → Q i = R i) → cvf Q b n t = cvf R b n t
  | 0, _ => rfl
  | n + 1, h => by rw [cvf, cvf, cvf_congr b t n (fun i hi => h i (by omega)), h n (by omega)]
theorem ps_cvf (q b : List Int) (t : Nat) : ∀ n, ps q b n t = cvf (gx q) b n t
  | 0 => rfl
  | n + 1 => by rw [ps, cvf, ps_cvf q b t n]
theorem ps_more (q b : List Int) (t n : Nat) (h : ∀ i, n ≤ i → gx q i = 0) : ∀ m, ps q b (n + m) t = ps q b n t
  | 0 => rfl
  | m + 1 => by rw [← Nat.add_assoc, ps_none q b _ t (h _ (by omega)), ps_more q b t n h m]
/-- Division without fractions: L^(K0 + 1) x = q y + r. -/
theorem pseudo_law {xs ys q r : List Int} {L : Int} {m K0 : Nat} (hq : ∀ i, gx q i = if i ≤ K0 then QS L ys m K0 (gx xs) (K0 + 1) i else 0) (hr : ∀ t, gx r t = RS L ys m K0 (gx xs) (K0 + 1) t) :
    tr (xs.map (L ^ (K0 + 1) * ·)) = tr (pz (· + ·) (mulp q ys) r) := by
  refine tr_same fun t => ?_
  rw [gx_map0 (L ^ (K0 + 1) * ·) (by simp), gx_pz0 _ rfl, gx_mulp, hr, pseudo_inv L ys m K0 (gx xs) t (K0 + 1) (Nat.le_refl _)]
  congr 1
  have h1 := ps_late q ys t (K0 + 1)
  have h2 := ps_more q ys t (K0 + 1) (fun i hi => by rw [hq, if_neg (by omega)]) (t + 1)
  rw [← h1, Nat.add_comm (t + 1), h2, ps_cvf]
  exact cvf_congr ys t _ (fun i hi => by rw [hq, if_pos (by omega)])
end Go.Proofs.YtneejidiefkgkaaGreatDoor
/-
  Plain: sizes of powers and products.
-/
namespace Go.Proofs.YtneejidiefkgkaaGreatDoor
open Go.RowKit
set_option linter.unusedVariables false
set_option linter.unusedSimpArgs false

/-- The entries of k^d p(x / k). -/
def widz (k : Int) (zs : List Int) : List Int := (List.range zs.length).map fun i => gx zs i * k ^ (zs.length - 1 - i)
theorem length_widz (k : Int) (zs : List Int) : (widz k zs).length = zs.length := by simp [widz]
theorem gx_widz (k : Int) (zs : List Int) (i : Nat) (h : i < zs.length) : gx (widz k zs) i = gx zs i * k ^ (zs.length - 1 - i) := by
  rw [gx_mem _ _ (by rw [length_widz]; exact h)]
  simp [widz]
theorem term_lt {a b : Int} {i j : Nat} (h : (a.natAbs : Int) < pw i) (k : (b.natAbs : Int) < pw j) : ((a * b).natAbs : Int) < pw (i + j) := by
  rw [Int.natAbs_mul, pw_add]
  push_cast
  have h1 := pw_pos i
  have h2 := pw_pos j
  have h3 : (a.natAbs : Int) * (b.natAbs : Int) ≤ (a.natAbs : Int) * pw j := Int.mul_le_mul_of_nonneg_left (by omega) (by omega)
  have h4 : (a.natAbs : Int) * pw j < pw i * pw j := Int.mul_lt_mul_of_pos_right h h2
  omega
theorem pow_lt {k : Int} {L : Nat} (hk : (k.natAbs : Int) < pw L) (hL : 1 ≤ L) : ∀ m, ((k ^ m).natAbs : Int) < pw (m * L + 1)
  | 0 => by
    rw [Nat.zero_mul, Int.pow_zero]
    decide
  | m + 1 => by
    rw [Int.pow_succ, show (m + 1) * L + 1 = (m * L + 1) + L by rw [Nat.succ_mul]; omega]
    exact term_lt (pow_lt hk hL m) hk
end Go.Proofs.YtneejidiefkgkaaGreatDoor
