/-
  Plain: lists that read alike; ashlarref1.Of for entries below 0.
-/
import Derived.Test.YtakfimhpnpapdaaGreatDoorRkVq
import Derived.Test.YtakfimhpnpapdaaGreatDoorPzDdVvWx
namespace Go.Proofs.YtakfimhpnpapdaaGreatDoor
open Go.RowKit
set_option linter.unusedVariables false
set_option linter.unusedSimpArgs false

theorem tlen_same {a b : List Int} (h : ∀ j, gx a j = gx b j) : tlen a = tlen b := by
  refine tlen_eq _ _ (fun j hj => by rw [h]; exact tlen_zero b j hj) ?_
  rcases Nat.eq_zero_or_pos (tlen b) with h0 | h0
  · exact .inl h0
  · exact .inr (by rw [h]; exact tlen_top b h0)
theorem tr_same {a b : List Int} (h : ∀ j, gx a j = gx b j) : tr a = tr b := by
  refine gx_ext _ _ (by rw [length_tr, length_tr, tlen_same h]) fun j hj => ?_
  rw [gx_tr, gx_tr, h]
theorem gx_pz0 (op : Int → Int → Int) (h0 : op 0 0 = 0) (zs ys : List Int) (j : Nat) : gx (pz op zs ys) j = op (gx zs j) (gx ys j) := by
  rcases Nat.lt_or_ge j (max zs.length ys.length) with h | h
  · exact gx_pz' op zs ys j h
  · rw [gx_past _ (max zs.length ys.length) (by rw [length_pz]; exact Nat.le_refl _) j h, gx_past zs zs.length (Nat.le_refl _) j (by omega), gx_past ys ys.length (Nat.le_refl _) j (by omega), h0]
theorem pz_sub (zs ys : List Int) : tr (pz (· + ·) zs (tr (ys.map (-1 * ·)))) = tr (pz (· - ·) zs ys) := by
  refine tr_same fun j => ?_
  rw [gx_pz0 _ rfl, gx_pz0 _ rfl, gx_tr, gx_map0 (-1 * ·) rfl]
  omega
theorem rOf_n (a : Int) (w : World) (h0 : -9223372036854775808 ≤ a) (h1 : a ≤ 9223372036854775807) :
    Calls Tryz.prog 42 #[.int .i64 a] w fun r w' => ∃ u : Ent, r = .returned (.agg #[.bool u.s, .slice u.p u.n u.c]) ∧ RE w' 4 a u ∧ Go.Proofs.YtakfimhpnpapdaaGreatDoor.From w.heap.size u.p ∧ Below w.heap.size w w' := by
  refine (rOf_any a w h0 h1).mono ?_
  rintro e w1 ⟨s1, p1, n1, d1, rfl, hR1, hv1, hn1, hF1, hb1⟩
  exact ⟨⟨s1, p1, n1, n1⟩, rfl, ⟨⟨d1, hR1, hv1, hn1⟩, rfl⟩, hF1, hb1⟩
end Go.Proofs.YtakfimhpnpapdaaGreatDoor
/-
  Plain facts on products of polynomials: over sums, values, derivatives; sizes in bits.
-/
namespace Go.Proofs.YtakfimhpnpapdaaGreatDoor
open Go.RowKit
set_option linter.unusedVariables false
set_option linter.unusedSimpArgs false

theorem ps_past (zs ys : List Int) (t : Nat) : ∀ m, ps zs ys (zs.length + m) t = ps zs ys zs.length t
  | 0 => rfl
  | m + 1 => by rw [← Nat.add_assoc, ps_none zs ys _ t (gx_past zs _ (Nat.le_refl _) _ (by omega)), ps_past zs ys t m]
theorem ps_late (zs ys : List Int) (t : Nat) : ∀ m, ps zs ys (t + 1 + m) t = ps zs ys (t + 1) t
  | 0 => rfl
  | m + 1 => by
    rw [← Nat.add_assoc, ps, ps_late zs ys t m, if_neg (by omega), Int.add_zero]
theorem ps_nil (zs : List Int) (t : Nat) : ∀ i, ps zs [] i t = 0
  | 0 => rfl
  | i + 1 => by rw [ps, ps_nil zs t i]; simp [gx]
/-- A product's entry. -/
theorem gx_mulp (zs ys : List Int) (t : Nat) : gx (mulp zs ys) t = ps zs ys (t + 1) t := by
  have h0 : ps zs ys (t + 1) t = ps zs ys zs.length t := by
    have h1 := ps_late zs ys t (zs.length)
    have h2 := ps_past zs ys t (t + 1)
    rw [Nat.add_comm] at h2
    rw [← h1, h2]
  rw [h0, mulp]
  by_cases h : zs.length = 0 ∨ ys.length = 0
  · rw [if_pos h]
    rcases h with h | h
    · rw [h]; rfl
    · rw [List.eq_nil_of_length_eq_zero h, ps_nil]; rfl
  · rw [if_neg h]
    rcases Nat.lt_or_ge t (zs.length + ys.length - 1) with h1 | h1
    · rw [gx_mulz _ _ _ h1]
    · rw [gx_past _ (zs.length + ys.length - 1) (by rw [length_mulz]; exact Nat.le_refl _) t h1, ps_far zs ys t zs.length (by omega)]
theorem ps_sum {zs a b c : List Int} (h : ∀ j, gx a j = gx b j + gx c j) (t : Nat) : ∀ i, ps zs a i t = ps zs b i t + ps zs c i t
  | 0 => rfl
  | i + 1 => by
    rw [ps, ps, ps, ps_sum h t i]
    split
    · rw [h, Int.mul_add]; omega
    · omega
theorem ps_same {zs zs' ys ys' : List Int} (h : ∀ j, gx zs j = gx zs' j) (k : ∀ j, gx ys j = gx ys' j) (t : Nat) : ∀ i, ps zs ys i t = ps zs' ys' i t
  | 0 => rfl
  | i + 1 => by rw [ps, ps, ps_same h k t i, h, k]
/-- A product goes over a sum. -/
theorem mulp_sum (zs ys ws : List Int) : tr (mulp (tr zs) (tr (tr (pz (· + ·) (tr ys) (tr ws))))) = tr (tr (pz (· + ·) (tr (mulp (tr zs) (tr ys))) (tr (mulp (tr zs) (tr ws))))) := by
  refine tr_same fun t => ?_
  rw [gx_mulp, gx_tr, gx_pz0 _ rfl, gx_tr, gx_tr, gx_mulp, gx_mulp]
  exact ps_sum (fun j => by rw [gx_tr, gx_tr, gx_pz0 _ rfl]) t _
/-- The value as a sum. -/
def evf (x : Int) (f : Nat → Int) : Nat → Int
  | 0 => 0
  | k + 1 => evf x f k + f k * x ^ k
theorem evf_cons (x c : Int) (cs : List Int) : ∀ k, evf x (gx (c :: cs)) (k + 1) = c + x * evf x (gx cs) k
  | 0 => by simp [evf, gx]
  | k + 1 => by
    rw [evf, evf_cons x c cs k, evf]
    have h1 : gx (c :: cs) (k + 1) = gx cs k := by simp [gx]
    rw [h1, Int.pow_succ]
    grind
theorem evz_evf (x : Int) : ∀ zs, evz x zs = evf x (gx zs) zs.length
  | [] => rfl
  | c :: cs => by
    rw [evz, List.length_cons, evf_cons, evz_evf x cs]
    grind
theorem evf_congr (x : Int) {f g : Nat → Int} : ∀ k, (∀ j, j < k → f j = g j) → evf x f k = evf x g k
  | 0, _ => rfl
  | k + 1, h => by rw [evf, evf, evf_congr x k (fun j hj => h j (by omega)), h k (by omega)]
theorem evf_zero (x : Int) : ∀ k, evf x (fun _ => 0) k = 0
  | 0 => rfl
  | k + 1 => by rw [evf, evf_zero x k]; simp
theorem evf_add (x : Int) (f g : Nat → Int) : ∀ k, evf x (fun j => f j + g j) k = evf x f k + evf x g k
  | 0 => rfl
  | k + 1 => by
    rw [evf, evf, evf, evf_add x f g k, Int.add_mul]
    omega
theorem evf_more (x : Int) (f : Nat → Int) (k : Nat) (h : ∀ j, k ≤ j → f j = 0) : ∀ m, evf x f (k + m) = evf x f k
  | 0 => rfl
  | m + 1 => by rw [← Nat.add_assoc, evf, evf_more x f k h m, h (k + m) (by omega)]; simp
theorem evf_shift (x : Int) (z : Int) (f : Nat → Int) (i : Nat) : ∀ k, evf x (fun t => if i ≤ t then z * f (t - i) else 0) (i + k) = z * x ^ i * evf x f k
  | 0 => by
    have h : ∀ j, j < i + 0 → (fun t => if i ≤ t then z * f (t - i) else 0) j = (fun _ => 0) j := fun j hj => by simp; omega
    rw [evf_congr x _ h, evf_zero, evf, Int.mul_zero]
  | k + 1 => by
    rw [← Nat.add_assoc, evf, evf_shift x z f i k, evf]
    simp only [Nat.le_add_right, if_true, Nat.add_sub_cancel_left]
    rw [Int.pow_add]
    grind
theorem evf_mul (x : Int) (zs ys : List Int) (T : Nat) : ∀ i, i + ys.length ≤ T + 1 → evf x (ps zs ys i) T = evf x (gx zs) i * evf x (gx ys) ys.length
  | 0, _ => by
    show evf x (fun _ => 0) T = _
    rw [evf_zero, evf, Int.zero_mul]
  | i + 1, h => by
    have h1 : ∀ j, j < T → ps zs ys (i + 1) j = (fun t => ps zs ys i t + (if i ≤ t then gx zs i * gx ys (t - i) else 0)) j := fun j _ => rfl
    have hT : T = i + (T - i) := by omega
    have hk : evf x (gx ys) (T - i) = evf x (gx ys) ys.length := by
      have := evf_more x (gx ys) ys.length (fun j hj => gx_past ys _ (Nat.le_refl _) j hj) (T - i - ys.length)
      rwa [show ys.length + (T - i - ys.length) = T - i by omega] at this
    have hs := evf_shift x (gx zs i) (gx ys) i (T - i)
    rw [← hT, hk] at hs
    rw [evf_congr x T h1, evf_add, evf_mul x zs ys T i (by omega), hs, evf, Int.add_mul]
/-- Values multiply. -/
theorem evz_mulp (x : Int) (zs ys : List Int) : evz x (mulp zs ys) = evz x zs * evz x ys := by
  rw [mulp]
  by_cases h : zs.length = 0 ∨ ys.length = 0
  · rw [if_pos h]
    rcases h with h | h
    · rw [List.eq_nil_of_length_eq_zero h]; simp [evz]
    · rw [List.eq_nil_of_length_eq_zero h]; simp [evz]
  · rw [if_neg h, evz_evf, evz_evf, evz_evf, length_mulz, evf_congr x _ (fun j hj => gx_mulz zs ys j hj), evf_mul x zs ys _ zs.length (by omega)]
theorem gx_derz' (zs : List Int) (j : Nat) : gx (derz zs) j = ((j : Int) + 1) * gx zs (j + 1) := by
  rcases Nat.lt_or_ge j (zs.length - 1) with h | h
  · exact gx_derz zs j h
  · rw [gx_past _ (zs.length - 1) (by rw [length_derz]; exact Nat.le_refl _) j h, gx_past zs zs.length (Nat.le_refl _) (j + 1) (by omega), Int.mul_zero]
theorem rule_step (zs ys : List Int) (t : Nat) : ∀ n, n ≤ t + 1 → ((t : Int) + 1) * ps zs ys n (t + 1) + (n : Int) * (gx zs n * gx ys (t + 1 - n)) = ps (derz zs) ys n t + ps zs (derz ys) n t
  | 0, _ => by simp [ps]
  | n + 1, h => by
    have ih := rule_step zs ys t n (by omega)
    rw [ps, ps, ps, if_pos (by omega), if_pos (by omega), if_pos (by omega), gx_derz', gx_derz', show t - n + 1 = t + 1 - n by omega, show t + 1 - (n + 1) = t - n by omega]
    have e : ((t - n : Nat) : Int) = (t : Int) - (n : Int) := by omega
    rw [e]
    generalize gx zs n = a at *
    generalize gx zs (n + 1) = b at *
    generalize gx ys (t + 1 - n) = c at *
    generalize gx ys (t - n) = d at *
    push_cast
    grind
/-- The derivative of a product. -/
theorem derz_mulp (zs ys : List Int) (t : Nat) : gx (derz (mulp zs ys)) t = gx (mulp (derz zs) ys) t + gx (mulp zs (derz ys)) t := by
  rw [gx_derz', gx_mulp, gx_mulp, gx_mulp, ← rule_step zs ys t (t + 1) (Nat.le_refl _), ps, if_pos (Nat.le_refl _)]
  push_cast
  grind
theorem mulp_rule (zs ys : List Int) : tr (derz (tr (mulp (tr zs) (tr ys)))) = tr (tr (pz (· + ·) (tr (mulp (tr (derz (tr zs))) (tr ys))) (tr (mulp (tr zs) (tr (derz (tr ys))))))) := by
  refine tr_same fun t => ?_
  rw [gx_tr, gx_pz0 _ rfl, gx_tr, gx_tr]
  have h1 : gx (derz (tr (mulp (tr zs) (tr ys)))) t = gx (derz (mulp (tr zs) (tr ys))) t := by rw [gx_derz', gx_derz', gx_tr]
  have h2 : gx (mulp (tr (derz (tr zs))) (tr ys)) t = gx (mulp (derz (tr zs)) (tr ys)) t := by
    rw [gx_mulp, gx_mulp]; exact ps_same (fun j => gx_tr _ j) (fun _ => rfl) t _
  have h3 : gx (mulp (tr zs) (tr (derz (tr ys)))) t = gx (mulp (tr zs) (derz (tr ys))) t := by
    rw [gx_mulp, gx_mulp]; exact ps_same (fun _ => rfl) (fun j => gx_tr _ j) t _
  rw [h1, h2, h3, derz_mulp]
theorem zb_le_of {z : Int} {b : Nat} (h : (z.natAbs : Int) < 2 ^ b) : zb z ≤ b := by
  rcases Nat.lt_or_ge b (zb z) with h1 | h1
  · exfalso
    have h2 := p2_mono (show b ≤ zb z - 1 by omega)
    rcases (zb_ib z).2.2 with h3 | h3
    · omega
    · omega
  · exact h1
theorem pb_of {zs : List Int} {b : Nat} (h : ∀ j, ((gx zs j).natAbs : Int) < 2 ^ b) : pb zs ≤ b := by
  have := pb_le_of zs b (fun j _ => zb_le_of (h j)) zs.length (Nat.le_refl _)
  rwa [List.take_length] at this
end Go.Proofs.YtakfimhpnpapdaaGreatDoor
