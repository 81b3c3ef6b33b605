/-
  ashlarref3.Sub.
-/
import Derived.Test.YtgecfnoecmjacaaGreatDoorVqUj
import Derived.Test.YtgecfnoecmjacaaGreatDoorPvPwUoPxPz
import Derived.Test.YtgecfnoecmjacaaGreatDoorHg
import Derived.Test.YtgecfnoecmjacaaGreatDoorRkUg
import Derived.Deep.DeepFit
import Derived.Test.YtgecfnoecmjacaaGreatDoorUi
import Derived.Test.YtgecfnoecmjacaaGreatDoorWgUe
import Derived.Test.YtgecfnoecmjacaaGreatDoorUy
namespace Go.Proofs.YtgecfnoecmjacaaGreatDoor
open Go.RowKit
set_option linter.unusedVariables false
set_option linter.unusedSimpArgs false

theorem tlen_same {a b : List Int} (h : ∀ j, gx a j = gx b j) : tlen a = tlen b := by
  refine tlen_eq _ _ (fun j hj => by rw [h]; exact tlen_zero b j hj) ?_
  rcases Nat.eq_zero_or_pos (tlen b) with h0 | h0
  · exact .inl h0
  · exact .inr (by rw [h]; exact tlen_top b h0)
theorem tr_same {a b : List Int} (h : ∀ j, gx a j = gx b j) : tr a = tr b := by
  refine gx_ext _ _ (by rw [length_tr, length_tr, tlen_same h]) fun j hj => ?_
  rw [gx_tr, gx_tr, h]
theorem gx_pz0 (op : Int → Int → Int) (h0 : op 0 0 = 0) (zs ys : List Int) (j : Nat) : gx (pz op zs ys) j = op (gx zs j) (gx ys j) := by
  rcases Nat.lt_or_ge j (max zs.length ys.length) with h | h
  · exact gx_pz' op zs ys j h
  · rw [gx_past _ (max zs.length ys.length) (by rw [length_pz]; exact Nat.le_refl _) j h, gx_past zs zs.length (Nat.le_refl _) j (by omega), gx_past ys ys.length (Nat.le_refl _) j (by omega), h0]
theorem pz_sub (zs ys : List Int) : tr (pz (· + ·) zs (tr (ys.map (-1 * ·)))) = tr (pz (· - ·) zs ys) := by
  refine tr_same fun j => ?_
  rw [gx_pz0 _ rfl, gx_pz0 _ rfl, gx_tr, gx_map0 (-1 * ·) rfl]
  omega
theorem rOf_n (a : Int) (w : World) (h0 : -9223372036854775808 ≤ a) (h1 : a ≤ 9223372036854775807) :
    Calls Tryz.prog 62 #[.int .i64 a] w fun r w' => ∃ u : Ent, r = .returned (.agg #[.bool u.s, .slice u.p u.n u.c]) ∧ RE w' 4 a u ∧ Go.Proofs.YtgecfnoecmjacaaGreatDoor.From w.heap.size u.p ∧ Below w.heap.size w w' := by
  refine (rOf_any a w h0 h1).mono ?_
  rintro e w1 ⟨s1, p1, n1, d1, rfl, hR1, hv1, hn1, hF1, hb1⟩
  exact ⟨⟨s1, p1, n1, n1⟩, rfl, ⟨⟨d1, hR1, hv1, hn1⟩, rfl⟩, hF1, hb1⟩
set_option maxHeartbeats 4000000 in
set_option maxRecDepth 100000 in
/-- ashlarref3.Sub. -/
theorem rpSub_any {w : World} {N M : Nat} {p q : Option Addr} {n nc m mc : Nat} {es0 fs0 : List Ent} {zs ys : List Int} (h : PR w N p n nc es0 zs) (h' : PR w M q m mc fs0 ys) (hn : n ≤ 100000) (hm : m ≤ 100000) (hN : N ≤ 390) (hM : M ≤ 390) (hN4 : 4 ≤ N) :
    Calls Tryz.prog 18 #[.slice p n nc, .slice q m mc] w (PrP (tr (pz (· - ·) zs ys)) (N + M + 6) w) := by
  have HT := (show Hid (tr (pz (· + ·) zs (tr (ys.map (-1 * ·)))) = tr (pz (· - ·) zs ys)) from pz_sub zs ys)
  have hyl := h'.zl
  go_enter Tryz.func18, Tryz.ntmps18
  go_wp2_with fail
  refine (rOf_n (-1) _ (by decide) (by decide)).mono ?_
  rintro e w1 ⟨u, rfl, hu, hF, hb1⟩
  go_wp2_with fail
  refine (rpScale_any (h'.below hb1) hu hm (by omega) (by decide)).mono ?_
  rintro e w2 ⟨p2, n2, es2, rfl, h2, hF2, hn2, hb2⟩
  have hn2' : n2 ≤ 100000 := by
    have h3 := h2.zl
    rw [length_tr] at h3
    have h4 := tlen_le (ys.map (-1 * ·))
    rw [List.length_map] at h4
    omega
  go_wp2_with fail
  refine (rpAdd_any (h.below (bnext' hb1 hb2)) h2 hn hn2' (by omega) (by omega) hN4 (by omega)).mono ?_
  rintro e w3 ⟨p3, n3, es3, rfl, h3, hF3, hn3, hb3⟩
  have HP : Hid (PR w3 (N + M + 6) p3 n3 n3 es3 (tr (pz (· - ·) zs ys)) ∧ tlen (tr (pz (· - ·) zs ys)) = n3) := by
    rw [HT.out] at h3 hn3
    exact ⟨⟨h3.el, h3.zl, h3.cap, h3.bnd, h3.pl, fun j hj => (h3.ev j hj).wide (by omega)⟩, hn3⟩
  have hs := (bnext' hb1 hb2).size
  have hB := bnext' (bnext' hb1 hb2) hb3
  clear h3 hn3 h2 hu h h'
  go_wp2
  go_ret
  exact ⟨p3, n3, es3, rfl, HP.out.1, fun a ha => Nat.le_trans hs (hF3 a ha), HP.out.2, hB⟩
end Go.Proofs.YtgecfnoecmjacaaGreatDoor
/-
  Plain facts on products of polynomials: over sums, values, derivatives; sizes in bits.
-/
namespace Go.Proofs.YtgecfnoecmjacaaGreatDoor
open Go.RowKit
set_option linter.unusedVariables false
set_option linter.unusedSimpArgs false

theorem ps_past (zs ys : List Int) (t : Nat) : ∀ m, ps zs ys (zs.length + m) t = ps zs ys zs.length t
  | 0 => rfl
  | m + 1 => by rw [← Nat.add_assoc, ps_none zs ys _ t (gx_past zs _ (Nat.le_refl _) _ (by omega)), ps_past zs ys t m]
theorem ps_late (zs ys : List Int) (t : Nat) : ∀ m, ps zs ys (t + 1 + m) t = ps zs ys (t + 1) t
  | 0 => rfl
  | m + 1 => by
    rw [← Nat.add_assoc, ps, ps_late zs ys t m, if_neg (by omega), Int.add_zero]
theorem ps_nil (zs : List Int) (t : Nat) : ∀ i, ps zs [] i t = 0
  | 0 => rfl
  | i + 1 => by rw [ps, ps_nil zs t i]; simp [gx]
/-- A product's entry. -/
theorem gx_mulp (zs ys : List Int) (t : Nat) : gx (mulp zs ys) t = ps zs ys (t + 1) t := by
  have h0 : ps zs ys (t + 1) t = ps zs ys zs.length t := by
    have h1 := ps_late zs ys t (zs.length)
    have h2 := ps_past zs ys t (t + 1)
    rw [Nat.add_comm] at h2
    rw [← h1, h2]
  rw [h0, mulp]
  by_cases h : zs.length = 0 ∨ ys.length = 0
  · rw [if_pos h]
    rcases h with h | h
    · rw [h]; rfl
    · rw [List.eq_nil_of_length_eq_zero h, ps_nil]; rfl
  · rw [if_neg h]
    rcases Nat.lt_or_ge t (zs.length + ys.length - 1) with h1 | h1
    · rw [gx_mulz _ _ _ h1]
    · rw [gx_past _ (zs.length + ys.length - 1) (by rw [length_mulz]; exact Nat.le_refl _) t h1, ps_far zs ys t zs.length (by omega)]
theorem ps_sum {zs a b c : List Int} (h : ∀ j, gx a j = gx b j + gx c j) (t : Nat) : ∀ i, ps zs a i t = ps zs b i t + ps zs c i t
  | 0 => rfl
  | i + 1 => by
    rw [ps, ps, ps, ps_sum h t i]
    split
    · rw [h, Int.mul_add]; omega
    · omega
theorem ps_same {zs zs' ys ys' : List Int} (h : ∀ j, gx zs j = gx zs' j) (k : ∀ j, gx ys j = gx ys' j) (t : Nat) : ∀ i, ps zs ys i t = ps zs' ys' i t
  | 0 => rfl
  | i + 1 => by rw [ps, ps, ps_same h k t i, h, k]
/-- A product goes over a sum. -/
theorem mulp_sum (zs ys ws : List Int) : tr (mulp (tr zs) (tr (tr (pz (· + ·) (tr ys) (tr ws))))) = tr (tr (pz (· + ·) (tr (mulp (tr zs) (tr ys))) (tr (mulp (tr zs) (tr ws))))) := by
  refine tr_same fun t => ?_
  rw [gx_mulp, gx_tr, gx_pz0 _ rfl, gx_tr, gx_tr, gx_mulp, gx_mulp]
  exact ps_sum (fun j => by rw [gx_tr, gx_tr, gx_pz0 _ rfl]) t _
/-- The value as a sum. -/
def evf (x : Int) (f : Nat → Int) : Nat → Int
  | 0 => 0
  | k + 1 => evf x f k + f k * x ^ k
theorem evf_cons (x c : Int) (cs : List Int) : ∀ k, evf x (gx (c :: cs)) (k + 1) = c + x * evf x (gx cs) k
  | 0 => by simp [evf, gx]
  | k + 1 => by
    rw [evf, evf_cons x c cs k, evf]
    have h1 : gx (c :: cs) (k + 1) = gx cs k := by simp [gx]
    rw [h1, Int.pow_succ]
    grind
theorem evz_evf (x : Int) : ∀ zs, evz x zs = evf x (gx zs) zs.length
  | [] => rfl
  | c :: cs => by
    rw [evz, List.length_cons, evf_cons, evz_evf x cs]
    grind
theorem evf_congr (x : Int) {f g : Nat → Int} : ∀ k, (∀ j, j < k → f j = g j) → evf x f k = evf x g k
  | 0, _ => rfl
  | k + 1, h => by rw [evf, evf, evf_congr x k (fun j hj => h j (by omega)), h k (by omega)]
theorem evf_zero (x : Int) : ∀ k, evf x (fun _ => 0) k = 0
  | 0 => rfl
  | k + 1 => by rw [evf, evf_zero x k]; simp
theorem evf_add (x : Int) (f g : Nat → Int) : ∀ k, evf x (fun j => f j + g j) k = evf x f k + evf x g k
  | 0 => rfl
  | k + 1 => by
    rw [evf, evf, evf, evf_add x f g k, Int.add_mul]
    omega
theorem evf_more (x : Int) (f : Nat → Int) (k : Nat) (h : ∀ j, k ≤ j → f j = 0) : ∀ m, evf x f (k + m) = evf x f k
  | 0 => rfl
  | m + 1 => by rw [← Nat.add_assoc, evf, evf_more x f k h m, h (k + m) (by omega)]; simp
theorem evf_shift (x : Int) (z : Int) (f : Nat → Int) (i : Nat) : ∀ k, evf x (fun t => if i ≤ t then z * f (t - i) else 0) (i + k) = z * x ^ i * evf x f k
  | 0 => by
    have h : ∀ j, j < i + 0 → (fun t => if i ≤ t then z * f (t - i) else 0) j = (fun _ => 0) j := fun j hj => by simp; omega
    rw [evf_congr x _ h, evf_zero, evf, Int.mul_zero]
  | k + 1 => by
    rw [← Nat.add_assoc, evf, evf_shift x z f i k, evf]
    simp only [Nat.le_add_right, if_true, Nat.add_sub_cancel_left]
    rw [Int.pow_add]
    grind
theorem evf_mul (x : Int) (zs ys : List Int) (T : Nat) : ∀ i, i + ys.length ≤ T + 1 → evf x (ps zs ys i) T = evf x (gx zs) i * evf x (gx ys) ys.length
  | 0, _ => by
    show evf x (fun _ => 0) T = _
    rw [evf_zero, evf, Int.zero_mul]
  | i + 1, h => by
    have h1 : ∀ j, j < T → ps zs ys (i + 1) j = (fun t => ps zs ys i t + (if i ≤ t then gx zs i * gx ys (t - i) else 0)) j := fun j _ => rfl
    have hT : T = i + (T - i) := by omega
    have hk : evf x (gx ys) (T - i) = evf x (gx ys) ys.length := by
      have := evf_more x (gx ys) ys.length (fun j hj => gx_past ys _ (Nat.le_refl _) j hj) (T - i - ys.length)
      rwa [show ys.length + (T - i - ys.length) = T - i by omega] at this
    have hs := evf_shift x (gx zs i) (gx ys) i (T - i)
    rw [← hT, hk] at hs
    rw [evf_congr x T h1, evf_add, evf_mul x zs ys T i (by omega), hs, evf, Int.add_mul]
/-- Values multiply. -/
theorem evz_mulp (x : Int) (zs ys : List Int) : evz x (mulp zs ys) = evz x zs * evz x ys := by
  rw [mulp]
  by_cases h : zs.length = 0 ∨ ys.length = 0
  · rw [if_pos h]
    rcases h with h | h
    · rw [List.eq_nil_of_length_eq_zero h]; simp [evz]
    · rw [List.eq_nil_of_length_eq_zero h]; simp [evz]
  · rw [if_neg h, evz_evf, evz_evf, evz_evf, length_mulz, evf_congr x _ (fun j hj => gx_mulz zs ys j hj), evf_mul x zs ys _ zs.length (by omega)]
theorem gx_derz' (zs : List Int) (j : Nat) : gx (derz zs) j = ((j : Int) + 1) * gx zs (j + 1) := by
  rcases Nat.lt_or_ge j (zs.length - 1) with h | h
  · exact gx_derz zs j h
  · rw [gx_past _ (zs.length - 1) (by rw [length_derz]; exact Nat.le_refl _) j h, gx_past zs zs.length (Nat.le_refl _) (j + 1) (by omega), Int.mul_zero]
theorem rule_step (zs ys : List Int) (t : Nat) : ∀ n, n ≤ t + 1 → ((t : Int) + 1) * ps zs ys n (t + 1) + (n : Int) * (gx zs n * gx ys (t + 1 - n)) = ps (derz zs) ys n t + ps zs (derz ys) n t
  | 0, _ => by simp [ps]
  | n + 1, h => by
    have ih := rule_step zs ys t n (by omega)
    rw [ps, ps, ps, if_pos (by omega), if_pos (by omega), if_pos (by omega), gx_derz', gx_derz', show t - n + 1 = t + 1 - n by omega, show t + 1 - (n + 1) = t - n by omega]
    have e : ((t - n : Nat) : Int) = (t : Int) - (n : Int) := by omega
    rw [e]
    generalize gx zs n = a at *
    generalize gx zs (n + 1) = b at *
    generalize gx ys (t + 1 - n) = c at *
    generalize gx ys (t - n) = d at *
    push_cast
    grind
/-- The derivative of a product. -/
theorem derz_mulp (zs ys : List Int) (t : Nat) : gx (derz (mulp zs ys)) t = gx (mulp (derz zs) ys) t + gx (mulp zs (derz ys)) t := by
  rw [gx_derz', gx_mulp, gx_mulp, gx_mulp, ← rule_step zs ys t (t + 1) (Nat.le_refl _), ps, if_pos (Nat.le_refl _)]
  push_cast
  grind
theorem mulp_rule (zs ys : List Int) : tr (derz (tr (mulp (tr zs) (tr ys)))) = tr (tr (pz (· + ·) (tr (mulp (tr (derz (tr zs))) (tr ys))) (tr (mulp (tr zs) (tr (derz (tr ys))))))) := by
  refine tr_same fun t => ?_
  rw [gx_tr, gx_pz0 _ rfl, gx_tr, gx_tr]
  have h1 : gx (derz (tr (mulp (tr zs) (tr ys)))) t = gx (derz (mulp (tr zs) (tr ys))) t := by rw [gx_derz', gx_derz', gx_tr]
  have h2 : gx (mulp (tr (derz (tr zs))) (tr ys)) t = gx (mulp (derz (tr zs)) (tr ys)) t := by
    rw [gx_mulp, gx_mulp]; exact ps_same (fun j => gx_tr _ j) (fun _ => rfl) t _
  have h3 : gx (mulp (tr zs) (tr (derz (tr ys)))) t = gx (mulp (tr zs) (derz (tr ys))) t := by
    rw [gx_mulp, gx_mulp]; exact ps_same (fun _ => rfl) (fun j => gx_tr _ j) t _
  rw [h1, h2, h3, derz_mulp]
theorem zb_le_of {z : Int} {b : Nat} (h : (z.natAbs : Int) < 2 ^ b) : zb z ≤ b := by
  rcases Nat.lt_or_ge b (zb z) with h1 | h1
  · exfalso
    have h2 := p2_mono (show b ≤ zb z - 1 by omega)
    rcases (zb_ib z).2.2 with h3 | h3
    · omega
    · omega
  · exact h1
theorem pb_of {zs : List Int} {b : Nat} (h : ∀ j, ((gx zs j).natAbs : Int) < 2 ^ b) : pb zs ≤ b := by
  have := pb_le_of zs b (fun j _ => zb_le_of (h j)) zs.length (Nat.le_refl _)
  rwa [List.take_length] at this
end Go.Proofs.YtgecfnoecmjacaaGreatDoor
/-
  upoly.Eval.
-/
namespace Go.Proofs.YtgecfnoecmjacaaGreatDoor
open Go.RowKit
set_option linter.unusedVariables false
set_option linter.unusedSimpArgs false

set_option maxHeartbeats 4000000 in
set_option maxRecDepth 100000 in
/-- upoly.Eval. -/
theorem uEval_any {w : World} {K L : Nat} {p : Option Addr} {n nc : Nat} {es : List Ent} {zs : List Int} {x : Int} {e : Ent} (h : PA w K p n nc es zs) (hx : EV w L x e) (hn : n ≤ 1000) (hL : L ≤ 500) (hK : K + tlen zs * (L + 1) < 80) :
    Calls Tryz.prog 37 #[.slice p n nc, .agg #[.bool e.s, .slice e.p e.n e.c]] w fun r w' => ∃ u : Ent, r = .returned (.agg #[.bool u.s, .slice u.p u.n u.c]) ∧ NV w.heap.size w' (K + tlen zs * (L + 1)) (evz x (tr zs)) u ∧ Below w.heap.size w w' := by
  have HX : Hid (PA w K p n nc es zs ∧ EV w L x e ∧ K + tlen zs * (L + 1) < 80) := ⟨h, hx, hK⟩
  clear h hx hK
  go_enter Tryz.func37, Tryz.ntmps37
  go_wp2_with fail
  have hal := bel_al (o := .cells #[.bool false, .slice none 0 0] 26) (bel_al (o := .cells #[.bool e.s, .slice e.p e.n e.c] 26) (Below.refl w.heap.size w))
  have hR : Bx ((w.alloc (.cells #[.bool e.s, .slice e.p e.n e.c] 26)).alloc (.cells #[.bool false, .slice none 0 0] 26)) (w.heap.size + 1) (.bool false) (.slice none 0 0) := Bx.new _ _ _ (by simp)
  generalize (w.alloc (.cells #[.bool e.s, .slice e.p e.n e.c] 26)).alloc (.cells #[.bool false, .slice none 0 0] 26) = W at *
  refine (bare_any (HX.out.2.1.below hal) (by omega)).mono ?_
  rintro r w1 ⟨f, rfl, hf1, hf2, hf3, hb1⟩
  have HF : Hid (EV w1 L x f) := hf3.ev
  have hR1 := hR.later hb1
  have hB1 := bnext' hal hb1
  clear hal hb1 hR hf1 hf2 hf3
  go_wp2_with fail
  have hal2 := bel_al (o := .cells #[.bool f.s, .slice f.p f.n f.c] 97) (Below.refl w1.heap.size w1)
  have hbx : Bx (w1.alloc (.cells #[.bool f.s, .slice f.p f.n f.c] 97)) w1.heap.size (.bool f.s) (.slice f.p f.n f.c) := Bx.new _ _ _ rfl
  have hR2 := hR1.later hal2
  have hB2 := bnext' hB1 hal2
  have hF2 := HF.out.below hal2
  have hg1 : w.heap.size + 1 < w1.heap.size := block_lt_of_cell hR1.c0
  clear hal2 hR1 hB1 HF
  generalize w1.alloc (.cells #[.bool f.s, .slice f.p f.n f.c] 97) = W2 at *
  generalize w1.heap.size = g at *
  have hg2 : ¬ g = w.heap.size + 1 := by omega
  have hg3 : ¬ w.heap.size + 1 = g := by omega
  obtain ⟨k0, k1, -, -⟩ := id hbx
  obtain ⟨r0, r1, f0, f1⟩ := id hR2
  have hpa := HX.out.1.below hB2
  have htl := tlen_le zs
  have hzl := HX.out.1.zl
  have hlt : w.heap.size + 1 < W2.heap.size := block_lt_of_cell r0
  go_region_held3 (fun w' => w'.cell? ⟨g, 0, none⟩ = some (.bool f.s) ∧ w'.cell? ⟨g, 1, none⟩ = some (.slice f.p f.n f.c)) (first | with_reducible exact ⟨k0, k1⟩ | with_reducible exact ⟨a0, a1⟩ | with_reducible exact ⟨b0, b1⟩ | (simp [go_sem, *]; done)) (first
    | (go_at_call 64; go_fit (read_any K p n nc es zs _ (hpa.below (Below.refl _ _).drew) (by omega) (by have := HX.out.2.2; omega)); rintro r v1 ⟨p1, n1, e1, rfl, hP1, hb1⟩; have hB3 := undrew hb1; have a0 := cell_later hB3 k0; have a1 := cell_later hB3 k1; have hn1 := hP1.zl)
    | (go_at_call 81; go_fit (hornerI_any (hP1.pa (by rw [length_tr] at hn1; omega)) (hF2.below hB3) (by rw [length_tr] at hn1; omega) hL (by rw [← hn1, length_tr]; exact HX.out.2.2)); rintro r v2 ⟨u, rfl, hu, hb2⟩; obtain ⟨z0, z1, y0, y1⟩ := (hR2.later hB3).later hb2; have b0 := cell_later hb2 a0; have b1 := cell_later hb2 a1))
  all_goals
    rw [← hn1, length_tr] at hu
    have hs := hB3.size
    have hs2 := hB2.size
    go_wp2
    refine bodyPost_ret (v := .agg #[.bool u.s, .slice u.p u.n u.c]) (by simp [results, Tryz.results37, go_sem, z0, z1]) rfl ⟨u, rfl, ?_, ?_⟩
    · exact (hu.set2 (o := 0) (by omega) _ _).mono (by omega)
    · exact bset2 (bnext' (bnext' hB2 hB3) hb2) (by omega) _ _
end Go.Proofs.YtgecfnoecmjacaaGreatDoor
/-
  upoly.Sub, Lead.
-/
namespace Go.Proofs.YtgecfnoecmjacaaGreatDoor
open Go.RowKit
set_option linter.unusedVariables false
set_option linter.unusedSimpArgs false

theorem callSub' (args : Array Value) (w' : World) : Sem.run Tryz.prog (callFunc 61 args) w' = .ok (.enter 61 args) w' := by
  have h1 : ¬ Tryz.f61.name = "runtime.NumGoroutine" := of_decide_eq_false (by kernel_rfl)
  have h2 : ¬ Tryz.f61.body = none := fun h => by cases h
  simp only [callFunc, Tryz.func61, go_sem]
  simp [h1, h2, go_sem]
set_option maxHeartbeats 2000000 in
/-- upoly.Sub. -/
theorem uSub_any {w : World} {K L : Nat} {p q : Option Addr} {n nc m mc : Nat} {es fs : List Ent} {zs ys : List Int} (h : PA w K p n nc es zs) (k : PA w L q m mc fs ys) (hn : n ≤ 1000000) (hm : m ≤ 1000000) (hM : K + L + 1 ≤ 1000) :
    Calls Tryz.prog 17 #[.slice p n nc, .slice q m mc] w (PnP (tr (pz (· - ·) (tr zs) (tr ys))) (K + L + 1) w) := by
  have hc := fun w' (h : PA w' K p n nc es zs) (k : PA w' L q m mc fs ys) => ucombine_any h k hn hm hM 61 callSub' (· - ·) (fun w' x y e f h k => Sub_ev h k)
  go_enter Tryz.func17, Tryz.ntmps17
  go_wp2_with fail
  refine (hc w h k).mono ?_
  rintro e w1 ⟨p1, n1, e1, rfl, h1, h2⟩
  clear hc
  go_wp2
  go_ret
  exact ⟨p1, n1, e1, rfl, h1, h2⟩
set_option maxHeartbeats 2000000 in
set_option maxRecDepth 100000 in
/-- upoly.Lead. -/
theorem uLead_any {w : World} {K : Nat} {p : Option Addr} {n nc : Nat} {es : List Ent} {zs : List Int} (h : PA w K p n nc es zs) (hn : n ≤ 1000000) (hK : K ≤ 1000) :
    Calls Tryz.prog 27 #[.slice p n nc] w fun r w' => ∃ f : Ent, r = .returned (.agg #[.bool f.s, .slice f.p f.n f.c]) ∧ NV w.heap.size w' K (gx zs (tlen zs - 1)) f ∧ Below w.heap.size w w' := by
  have htl := tlen_le zs
  have hzl := h.zl
  have hel := h.el
  have hal := bel_al (o := .cells #[.bool false, .slice none 0 0] 26) (Below.refl w.heap.size w)
  have hR0 : Bx (w.alloc (.cells #[.bool false, .slice none 0 0] 26)) w.heap.size (.bool false) (.slice none 0 0) := Bx.new _ _ _ rfl
  go_enter Tryz.func27, Tryz.ntmps27
  go_wp2_with fail
  generalize w.alloc (.cells #[.bool false, .slice none 0 0] 26) = w0 at *
  refine (utrim_any K p n nc es zs _ (h.below hal) hn).mono ?_
  rintro e w1 ⟨rfl, hb1⟩
  have hb := bnext' hal hb1
  have hR1 := hR0.later hb1
  obtain ⟨r0, r1, f0, f1⟩ := hR1
  have h1 := h.below hb
  by_cases h0 : tlen zs = 0
  · have HZ : Hid (gx zs (tlen zs - 1) = 0) := tlen_zero zs _ (by omega)
    rw [h0]
    clear h0 htl
    go_wp2
    refine bodyPost_ret (v := .agg #[.bool false, .slice none 0 0]) (by simp [results, Tryz.results27, go_sem, r0, r1]) rfl ⟨ez, rfl, ?_, Bel_st (Bel_st hb (Nat.le_refl _)) (Nat.le_refl _)⟩
    rw [HZ.out]
    exact NV.ez _ _ K
  · obtain ⟨b, o, hp, hc⟩ := h1.pl (by omega)
    obtain ⟨j, hj⟩ : ∃ j, tlen zs = j + 1 := ⟨tlen zs - 1, by omega⟩
    obtain ⟨c0, c1⟩ := hc j (by omega)
    have hv := h1.ev j (by omega)
    have sb : b < w1.heap.size := block_lt_of_cell c0
    have e1 : tlen zs - 1 = j := by omega
    subst hp
    have HE : Hid (tlen zs - 1 = j) := e1
    clear hc h1 h e1
    rw [hj]
    have HJ : Hid (tlen zs = j + 1) := hj
    have hj1 : j + 1 ≤ n := by omega
    clear hj h0 htl
    have g1 : (((j + 1 : Nat) : Int) == 0) = false := by rw [beq_eq_false_iff_ne]; omega
    have v1 : ((j + 1 : Nat) : Int) - 1 = (j : Int) := by omega
    have v2 : IntKind.i64.wrap (j : Int) = (j : Int) := by rw [IntKind.wrap_i64]; omega
    go_wp2_with fail
    refine (own_any hv hK).mono ?_
    rintro e w2 ⟨f, rfl, hf, hb2⟩
    have hb3 := bnext' hb hb2
    have hs := hb.size
    have hlt : w.heap.size < w1.heap.size := block_lt_of_cell r0
    obtain ⟨s0, s1, t0, t1⟩ := (hR0.later hb1).later hb2
    clear hb1 hb2 hv c0 c1 r0 r1 f0 f1 hR0 hal
    go_wp2
    refine bodyPost_ret (v := .agg #[.bool f.s, .slice f.p f.n f.c]) (by simp [results, Tryz.results27, go_sem, s0, s1]) rfl ⟨f, rfl, ?_, Bel_st (Bel_st hb3 (Nat.le_refl _)) (Nat.le_refl _)⟩
    rw [HE.out]
    exact (NV_st3 hf.frm hlt (NV_st3 hf.frm hlt hf)).mono hs
end Go.Proofs.YtgecfnoecmjacaaGreatDoor
