/-
  Plain: lists that read alike; ashlarref1.Of for entries below 0.
-/
import Derived.Test.YtakfimhpnpapdaaGreatDoorRkVq
import Derived.Test.YtakfimhpnpapdaaGreatDoorPzDdVvWx
import Derived.Test.YtakfimhpnpapdaaGreatDoorUbUcUdOwRa
namespace Go.Proofs.YtakfimhpnpapdaaGreatDoor
open Go.RowKit
set_option linter.unusedVariables false
set_option linter.unusedSimpArgs false

theorem tlen_same {a b : List Int} (h : ∀ j, gx a j = gx b j) : tlen a = tlen b := by
  refine tlen_eq _ _ (fun j hj => by rw [h]; exact tlen_zero b j hj) ?_
  rcases Nat.eq_zero_or_pos (tlen b) with h0 | h0
  · exact .inl h0
  · exact .inr (by rw [h]; exact tlen_top b h0)
theorem tr_same {a b : List Int} (h : ∀ j, gx a j = gx b j) : tr a = tr b := by
  refine gx_ext _ _ (by rw [length_tr, length_tr, tlen_same h]) fun j hj => ?_
  rw [gx_tr, gx_tr, h]
theorem gx_pz0 (op : Int → Int → Int) (h0 : op 0 0 = 0) (zs ys : List Int) (j : Nat) : gx (pz op zs ys) j = op (gx zs j) (gx ys j) := by
  rcases Nat.lt_or_ge j (max zs.length ys.length) with h | h
  · exact gx_pz' op zs ys j h
  · rw [gx_past _ (max zs.length ys.length) (by rw [length_pz]; exact Nat.le_refl _) j h, gx_past zs zs.length (Nat.le_refl _) j (by omega), gx_past ys ys.length (Nat.le_refl _) j (by omega), h0]
theorem pz_sub (zs ys : List Int) : tr (pz (· + ·) zs (tr (ys.map (-1 * ·)))) = tr (pz (· - ·) zs ys) := by
  refine tr_same fun j => ?_
  rw [gx_pz0 _ rfl, gx_pz0 _ rfl, gx_tr, gx_map0 (-1 * ·) rfl]
  omega
theorem rOf_n (a : Int) (w : World) (h0 : -9223372036854775808 ≤ a) (h1 : a ≤ 9223372036854775807) :
    Calls Tryz.prog 42 #[.int .i64 a] w fun r w' => ∃ u : Ent, r = .returned (.agg #[.bool u.s, .slice u.p u.n u.c]) ∧ RE w' 4 a u ∧ Go.Proofs.YtakfimhpnpapdaaGreatDoor.From w.heap.size u.p ∧ Below w.heap.size w w' := by
  refine (rOf_any a w h0 h1).mono ?_
  rintro e w1 ⟨s1, p1, n1, d1, rfl, hR1, hv1, hn1, hF1, hb1⟩
  exact ⟨⟨s1, p1, n1, n1⟩, rfl, ⟨⟨d1, hR1, hv1, hn1⟩, rfl⟩, hF1, hb1⟩
end Go.Proofs.YtakfimhpnpapdaaGreatDoor
/-
  Plain facts on products of polynomials: over sums, values, derivatives; sizes in bits.
-/
namespace Go.Proofs.YtakfimhpnpapdaaGreatDoor
open Go.RowKit
set_option linter.unusedVariables false
set_option linter.unusedSimpArgs false

theorem ps_past (zs ys : List Int) (t : Nat) : ∀ m, ps zs ys (zs.length + m) t = ps zs ys zs.length t
  | 0 => rfl
  | m + 1 => by rw [← Nat.add_assoc, ps_none zs ys _ t (gx_past zs _ (Nat.le_refl _) _ (by omega)), ps_past zs ys t m]
theorem ps_late (zs ys : List Int) (t : Nat) : ∀ m, ps zs ys (t + 1 + m) t = ps zs ys (t + 1) t
  | 0 => rfl
  | m + 1 => by
    rw [← Nat.add_assoc, ps, ps_late zs ys t m, if_neg (by omega), Int.add_zero]
theorem ps_nil (zs : List Int) (t : Nat) : ∀ i, ps zs [] i t = 0
  | 0 => rfl
  | i + 1 => by rw [ps, ps_nil zs t i]; simp [gx]
/-- A product's entry. -/
theorem gx_mulp (zs ys : List Int) (t : Nat) : gx (mulp zs ys) t = ps zs ys (t + 1) t := by
  have h0 : ps zs ys (t + 1) t = ps zs ys zs.length t := by
    have h1 := ps_late zs ys t (zs.length)
    have h2 := ps_past zs ys t (t + 1)
    rw [Nat.add_comm] at h2
    rw [← h1, h2]
  rw [h0, mulp]
  by_cases h : zs.length = 0 ∨ ys.length = 0
  · rw [if_pos h]
    rcases h with h | h
    · rw [h]; rfl
    · rw [List.eq_nil_of_length_eq_zero h, ps_nil]; rfl
  · rw [if_neg h]
    rcases Nat.lt_or_ge t (zs.length + ys.length - 1) with h1 | h1
    · rw [gx_mulz _ _ _ h1]
    · rw [gx_past _ (zs.length + ys.length - 1) (by rw [length_mulz]; exact Nat.le_refl _) t h1, ps_far zs ys t zs.length (by omega)]
theorem ps_sum {zs a b c : List Int} (h : ∀ j, gx a j = gx b j + gx c j) (t : Nat) : ∀ i, ps zs a i t = ps zs b i t + ps zs c i t
  | 0 => rfl
  | i + 1 => by
    rw [ps, ps, ps, ps_sum h t i]
    split
    · rw [h, Int.mul_add]; omega
    · omega
theorem ps_same {zs zs' ys ys' : List Int} (h : ∀ j, gx zs j = gx zs' j) (k : ∀ j, gx ys j = gx ys' j) (t : Nat) : ∀ i, ps zs ys i t = ps zs' ys' i t
  | 0 => rfl
  | i + 1 => by rw [ps, ps, ps_same h k t i, h, k]
/-- A product goes over a sum. -/
theorem mulp_sum (zs ys ws : List Int) : tr (mulp (tr zs) (tr (tr (pz (· + ·) (tr ys) (tr ws))))) = tr (tr (pz (· + ·) (tr (mulp (tr zs) (tr ys))) (tr (mulp (tr zs) (tr ws))))) := by
  refine tr_same fun t => ?_
  rw [gx_mulp, gx_tr, gx_pz0 _ rfl, gx_tr, gx_tr, gx_mulp, gx_mulp]
  exact ps_sum (fun j => by rw [gx_tr, gx_tr, gx_pz0 _ rfl]) t _
/-- The value as a sum. -/
def evf (x : Int) (f : Nat → Int) : Nat → Int
  | 0 => 0
  | k + 1 => evf x f k + f k * x ^ k
theorem evf_cons (x c : Int) (cs : List Int) : ∀ k, evf x (gx (c :: cs)) (k + 1) = c + x * evf x (gx cs) k
  | 0 => by simp [evf, gx]
  | k + 1 => by
    rw [evf, evf_cons x c cs k, evf]
    have h1 : gx (c :: cs) (k + 1) = gx cs k := by simp [gx]
    rw [h1, Int.pow_succ]
    grind
theorem evz_evf (x : Int) : ∀ zs, evz x zs = evf x (gx zs) zs.length
  | [] => rfl
  | c :: cs => by
    rw [evz, List.length_cons, evf_cons, evz_evf x cs]
    grind
theorem evf_congr (x : Int) {f g : Nat → Int} : ∀ k, (∀ j, j < k → f j = g j) → evf x f k = evf x g k
  | 0, _ => rfl
  | k + 1, h => by rw [evf, evf, evf_congr x k (fun j hj => h j (by omega)), h k (by omega)]
theorem evf_zero (x : Int) : ∀ k, evf x (fun _ => 0) k = 0
  | 0 => rfl
  | k + 1 => by rw [evf, evf_zero x k]; simp
theorem evf_add (x : Int) (f g : Nat → Int) : ∀ k, evf x (fun j => f j + g j) k = evf x f k + evf x g k
  | 0 => rfl
  | k + 1 => by
    rw [evf, evf, evf, evf_add x f g k, Int.add_mul]
    omega
theorem evf_more (x : Int) (f : Nat → Int) (k : Nat) (h : ∀ j, k ≤ j → f j = 0) : ∀ m, evf x f (k + m) = evf x f k
  | 0 => rfl
  | m + 1 => by rw [← Nat.add_assoc, evf, evf_more x f k h m, h (k + m) (by omega)]; simp
theorem evf_shift (x : Int) (z : Int) (f : Nat → Int) (i : Nat) : ∀ k, evf x (fun t => if i ≤ t then z * f (t - i) else 0) (i + k) = z * x ^ i * evf x f k
  | 0 => by
    have h : ∀ j, j < i + 0 → (fun t => if i ≤ t then z * f (t - i) else 0) j = (fun _ => 0) j := fun j hj => by simp; omega
    rw [evf_congr x _ h, evf_zero, evf, Int.mul_zero]
  | k + 1 => by
    rw [← Nat.add_assoc, evf, evf_shift x z f i k, evf]
    simp only [Nat.le_add_right, if_true, Nat.add_sub_cancel_left]
    rw [Int.pow_add]
    grind
theorem evf_mul (x : Int) (zs ys : List Int) (T : Nat) : ∀ i, i + ys.length ≤ T + 1 → evf x (ps zs ys i) T = evf x (gx zs) i * evf x (gx ys) ys.length
  | 0, _ => by
    show evf x (fun _ => 0) T = _
    rw [evf_zero, evf, Int.zero_mul]
  | i + 1, h => by
    have h1 : ∀ j, j < T → ps zs ys (i + 1) j = (fun t => ps zs ys i t + (if i ≤ t then gx zs i * gx ys (t - i) else 0)) j := fun j _ => rfl
    have hT : T = i + (T - i) := by omega
    have hk : evf x (gx ys) (T - i) = evf x (gx ys) ys.length := by
      have := evf_more x (gx ys) ys.length (fun j hj => gx_past ys _ (Nat.le_refl _) j hj) (T - i - ys.length)
      rwa [show ys.length + (T - i - ys.length) = T - i by omega] at this
    have hs := evf_shift x (gx zs i) (gx ys) i (T - i)
    rw [← hT, hk] at hs
    rw [evf_congr x T h1, evf_add, evf_mul x zs ys T i (by omega), hs, evf, Int.add_mul]
/-- Values multiply. -/
theorem evz_mulp (x : Int) (zs ys : List Int) : evz x (mulp zs ys) = evz x zs * evz x ys := by
  rw [mulp]
  by_cases h : zs.length = 0 ∨ ys.length = 0
  · rw [if_pos h]
    rcases h with h | h
    · rw [List.eq_nil_of_length_eq_zero h]; simp [evz]
    · rw [List.eq_nil_of_length_eq_zero h]; simp [evz]
  · rw [if_neg h, evz_evf, evz_evf, evz_evf, length_mulz, evf_congr x _ (fun j hj => gx_mulz zs ys j hj), evf_mul x zs ys _ zs.length (by omega)]
theorem gx_derz' (zs : List Int) (j : Nat) : gx (derz zs) j = ((j : Int) + 1) * gx zs (j + 1) := by
  rcases Nat.lt_or_ge j (zs.length - 1) with h | h
  · exact gx_derz zs j h
  · rw [gx_past _ (zs.length - 1) (by rw [length_derz]; exact Nat.le_refl _) j h, gx_past zs zs.length (Nat.le_refl _) (j + 1) (by omega), Int.mul_zero]
theorem rule_step (zs ys : List Int) (t : Nat) : ∀ n, n ≤ t + 1 → ((t : Int) + 1) * ps zs ys n (t + 1) + (n : Int) * (gx zs n * gx ys (t + 1 - n)) = ps (derz zs) ys n t + ps zs (derz ys) n t
  | 0, _ => by simp [ps]
  | n + 1, h => by
    have ih := rule_step zs ys t n (by omega)
    rw [ps, ps, ps, if_pos (by omega), if_pos (by omega), if_pos (by omega), gx_derz', gx_derz', show t - n + 1 = t + 1 - n by omega, show t + 1 - (n + 1) = t - n by omega]
    have e : ((t - n : Nat) : Int) = (t : Int) - (n : Int) := by omega
    rw [e]
    generalize gx zs n = a at *
    generalize gx zs (n + 1) = b at *
    generalize gx ys (t + 1 - n) = c at *
    generalize gx ys (t - n) = d at *
    push_cast
    grind
/-- The derivative of a product. -/
theorem derz_mulp (zs ys : List Int) (t : Nat) : gx (derz (mulp zs ys)) t = gx (mulp (derz zs) ys) t + gx (mulp zs (derz ys)) t := by
  rw [gx_derz', gx_mulp, gx_mulp, gx_mulp, ← rule_step zs ys t (t + 1) (Nat.le_refl _), ps, if_pos (Nat.le_refl _)]
  push_cast
  grind
theorem mulp_rule (zs ys : List Int) : tr (derz (tr (mulp (tr zs) (tr ys)))) = tr (tr (pz (· + ·) (tr (mulp (tr (derz (tr zs))) (tr ys))) (tr (mulp (tr zs) (tr (derz (tr ys))))))) := by
  refine tr_same fun t => ?_
  rw [gx_tr, gx_pz0 _ rfl, gx_tr, gx_tr]
  have h1 : gx (derz (tr (mulp (tr zs) (tr ys)))) t = gx (derz (mulp (tr zs) (tr ys))) t := by rw [gx_derz', gx_derz', gx_tr]
  have h2 : gx (mulp (tr (derz (tr zs))) (tr ys)) t = gx (mulp (derz (tr zs)) (tr ys)) t := by
    rw [gx_mulp, gx_mulp]; exact ps_same (fun j => gx_tr _ j) (fun _ => rfl) t _
  have h3 : gx (mulp (tr zs) (tr (derz (tr ys)))) t = gx (mulp (tr zs) (derz (tr ys))) t := by
    rw [gx_mulp, gx_mulp]; exact ps_same (fun _ => rfl) (fun j => gx_tr _ j) t _
  rw [h1, h2, h3, derz_mulp]
theorem zb_le_of {z : Int} {b : Nat} (h : (z.natAbs : Int) < 2 ^ b) : zb z ≤ b := by
  rcases Nat.lt_or_ge b (zb z) with h1 | h1
  · exfalso
    have h2 := p2_mono (show b ≤ zb z - 1 by omega)
    rcases (zb_ib z).2.2 with h3 | h3
    · omega
    · omega
  · exact h1
theorem pb_of {zs : List Int} {b : Nat} (h : ∀ j, ((gx zs j).natAbs : Int) < 2 ^ b) : pb zs ≤ b := by
  have := pb_le_of zs b (fun j _ => zb_le_of (h j)) zs.length (Nat.le_refl _)
  rwa [List.take_length] at this
end Go.Proofs.YtakfimhpnpapdaaGreatDoor
/-
  ashlarlaw1.Cut: the lowest 24 limbs, in memory of their own.
-/
namespace Go.Proofs.YtakfimhpnpapdaaGreatDoor
open Go.RowKit
set_option linter.unusedVariables false
set_option linter.unusedSimpArgs false

/-- What Cut answers. -/
def CutPost (s : Bool) (xs : List Int) (w : World) (e : Ending) (w' : World) : Prop :=
  ∃ p' n' nc', e = .returned (.agg #[.bool s, .slice p' n' nc']) ∧ AI w' p' n' nc' (xs.take 24) ∧ n' ≤ 24 ∧ From w.heap.size p' ∧ Below w.heap.size w w'

set_option maxHeartbeats 1000000 in
set_option maxRecDepth 100000 in
theorem Cut_some (s : Bool) (b off n nc k : Nat) (xs : List Int) (w : World) (hl : xs.length = n) (hnc : n ≤ nc) (hb : nc ≤ maxLen) (hX : Rd w (some ⟨b, off, none⟩) .u32 xs) (hU : U32 xs) (hk : k = min n 24) (hk0 : 0 < k) :
    Calls Tryz.prog 40 #[.agg #[.bool s, .slice (some ⟨b, off, none⟩) n nc]] w (CutPost s xs w) := by
  have hb' := hb
  unfold maxLen at hb'
  obtain ⟨i0, hi, hzz⟩ := Option.map_eq_some_iff.1 info_u32
  simp only [Prod.mk.injEq] at hzz
  obtain ⟨hz0, hz1, hz2⟩ := hzz
  have HI : Hid (Tryz.prog.info? 26 = some i0 ∧ i0.zero = some (.int .u32 0) ∧ i0.size = 1 ∧ i0.bytes = 4) := ⟨hi, hz0, hz1, hz2⟩
  clear hi hz0 hz1 hz2
  have HX : Hid (k = min n 24) := hk
  clear hk
  by_cases hn : 24 < n
  · have hn' : 24 < (n : Int) := by omega
    have h24 : (24 : Int) ≤ (nc : Int) := by omega
    have h24n : 24 ≤ nc := by omega
    have h24m : (24 : Int) ≤ (n : Int) := by omega
    obtain rfl : k = 24 := by have := HX.out; omega
    go_enter Tryz.func40, Tryz.ntmps40
    go_wp2
    have hb1 : Bx ((w.alloc (.cells #[.bool s, .slice (some ⟨b, off, none⟩) n nc] 29)).alloc (.cells #[.bool false, .slice none 0 0] 29)) w.heap.size (.bool s) (.slice (some ⟨b, off, none⟩) n nc) := (Bx.new _ _ _ rfl).alloc _
    have hb2 : Bx ((w.alloc (.cells #[.bool s, .slice (some ⟨b, off, none⟩) n nc] 29)).alloc (.cells #[.bool false, .slice none 0 0] 29)) (w.heap.size + 1) (.bool false) (.slice none 0 0) := Bx.new _ _ _ (World.size_alloc ..).symm
    have hbw : Below w.heap.size w ((w.alloc (.cells #[.bool s, .slice (some ⟨b, off, none⟩) n nc] 29)).alloc (.cells #[.bool false, .slice none 0 0] 29)) := ((Below.refl _ _).alloc (Nat.le_refl _) _).alloc (by simp) _
    have hsz : ((w.alloc (.cells #[.bool s, .slice (some ⟨b, off, none⟩) n nc] 29)).alloc (.cells #[.bool false, .slice none 0 0] 29)).heap.size = w.heap.size + 1 + 1 := by simp
    generalize ((w.alloc (.cells #[.bool s, .slice (some ⟨b, off, none⟩) n nc] 29)).alloc (.cells #[.bool false, .slice none 0 0] 29)) = W at *
    have HS : Hid (W.heap.size = w.heap.size + 1 + 1) := hsz
    clear hsz
    have k0 := hb1.c0
    have k1 := hb1.c1
    obtain ⟨hi, hz0, hz1, hz2⟩ := HI.out
    have hsrc : ∀ j v, ((xs.take 24).map (Value.int .u32))[j]? = some v → W.drew.cell? ((⟨b, off, none⟩ : Addr).add j) = some v := by
      obtain ⟨b', off', hp, hc⟩ := ((hX.below hbw).take 24).drew (by simp; omega)
      cases hp
      exact Rd.src hc
    go_region_held3 (fun w' => w'.cell? ⟨w.heap.size, 0, none⟩ = some (.bool s) ∧ w'.cell? ⟨w.heap.size, 1, none⟩ = some (.slice (some ⟨b, off, none⟩) n nc)) (first | (simp [go_sem, *]; done) | exact keepc2 (by assumption) (by assumption))
      (first
        | (refine step_append_lies _ rfl _ _ 27 rfl w.heap.size 26 i0 (.int .u32 0) 1 4 Tryz.underlying27 hi hz0 hz1 hz2 rfl (by decide) (.slice none 0 0) 0 [] rfl (World.ownsRow_nil _ _ _ _) ⟨b, off, none⟩ 24 nc ((xs.take 24).map (Value.int .u32)) rfl (by simp; omega) ?_ (oneCell_ca _ _) (by decide) (by unfold maxLen; decide) (by decide) hbw.size _ rfl ?_; exact hsrc; intro g cap w3 hown3 hgrow3 hat3 hlt3; have hb3 := below_of_grown (w := W.drew) hgrow3; obtain ⟨c0, c1, f0, f1⟩ := resbox (undrew hb3) hb2.c0 hb2.c1 hb2.f0 hb2.f1))
    go_wp2
    obtain rfl : g = W.heap.size := by rcases hat3 with h | h; cases h; exact h
    have hr3 : Rd w3 (some ⟨W.heap.size, 0, none⟩) .u32 (xs.take 24) := rd_owns (by simpa using hown3)
    have hs3 := HS.out
    have hcp : 24 ≤ cap ∧ cap ≤ maxLen := by
      rcases hown3.2 with ⟨h, _⟩ | ⟨g', cap', cur, h, _, _, h4, h5, _⟩
      · cases h
      · cases h; exact ⟨by omega, h5⟩
    refine bodyPost_ret (v := .agg #[.bool s, .slice (some ⟨W.heap.size, 0, none⟩) 24 cap]) (by simp [results, Tryz.results40, go_sem, c0, c1]) rfl ?_
    refine ⟨_, 24, cap, rfl, ⟨by simp; omega, hcp.1, hcp.2, by omega, ?_, u32_take hU 24⟩, by omega, from_new hbw.size, ?_⟩
    · skip
      exact (hr3.set_other _ _ (fun a ha => by cases ha; simp; omega)).set_other _ _ (fun a ha => by cases ha; simp; omega)
    · exact (((hbw.trans ((undrew hb3).mono hbw.size)).setCell (by simp) _).setCell (by simp) _)
  · have hn' : ¬ 24 < (n : Int) := by omega
    obtain rfl : k = n := by have := HX.out; omega
    have hkc : (k : Int) ≤ (nc : Int) := by omega
    have hk24 : k ≤ 24 := by omega
    go_enter Tryz.func40, Tryz.ntmps40
    go_wp2
    have hb1 : Bx ((w.alloc (.cells #[.bool s, .slice (some ⟨b, off, none⟩) k nc] 29)).alloc (.cells #[.bool false, .slice none 0 0] 29)) w.heap.size (.bool s) (.slice (some ⟨b, off, none⟩) k nc) := (Bx.new _ _ _ rfl).alloc _
    have hb2 : Bx ((w.alloc (.cells #[.bool s, .slice (some ⟨b, off, none⟩) k nc] 29)).alloc (.cells #[.bool false, .slice none 0 0] 29)) (w.heap.size + 1) (.bool false) (.slice none 0 0) := Bx.new _ _ _ (World.size_alloc ..).symm
    have hbw : Below w.heap.size w ((w.alloc (.cells #[.bool s, .slice (some ⟨b, off, none⟩) k nc] 29)).alloc (.cells #[.bool false, .slice none 0 0] 29)) := ((Below.refl _ _).alloc (Nat.le_refl _) _).alloc (by simp) _
    have hsz : ((w.alloc (.cells #[.bool s, .slice (some ⟨b, off, none⟩) k nc] 29)).alloc (.cells #[.bool false, .slice none 0 0] 29)).heap.size = w.heap.size + 1 + 1 := by simp
    generalize ((w.alloc (.cells #[.bool s, .slice (some ⟨b, off, none⟩) k nc] 29)).alloc (.cells #[.bool false, .slice none 0 0] 29)) = W at *
    have HS : Hid (W.heap.size = w.heap.size + 1 + 1) := hsz
    clear hsz
    have k0 := hb1.c0
    have k1 := hb1.c1
    obtain ⟨hi, hz0, hz1, hz2⟩ := HI.out
    have hsrc : ∀ j v, ((xs.take k).map (Value.int .u32))[j]? = some v → W.drew.cell? ((⟨b, off, none⟩ : Addr).add j) = some v := by
      obtain ⟨b', off', hp, hc⟩ := ((hX.below hbw).take k).drew (by simp; omega)
      cases hp
      exact Rd.src hc
    go_region_held3 (fun w' => w'.cell? ⟨w.heap.size, 0, none⟩ = some (.bool s) ∧ w'.cell? ⟨w.heap.size, 1, none⟩ = some (.slice (some ⟨b, off, none⟩) k nc)) (first | (simp [go_sem, *]; done) | exact keepc2 (by assumption) (by assumption))
      (first
        | (refine step_append_lies _ rfl _ _ 27 rfl w.heap.size 26 i0 (.int .u32 0) 1 4 Tryz.underlying27 hi hz0 hz1 hz2 rfl (by decide) (.slice none 0 0) 0 [] rfl (World.ownsRow_nil _ _ _ _) ⟨b, off, none⟩ k nc ((xs.take k).map (Value.int .u32)) rfl (by simp; omega) ?_ (oneCell_ca _ _) hk0 (by unfold maxLen; omega) (by omega) hbw.size _ rfl ?_; exact hsrc; intro g cap w3 hown3 hgrow3 hat3 hlt3; have hb3 := below_of_grown (w := W.drew) hgrow3; obtain ⟨c0, c1, f0, f1⟩ := resbox (undrew hb3) hb2.c0 hb2.c1 hb2.f0 hb2.f1))
    go_wp2
    obtain rfl : g = W.heap.size := by rcases hat3 with h | h; cases h; exact h
    have hr3 : Rd w3 (some ⟨W.heap.size, 0, none⟩) .u32 (xs.take k) := rd_owns (by simpa using hown3)
    have hs3 := HS.out
    have hcp : k ≤ cap ∧ cap ≤ maxLen := by
      rcases hown3.2 with ⟨h, _⟩ | ⟨g', cap', cur, h, _, _, h4, h5, _⟩
      · cases h
      · cases h; exact ⟨by omega, h5⟩
    refine bodyPost_ret (v := .agg #[.bool s, .slice (some ⟨W.heap.size, 0, none⟩) k cap]) (by simp [results, Tryz.results40, go_sem, c0, c1]) rfl ?_
    refine ⟨_, k, cap, rfl, ⟨by simp; omega, hcp.1, hcp.2, by omega, ?_, u32_take hU 24⟩, by omega, from_new hbw.size, ?_⟩
    · rw [List.take_of_length_le (l := xs) (i := k) (by omega)] at hr3
      rw [List.take_of_length_le (l := xs) (i := 24) (by omega)]
      exact (hr3.set_other _ _ (fun a ha => by cases ha; simp; omega)).set_other _ _ (fun a ha => by cases ha; simp; omega)
    · exact (((hbw.trans ((undrew hb3).mono hbw.size)).setCell (by simp) _).setCell (by simp) _)

theorem app_none (ty : TypeId) (q : Option Addr) (c : Nat) (w : World) : (Builtin.append_ #[27, 27] ty #[.slice none 0 0, .slice q 0 c]).run Tryz.prog w = .ok (.slice none 0 0) w := by
  obtain ⟨i0, hi, hzz⟩ := Option.map_eq_some_iff.1 info_u32
  cases q <;> simp [Builtin.append_, run_underlying Tryz.underlying27, sizeOf, typeInfo, hi, Builtin.lenOf, Builtin.firstCells, loadCells, loadCellsFrom]

set_option maxRecDepth 100000 in
set_option maxHeartbeats 1000000 in
theorem Cut_none1 (s : Bool)  (w : World) :
    Calls Tryz.prog 40 #[.agg #[.bool s, .slice none 0 0]] w (CutPost s [] w) := by
  have ha := fun ty w => app_none ty none 0 w
  go_enter Tryz.func40, Tryz.ntmps40
  go_wp2
  have hb1 : Bx ((w.alloc (.cells #[.bool s, .slice none 0 0] 29)).alloc (.cells #[.bool false, .slice none 0 0] 29)) w.heap.size (.bool s) (.slice none 0 0) := (Bx.new _ _ _ rfl).alloc _
  have hb2 : Bx ((w.alloc (.cells #[.bool s, .slice none 0 0] 29)).alloc (.cells #[.bool false, .slice none 0 0] 29)) (w.heap.size + 1) (.bool false) (.slice none 0 0) := Bx.new _ _ _ (World.size_alloc ..).symm
  have hbw : Below w.heap.size w ((w.alloc (.cells #[.bool s, .slice none 0 0] 29)).alloc (.cells #[.bool false, .slice none 0 0] 29)) := ((Below.refl _ _).alloc (Nat.le_refl _) _).alloc (by simp) _
  generalize ((w.alloc (.cells #[.bool s, .slice none 0 0] 29)).alloc (.cells #[.bool false, .slice none 0 0] 29)) = W at *
  have k0 := hb1.c0
  have k1 := hb1.c1
  have c0 := hb2.c0
  have c1 := hb2.c1
  have f0 := hb2.f0
  have f1 := hb2.f1
  go_region_held3 (fun w' => w'.cell? ⟨w.heap.size, 0, none⟩ = some (.bool s) ∧ w'.cell? ⟨w.heap.size, 1, none⟩ = some (.slice none 0 0)) (first | (simp [go_sem, *]; done) | exact keepc2 (by assumption) (by assumption)) (fail)
  go_wp2
  refine bodyPost_ret (v := .agg #[.bool s, .slice none 0 0]) (by simp [results, Tryz.results40, go_sem, c0, c1]) rfl ?_
  exact ⟨none, 0, 0, rfl, ⟨rfl, Nat.le_refl _, by unfold maxLen; decide, by decide, Rd.nil, u32_nil⟩, by decide, from_none, (hbw.drew.setCell (by simp) _).setCell (by simp) _⟩

set_option maxRecDepth 100000 in
set_option maxHeartbeats 1000000 in
theorem Cut_none2 (s : Bool) (a : Addr) (nc : Nat) (w : World) (hb : nc ≤ maxLen) :
    Calls Tryz.prog 40 #[.agg #[.bool s, .slice (some a) 0 nc]] w (CutPost s [] w) := by
  have hb' := hb
  unfold maxLen at hb'
  have ha := fun ty w => app_none ty (some a) nc w
  have hnc0 : (0 : Int) ≤ (nc : Int) := by omega
  go_enter Tryz.func40, Tryz.ntmps40
  go_wp2
  have hb1 : Bx ((w.alloc (.cells #[.bool s, .slice (some a) 0 nc] 29)).alloc (.cells #[.bool false, .slice none 0 0] 29)) w.heap.size (.bool s) (.slice (some a) 0 nc) := (Bx.new _ _ _ rfl).alloc _
  have hb2 : Bx ((w.alloc (.cells #[.bool s, .slice (some a) 0 nc] 29)).alloc (.cells #[.bool false, .slice none 0 0] 29)) (w.heap.size + 1) (.bool false) (.slice none 0 0) := Bx.new _ _ _ (World.size_alloc ..).symm
  have hbw : Below w.heap.size w ((w.alloc (.cells #[.bool s, .slice (some a) 0 nc] 29)).alloc (.cells #[.bool false, .slice none 0 0] 29)) := ((Below.refl _ _).alloc (Nat.le_refl _) _).alloc (by simp) _
  generalize ((w.alloc (.cells #[.bool s, .slice (some a) 0 nc] 29)).alloc (.cells #[.bool false, .slice none 0 0] 29)) = W at *
  have k0 := hb1.c0
  have k1 := hb1.c1
  have c0 := hb2.c0
  have c1 := hb2.c1
  have f0 := hb2.f0
  have f1 := hb2.f1
  go_region_held3 (fun w' => w'.cell? ⟨w.heap.size, 0, none⟩ = some (.bool s) ∧ w'.cell? ⟨w.heap.size, 1, none⟩ = some (.slice (some a) 0 nc)) (first | (simp [go_sem, *]; done) | exact keepc2 (by assumption) (by assumption)) (fail)
  go_wp2
  refine bodyPost_ret (v := .agg #[.bool s, .slice none 0 0]) (by simp [results, Tryz.results40, go_sem, c0, c1]) rfl ?_
  exact ⟨none, 0, 0, rfl, ⟨rfl, Nat.le_refl _, by unfold maxLen; decide, by decide, Rd.nil, u32_nil⟩, by decide, from_none, (hbw.drew.setCell (by simp) _).setCell (by simp) _⟩

/-- ashlarlaw1.Cut. -/
theorem Cut_any (s : Bool) (p : Option Addr) (n nc : Nat) (xs : List Int) (w : World) (hl : xs.length = n) (hnc : n ≤ nc) (hb : nc ≤ maxLen) (hX : Rd w p .u32 xs) (hU : U32 xs) (hp : p = none → nc = 0) :
    Calls Tryz.prog 40 #[.agg #[.bool s, .slice p n nc]] w (CutPost s xs w) := by
  rcases Nat.eq_zero_or_pos n with h | h
  · subst h
    obtain rfl : xs = [] := List.eq_nil_of_length_eq_zero hl
    cases p with
    | none => rw [hp rfl]; exact Cut_none1 s w
    | some a => exact Cut_none2 s a nc w hb
  · obtain ⟨b, off, rfl, _⟩ := hX (by omega)
    exact Cut_some s b off n nc (min n 24) xs w hl hnc hb hX hU rfl (by omega)
end Go.Proofs.YtakfimhpnpapdaaGreatDoor
