/-
  upoly.horner over the integers.
-/
import Derived.Test.YtgecfnoecmjacaaGreatDoorUl
import Derived.Test.YtgecfnoecmjacaaGreatDoorGgUn
import Derived.Test.YtgecfnoecmjacaaGreatDoorUy
import Derived.Test.YtgecfnoecmjacaaGreatDoorWfUuUx
import Derived.Deep.DeepFit
import Derived.Test.YtgecfnoecmjacaaGreatDoorVqUj
import Derived.Test.YtgecfnoecmjacaaGreatDoorPvPwUoPxPz
namespace Go.Proofs.YtgecfnoecmjacaaGreatDoor
open Go.RowKit
set_option linter.unusedVariables false
set_option linter.unusedSimpArgs false

/-- The value at x, by Horner. -/
def evz (x : Int) : List Int → Int
  | [] => 0
  | c :: cs => evz x cs * x + c
theorem evz_drop (x : Int) (zs : List Int) (i : Nat) (h : i < zs.length) : evz x (zs.drop i) = evz x (zs.drop (i + 1)) * x + gx zs i := by
  rw [List.drop_eq_getElem_cons h, gx_mem zs i h]
  rfl
theorem evz_lt {x : Int} {K L : Nat} (hx : (x.natAbs : Int) < pw L) : ∀ (zs : List Int), (∀ j, ((gx zs j).natAbs : Int) < pw K) → ((evz x zs).natAbs : Int) < pw (K + zs.length * (L + 1))
  | [], _ => by simpa [evz] using pw_pos _
  | c :: cs, h => by
    have ih := evz_lt hx cs (fun j => by simpa [gx] using h (j + 1))
    have hc : ((c).natAbs : Int) < pw K := by simpa [gx] using h 0
    have hm : ((evz x cs * x).natAbs : Int) ≤ pw (K + cs.length * (L + 1) + L) := by
      rw [pw_add, Int.natAbs_mul]
      push_cast
      exact Int.mul_le_mul (Int.le_of_lt ih) (Int.le_of_lt hx) (by omega) (Int.le_of_lt (pw_pos _))
    have h1 : pw K ≤ pw (K + cs.length * (L + 1) + L) := pw_mono (by omega)
    have h2 : K + (c :: cs).length * (L + 1) = K + cs.length * (L + 1) + L + 1 := by
      simp only [List.length_cons]
      rw [Nat.succ_mul]
      omega
    rw [h2, pw_succ]
    show ((evz x cs * x + c).natAbs : Int) < _
    have h3 := pw_pos (K + cs.length * (L + 1) + L)
    omega
set_option maxHeartbeats 2000000 in
set_option maxRecDepth 100000 in
theorem wtimes_any {w : World} {K L : Nat} {x y : Int} {e f : Ent} (hx : EV w L x e) (hv : EV w K y f) (hK : K < 80) :
    Calls Tryz.prog 82 #[.agg #[.bool e.s, .slice e.p e.n e.c], .agg #[.bool f.s, .slice f.p f.n f.c]] w fun r w' => ∃ u : Ent, r = .returned (.agg #[.bool u.s, .slice u.p u.n u.c]) ∧ NV w.heap.size w' (K + L) (y * x) u ∧ Below w.heap.size w w' := by
  have hB : Below w.heap.size w (((w.alloc (.cells #[.bool e.s, .slice e.p e.n e.c] 97)).alloc (.cells #[.bool f.s, .slice f.p f.n f.c] 26)).alloc (.cells #[.bool false, .slice none 0 0] 26)) := bel_al (bel_al (bel_al (Below.refl _ _)))
  have hR : Bx (((w.alloc (.cells #[.bool e.s, .slice e.p e.n e.c] 97)).alloc (.cells #[.bool f.s, .slice f.p f.n f.c] 26)).alloc (.cells #[.bool false, .slice none 0 0] 26)) (w.heap.size + 1 + 1) (.bool false) (.slice none 0 0) := Bx.new _ _ _ (by simp)
  go_enter Tryz.func82, Tryz.ntmps82
  go_wp2_with fail
  generalize (((w.alloc (.cells #[.bool e.s, .slice e.p e.n e.c] 97)).alloc (.cells #[.bool f.s, .slice f.p f.n f.c] 26)).alloc (.cells #[.bool false, .slice none 0 0] 26)) = W at *
  refine (Mul_ev (hv.below hB) (hx.below hB) hK).mono ?_
  rintro r w1 ⟨u, rfl, hu, hb⟩
  have hlt : w.heap.size + 1 + 1 < W.heap.size := block_lt_of_cell hR.c0
  obtain ⟨r0, r1, f0, f1⟩ := hR.later hb
  go_wp2
  refine bodyPost_ret (v := .agg #[.bool u.s, .slice u.p u.n u.c]) (by simp [results, Tryz.results82, go_sem, r0, r1]) rfl ⟨u, rfl, ?_, bset2 (bnext' hB hb) (by omega) _ _⟩
  exact (hu.set2 (o := 0) hlt _ _).mono hB.size
set_option maxHeartbeats 2000000 in
set_option maxRecDepth 100000 in
theorem wplus_any {w : World} {K M : Nat} {y c : Int} {e f g : Ent} (hv : EV w K y f) (hc : EV w M c g) :
    Calls Tryz.prog 83 #[.agg #[.bool e.s, .slice e.p e.n e.c], .agg #[.bool f.s, .slice f.p f.n f.c], .agg #[.bool g.s, .slice g.p g.n g.c]] w fun r w' => ∃ u : Ent, r = .returned (.agg #[.bool u.s, .slice u.p u.n u.c]) ∧ NV w.heap.size w' (K + M + 1) (y + c) u ∧ Below w.heap.size w w' := by
  have hB : Below w.heap.size w ((((w.alloc (.cells #[.bool e.s, .slice e.p e.n e.c] 97)).alloc (.cells #[.bool f.s, .slice f.p f.n f.c] 26)).alloc (.cells #[.bool g.s, .slice g.p g.n g.c] 26)).alloc (.cells #[.bool false, .slice none 0 0] 26)) := bel_al (bel_al (bel_al (bel_al (Below.refl _ _))))
  have hR : Bx ((((w.alloc (.cells #[.bool e.s, .slice e.p e.n e.c] 97)).alloc (.cells #[.bool f.s, .slice f.p f.n f.c] 26)).alloc (.cells #[.bool g.s, .slice g.p g.n g.c] 26)).alloc (.cells #[.bool false, .slice none 0 0] 26)) (w.heap.size + 1 + 1 + 1) (.bool false) (.slice none 0 0) := Bx.new _ _ _ (by simp)
  go_enter Tryz.func83, Tryz.ntmps83
  go_wp2_with fail
  generalize ((((w.alloc (.cells #[.bool e.s, .slice e.p e.n e.c] 97)).alloc (.cells #[.bool f.s, .slice f.p f.n f.c] 26)).alloc (.cells #[.bool g.s, .slice g.p g.n g.c] 26)).alloc (.cells #[.bool false, .slice none 0 0] 26)) = W at *
  refine (Add_ev (hv.below hB) (hc.below hB)).mono ?_
  rintro r w1 ⟨u, rfl, hu, hb⟩
  have hlt : w.heap.size + 1 + 1 + 1 < W.heap.size := block_lt_of_cell hR.c0
  obtain ⟨r0, r1, f0, f1⟩ := hR.later hb
  go_wp2
  refine bodyPost_ret (v := .agg #[.bool u.s, .slice u.p u.n u.c]) (by simp [results, Tryz.results83, go_sem, r0, r1]) rfl ⟨u, rfl, ?_, bset2 (bnext' hB hb) (by omega) _ _⟩
  exact (hu.set2 (o := 0) hlt _ _).mono hB.size
/-- Horner's variable behind some rounds. -/
structure HV1 (w wr : World) (T : Nat) (z : Int) (u : Ent) : Prop where
  b : Bx wr (w.heap.size + 1 + 1) (.bool u.s) (.slice u.p u.n u.c)
  v : NV (w.heap.size + 1 + 1 + 1) wr T z u
  rb : Bx wr (w.heap.size + 1) (.bool false) (.slice none 0 0)
  bw : Below w.heap.size w wr
set_option maxHeartbeats 4000000 in
set_option maxRecDepth 100000 in
theorem hornerI_any {w : World} {K L : Nat} {p : Option Addr} {n nc : Nat} {es : List Ent} {zs : List Int} {x : Int} {e : Ent} (h : PA w K p n nc es zs) (hx : EV w L x e) (hn : n ≤ 1000) (hL : L ≤ 500) (hK : K + n * (L + 1) < 80) :
    Calls Tryz.prog 81 #[.slice p n nc, .agg #[.bool false, .slice none 0 0], .func (.func 82) #[.agg #[.bool e.s, .slice e.p e.n e.c]] #[], .func (.func 83) #[.agg #[.bool e.s, .slice e.p e.n e.c]] #[]] w fun r w' => ∃ u : Ent, r = .returned (.agg #[.bool u.s, .slice u.p u.n u.c]) ∧ NV w.heap.size w' (K + n * (L + 1)) (evz x zs) u ∧ Below w.heap.size w w' := by
  have HX : Hid (PA w K p n nc es zs ∧ EV w L x e ∧ (∀ i, i ≤ n → ((evz x (zs.drop i)).natAbs : Int) < pw (K + n * (L + 1)))) := by
    refine ⟨h, hx, fun i hi => ?_⟩
    have h1 := evz_lt (K := K) hx.bd (zs.drop i) (fun j => by rw [gx_drop]; exact h.gbd _)
    refine Int.lt_of_lt_of_le h1 (pw_mono ?_)
    have h2 : (zs.drop i).length ≤ n := by rw [List.length_drop, h.zl]; omega
    have := Nat.mul_le_mul_right (L + 1) h2
    omega
  have hel := h.el
  have hzl := h.zl
  have HK : Hid (K + n * (L + 1) < 80) := hK
  clear h hx
  generalize hT : K + n * (L + 1) = T at *
  clear hT
  go_enter Tryz.func81, Tryz.ntmps81
  go_wp2_with fail
  have HC : Hid (HV1 w (((w.alloc (.cells #[.bool false, .slice none 0 0] 26)).alloc (.cells #[.bool false, .slice none 0 0] 26)).alloc (.cells #[.bool false, .slice none 0 0] 26)) T (evz x (zs.drop n)) ez) := by
    rw [List.drop_eq_nil_of_le (by omega)]
    exact ⟨Bx.new _ _ _ (by simp), NV.ez _ _ _, (Bx.new _ _ _ (by simp)).later (bel_al (Below.refl _ _)), bel_al (bel_al (bel_al (Below.refl _ _)))⟩
  generalize (((w.alloc (.cells #[.bool false, .slice none 0 0] 26)).alloc (.cells #[.bool false, .slice none 0 0] 26)).alloc (.cells #[.bool false, .slice none 0 0] 26)) = W at *
  go_loopw [10] (fun iv wr => ∃ (k : Nat) (u : Ent), k ≤ n ∧ iv = .int .i64 ((k : Int) - 1) ∧ Hid (HV1 w wr T (evz x (zs.drop k)) u)) (fun iv _ => (intOf iv + 1).toNat)
  case atStart => exact ⟨n, ez, Nat.le_refl _, by go_num, HC.out⟩
  case round =>
    clear HC
    obtain ⟨k, u, hk, rfl, H⟩ := hrel
    have hcs : Hid (k = 0 ∨ ∃ j, k = j + 1) := by cases k with | zero => exact .inl rfl | succ j => exact .inr ⟨j, rfl⟩
    rcases hcs.out with rfl | ⟨j, rfl⟩
    · have hV := H.out
      rw [List.drop_zero] at hV
      obtain ⟨q0, q1, -, -⟩ := id hV.b
      obtain ⟨r0, r1, f0, f1⟩ := id hV.rb
      have HV : Hid (HV1 w wr T (evz x zs) u) := hV
      clear H hV hcs
      go_wp2
      refine bodyPost_ret (v := .agg #[.bool u.s, .slice u.p u.n u.c]) (by simp [results, Tryz.results81, go_sem, r0, r1]) rfl ⟨u, rfl, ?_, ?_⟩
      · exact (HV.out.v.set2 (o := 0) (by omega) _ _).mono (by omega)
      · exact bset2 HV.out.bw (by omega) _ _
    · have hV := H.out
      have hP := HX.out.1.below hV.bw
      obtain ⟨b, o, hp, hc⟩ := hP.pl (by omega)
      subst hp
      obtain ⟨c0, c1⟩ := hc j (by omega)
      have he := hP.ev j (by omega)
      have hxe := HX.out.2.1.below hV.bw
      obtain ⟨q0, q1, -, -⟩ := id hV.b
      have i0 : ((j + 1 : Nat) : Int) - 1 = (j : Int) := by omega
      have i1 : (j : Int) < (n : Int) := by omega
      have i2 : (0 : Int) ≤ (j : Int) := by omega
      have HV : Hid (HV1 w wr T (evz x (zs.drop (j + 1))) u) := hV
      have hlt : w.heap.size + 1 + 1 < wr.heap.size := block_lt_of_cell q0
      rw [i0]
      clear hV hP hc hcs H
      go_upto_region 5 with fail
      go_region_with (first
        | (go_at_call 82; go_fit (wtimes_any (hxe.below (Below.refl _ _).drew) ((HV.out.v.ev (by have := HK.out; omega)).below (Below.refl _ _).drew) (by have := HK.out; omega)); rintro r v1 ⟨u1, rfl, hN1, hb1⟩; have hB1 := undrew hb1; have d0 := cell_later hB1 c0; have d1 := cell_later hB1 c1)
        | (go_at_call 83; go_fit (wplus_any (e := e) (hN1.ev (by have := HK.out; omega)) (he.below hB1)); rintro r v2 ⟨u2, rfl, hN2, hb2⟩; have hB2 := bnext' hB1 hb2; obtain ⟨z0, z1, f0, f1⟩ := HV.out.b.later hB2))
      all_goals
        have hnx : HV1 w ((v2.setCell ⟨w.heap.size + 1 + 1, 0, none⟩ (.bool u2.s)).setCell ⟨w.heap.size + 1 + 1, 1, none⟩ (.slice u2.p u2.n u2.c)) T (evz x (zs.drop j)) u2 := by
          rw [← evz_drop x zs j (by omega)] at hN2
          have hN3 := hN2.fit (HX.out.2.2 j (by omega))
          have hs := hB1.size
          exact ⟨Bx_set (HV.out.b.later hB2), (hN3.mono (by omega)).set2 (o := 0) (by omega) _ _, Bx_oth (HV.out.rb.later hB2) (by omega), bset2 (bnext' HV.out.bw hB2) (by omega) _ _⟩
        have HN := (show Hid _ from hnx)
        clear hnx hN1 hN2 c0 c1 q0 q1 z0 z1 f0 f1 HV d0 d1 he hxe
        go_wp2
        refine ⟨⟨j, u2, by omega, by go_num, HN.out⟩, by simp [intOf]⟩
end Go.Proofs.YtgecfnoecmjacaaGreatDoor
/-
  ashlarref3.Sub.
-/
namespace Go.Proofs.YtgecfnoecmjacaaGreatDoor
open Go.RowKit
set_option linter.unusedVariables false
set_option linter.unusedSimpArgs false

theorem tlen_same {a b : List Int} (h : ∀ j, gx a j = gx b j) : tlen a = tlen b := by
  refine tlen_eq _ _ (fun j hj => by rw [h]; exact tlen_zero b j hj) ?_
  rcases Nat.eq_zero_or_pos (tlen b) with h0 | h0
  · exact .inl h0
  · exact .inr (by rw [h]; exact tlen_top b h0)
theorem tr_same {a b : List Int} (h : ∀ j, gx a j = gx b j) : tr a = tr b := by
  refine gx_ext _ _ (by rw [length_tr, length_tr, tlen_same h]) fun j hj => ?_
  rw [gx_tr, gx_tr, h]
theorem gx_pz0 (op : Int → Int → Int) (h0 : op 0 0 = 0) (zs ys : List Int) (j : Nat) : gx (pz op zs ys) j = op (gx zs j) (gx ys j) := by
  rcases Nat.lt_or_ge j (max zs.length ys.length) with h | h
  · exact gx_pz' op zs ys j h
  · rw [gx_past _ (max zs.length ys.length) (by rw [length_pz]; exact Nat.le_refl _) j h, gx_past zs zs.length (Nat.le_refl _) j (by omega), gx_past ys ys.length (Nat.le_refl _) j (by omega), h0]
theorem pz_sub (zs ys : List Int) : tr (pz (· + ·) zs (tr (ys.map (-1 * ·)))) = tr (pz (· - ·) zs ys) := by
  refine tr_same fun j => ?_
  rw [gx_pz0 _ rfl, gx_pz0 _ rfl, gx_tr, gx_map0 (-1 * ·) rfl]
  omega
theorem rOf_n (a : Int) (w : World) (h0 : -9223372036854775808 ≤ a) (h1 : a ≤ 9223372036854775807) :
    Calls Tryz.prog 62 #[.int .i64 a] w fun r w' => ∃ u : Ent, r = .returned (.agg #[.bool u.s, .slice u.p u.n u.c]) ∧ RE w' 4 a u ∧ Go.Proofs.YtgecfnoecmjacaaGreatDoor.From w.heap.size u.p ∧ Below w.heap.size w w' := by
  refine (rOf_any a w h0 h1).mono ?_
  rintro e w1 ⟨s1, p1, n1, d1, rfl, hR1, hv1, hn1, hF1, hb1⟩
  exact ⟨⟨s1, p1, n1, n1⟩, rfl, ⟨⟨d1, hR1, hv1, hn1⟩, rfl⟩, hF1, hb1⟩
set_option maxHeartbeats 4000000 in
set_option maxRecDepth 100000 in
/-- ashlarref3.Sub. -/
theorem rpSub_any {w : World} {N M : Nat} {p q : Option Addr} {n nc m mc : Nat} {es0 fs0 : List Ent} {zs ys : List Int} (h : PR w N p n nc es0 zs) (h' : PR w M q m mc fs0 ys) (hn : n ≤ 100000) (hm : m ≤ 100000) (hN : N ≤ 390) (hM : M ≤ 390) (hN4 : 4 ≤ N) :
    Calls Tryz.prog 18 #[.slice p n nc, .slice q m mc] w (PrP (tr (pz (· - ·) zs ys)) (N + M + 6) w) := by
  have HT := (show Hid (tr (pz (· + ·) zs (tr (ys.map (-1 * ·)))) = tr (pz (· - ·) zs ys)) from pz_sub zs ys)
  have hyl := h'.zl
  go_enter Tryz.func18, Tryz.ntmps18
  go_wp2_with fail
  refine (rOf_n (-1) _ (by decide) (by decide)).mono ?_
  rintro e w1 ⟨u, rfl, hu, hF, hb1⟩
  go_wp2_with fail
  refine (rpScale_any (h'.below hb1) hu hm (by omega) (by decide)).mono ?_
  rintro e w2 ⟨p2, n2, es2, rfl, h2, hF2, hn2, hb2⟩
  have hn2' : n2 ≤ 100000 := by
    have h3 := h2.zl
    rw [length_tr] at h3
    have h4 := tlen_le (ys.map (-1 * ·))
    rw [List.length_map] at h4
    omega
  go_wp2_with fail
  refine (rpAdd_any (h.below (bnext' hb1 hb2)) h2 hn hn2' (by omega) (by omega) hN4 (by omega)).mono ?_
  rintro e w3 ⟨p3, n3, es3, rfl, h3, hF3, hn3, hb3⟩
  have HP : Hid (PR w3 (N + M + 6) p3 n3 n3 es3 (tr (pz (· - ·) zs ys)) ∧ tlen (tr (pz (· - ·) zs ys)) = n3) := by
    rw [HT.out] at h3 hn3
    exact ⟨⟨h3.el, h3.zl, h3.cap, h3.bnd, h3.pl, fun j hj => (h3.ev j hj).wide (by omega)⟩, hn3⟩
  have hs := (bnext' hb1 hb2).size
  have hB := bnext' (bnext' hb1 hb2) hb3
  clear h3 hn3 h2 hu h h'
  go_wp2
  go_ret
  exact ⟨p3, n3, es3, rfl, HP.out.1, fun a ha => Nat.le_trans hs (hF3 a ha), HP.out.2, hB⟩
end Go.Proofs.YtgecfnoecmjacaaGreatDoor
/-
  Plain facts on products of polynomials: over sums, values, derivatives; sizes in bits.
-/
namespace Go.Proofs.YtgecfnoecmjacaaGreatDoor
open Go.RowKit
set_option linter.unusedVariables false
set_option linter.unusedSimpArgs false

theorem ps_past (zs ys : List Int) (t : Nat) : ∀ m, ps zs ys (zs.length + m) t = ps zs ys zs.length t
  | 0 => rfl
  | m + 1 => by rw [← Nat.add_assoc, ps_none zs ys _ t (gx_past zs _ (Nat.le_refl _) _ (by omega)), ps_past zs ys t m]
theorem ps_late (zs ys : List Int) (t : Nat) : ∀ m, ps zs ys (t + 1 + m) t = ps zs ys (t + 1) t
  | 0 => rfl
  | m + 1 => by
    rw [← Nat.add_assoc, ps, ps_late zs ys t m, if_neg (by omega), Int.add_zero]
theorem ps_nil (zs : List Int) (t : Nat) : ∀ i, ps zs [] i t = 0
  | 0 => rfl
  | i + 1 => by rw [ps, ps_nil zs t i]; simp [gx]
/-- A product's entry. -/
theorem gx_mulp (zs ys : List Int) (t : Nat) : gx (mulp zs ys) t = ps zs ys (t + 1) t := by
  have h0 : ps zs ys (t + 1) t = ps zs ys zs.length t := by
    have h1 := ps_late zs ys t (zs.length)
    have h2 := ps_past zs ys t (t + 1)
    rw [Nat.add_comm] at h2
    rw [← h1, h2]
  rw [h0, mulp]
  by_cases h : zs.length = 0 ∨ ys.length = 0
  · rw [if_pos h]
    rcases h with h | h
    · rw [h]; rfl
    · rw [List.eq_nil_of_length_eq_zero h, ps_nil]; rfl
  · rw [if_neg h]
    rcases Nat.lt_or_ge t (zs.length + ys.length - 1) with h1 | h1
    · rw [gx_mulz _ _ _ h1]
    · rw [gx_past _ (zs.length + ys.length - 1) (by rw [length_mulz]; exact Nat.le_refl _) t h1, ps_far zs ys t zs.length (by omega)]
theorem ps_sum {zs a b c : List Int} (h : ∀ j, gx a j = gx b j + gx c j) (t : Nat) : ∀ i, ps zs a i t = ps zs b i t + ps zs c i t
  | 0 => rfl
  | i + 1 => by
    rw [ps, ps, ps, ps_sum h t i]
    split
    · rw [h, Int.mul_add]; omega
    · omega
theorem ps_same {zs zs' ys ys' : List Int} (h : ∀ j, gx zs j = gx zs' j) (k : ∀ j, gx ys j = gx ys' j) (t : Nat) : ∀ i, ps zs ys i t = ps zs' ys' i t
  | 0 => rfl
  | i + 1 => by rw [ps, ps, ps_same h k t i, h, k]
/-- A product goes over a sum. -/
theorem mulp_sum (zs ys ws : List Int) : tr (mulp (tr zs) (tr (tr (pz (· + ·) (tr ys) (tr ws))))) = tr (tr (pz (· + ·) (tr (mulp (tr zs) (tr ys))) (tr (mulp (tr zs) (tr ws))))) := by
  refine tr_same fun t => ?_
  rw [gx_mulp, gx_tr, gx_pz0 _ rfl, gx_tr, gx_tr, gx_mulp, gx_mulp]
  exact ps_sum (fun j => by rw [gx_tr, gx_tr, gx_pz0 _ rfl]) t _
/-- The value as a sum. -/
def evf (x : Int) (f : Nat → Int) : Nat → Int
  | 0 => 0
  | k + 1 => evf x f k + f k * x ^ k
theorem evf_cons (x c : Int) (cs : List Int) : ∀ k, evf x (gx (c :: cs)) (k + 1) = c + x * evf x (gx cs) k
  | 0 => by simp [evf, gx]
  | k + 1 => by
    rw [evf, evf_cons x c cs k, evf]
    have h1 : gx (c :: cs) (k + 1) = gx cs k := by simp [gx]
    rw [h1, Int.pow_succ]
    grind
theorem evz_evf (x : Int) : ∀ zs, evz x zs = evf x (gx zs) zs.length
  | [] => rfl
  | c :: cs => by
    rw [evz, List.length_cons, evf_cons, evz_evf x cs]
    grind
theorem evf_congr (x : Int) {f g : Nat → Int} : ∀ k, (∀ j, j < k → f j = g j) → evf x f k = evf x g k
  | 0, _ => rfl
  | k + 1, h => by rw [evf, evf, evf_congr x k (fun j hj => h j (by omega)), h k (by omega)]
theorem evf_zero (x : Int) : ∀ k, evf x (fun _ => 0) k = 0
  | 0 => rfl
  | k + 1 => by rw [evf, evf_zero x k]; simp
theorem evf_add (x : Int) (f g : Nat → Int) : ∀ k, evf x (fun j => f j + g j) k = evf x f k + evf x g k
  | 0 => rfl
  | k + 1 => by
    rw [evf, evf, evf, evf_add x f g k, Int.add_mul]
    omega
theorem evf_more (x : Int) (f : Nat → Int) (k : Nat) (h : ∀ j, k ≤ j → f j = 0) : ∀ m, evf x f (k + m) = evf x f k
  | 0 => rfl
  | m + 1 => by rw [← Nat.add_assoc, evf, evf_more x f k h m, h (k + m) (by omega)]; simp
theorem evf_shift (x : Int) (z : Int) (f : Nat → Int) (i : Nat) : ∀ k, evf x (fun t => if i ≤ t then z * f (t - i) else 0) (i + k) = z * x ^ i * evf x f k
  | 0 => by
    have h : ∀ j, j < i + 0 → (fun t => if i ≤ t then z * f (t - i) else 0) j = (fun _ => 0) j := fun j hj => by simp; omega
    rw [evf_congr x _ h, evf_zero, evf, Int.mul_zero]
  | k + 1 => by
    rw [← Nat.add_assoc, evf, evf_shift x z f i k, evf]
    simp only [Nat.le_add_right, if_true, Nat.add_sub_cancel_left]
    rw [Int.pow_add]
    grind
theorem evf_mul (x : Int) (zs ys : List Int) (T : Nat) : ∀ i, i + ys.length ≤ T + 1 → evf x (ps zs ys i) T = evf x (gx zs) i * evf x (gx ys) ys.length
  | 0, _ => by
    show evf x (fun _ => 0) T = _
    rw [evf_zero, evf, Int.zero_mul]
  | i + 1, h => by
    have h1 : ∀ j, j < T → ps zs ys (i + 1) j = (fun t => ps zs ys i t + (if i ≤ t then gx zs i * gx ys (t - i) else 0)) j := fun j _ => rfl
    have hT : T = i + (T - i) := by omega
    have hk : evf x (gx ys) (T - i) = evf x (gx ys) ys.length := by
      have := evf_more x (gx ys) ys.length (fun j hj => gx_past ys _ (Nat.le_refl _) j hj) (T - i - ys.length)
      rwa [show ys.length + (T - i - ys.length) = T - i by omega] at this
    have hs := evf_shift x (gx zs i) (gx ys) i (T - i)
    rw [← hT, hk] at hs
    rw [evf_congr x T h1, evf_add, evf_mul x zs ys T i (by omega), hs, evf, Int.add_mul]
/-- Values multiply. -/
theorem evz_mulp (x : Int) (zs ys : List Int) : evz x (mulp zs ys) = evz x zs * evz x ys := by
  rw [mulp]
  by_cases h : zs.length = 0 ∨ ys.length = 0
  · rw [if_pos h]
    rcases h with h | h
    · rw [List.eq_nil_of_length_eq_zero h]; simp [evz]
    · rw [List.eq_nil_of_length_eq_zero h]; simp [evz]
  · rw [if_neg h, evz_evf, evz_evf, evz_evf, length_mulz, evf_congr x _ (fun j hj => gx_mulz zs ys j hj), evf_mul x zs ys _ zs.length (by omega)]
theorem gx_derz' (zs : List Int) (j : Nat) : gx (derz zs) j = ((j : Int) + 1) * gx zs (j + 1) := by
  rcases Nat.lt_or_ge j (zs.length - 1) with h | h
  · exact gx_derz zs j h
  · rw [gx_past _ (zs.length - 1) (by rw [length_derz]; exact Nat.le_refl _) j h, gx_past zs zs.length (Nat.le_refl _) (j + 1) (by omega), Int.mul_zero]
theorem rule_step (zs ys : List Int) (t : Nat) : ∀ n, n ≤ t + 1 → ((t : Int) + 1) * ps zs ys n (t + 1) + (n : Int) * (gx zs n * gx ys (t + 1 - n)) = ps (derz zs) ys n t + ps zs (derz ys) n t
  | 0, _ => by simp [ps]
  | n + 1, h => by
    have ih := rule_step zs ys t n (by omega)
    rw [ps, ps, ps, if_pos (by omega), if_pos (by omega), if_pos (by omega), gx_derz', gx_derz', show t - n + 1 = t + 1 - n by omega, show t + 1 - (n + 1) = t - n by omega]
    have e : ((t - n : Nat) : Int) = (t : Int) - (n : Int) := by omega
    rw [e]
    generalize gx zs n = a at *
    generalize gx zs (n + 1) = b at *
    generalize gx ys (t + 1 - n) = c at *
    generalize gx ys (t - n) = d at *
    push_cast
    grind
/-- The derivative of a product. -/
theorem derz_mulp (zs ys : List Int) (t : Nat) : gx (derz (mulp zs ys)) t = gx (mulp (derz zs) ys) t + gx (mulp zs (derz ys)) t := by
  rw [gx_derz', gx_mulp, gx_mulp, gx_mulp, ← rule_step zs ys t (t + 1) (Nat.le_refl _), ps, if_pos (Nat.le_refl _)]
  push_cast
  grind
theorem mulp_rule (zs ys : List Int) : tr (derz (tr (mulp (tr zs) (tr ys)))) = tr (tr (pz (· + ·) (tr (mulp (tr (derz (tr zs))) (tr ys))) (tr (mulp (tr zs) (tr (derz (tr ys))))))) := by
  refine tr_same fun t => ?_
  rw [gx_tr, gx_pz0 _ rfl, gx_tr, gx_tr]
  have h1 : gx (derz (tr (mulp (tr zs) (tr ys)))) t = gx (derz (mulp (tr zs) (tr ys))) t := by rw [gx_derz', gx_derz', gx_tr]
  have h2 : gx (mulp (tr (derz (tr zs))) (tr ys)) t = gx (mulp (derz (tr zs)) (tr ys)) t := by
    rw [gx_mulp, gx_mulp]; exact ps_same (fun j => gx_tr _ j) (fun _ => rfl) t _
  have h3 : gx (mulp (tr zs) (tr (derz (tr ys)))) t = gx (mulp (tr zs) (derz (tr ys))) t := by
    rw [gx_mulp, gx_mulp]; exact ps_same (fun _ => rfl) (fun j => gx_tr _ j) t _
  rw [h1, h2, h3, derz_mulp]
theorem zb_le_of {z : Int} {b : Nat} (h : (z.natAbs : Int) < 2 ^ b) : zb z ≤ b := by
  rcases Nat.lt_or_ge b (zb z) with h1 | h1
  · exfalso
    have h2 := p2_mono (show b ≤ zb z - 1 by omega)
    rcases (zb_ib z).2.2 with h3 | h3
    · omega
    · omega
  · exact h1
theorem pb_of {zs : List Int} {b : Nat} (h : ∀ j, ((gx zs j).natAbs : Int) < 2 ^ b) : pb zs ≤ b := by
  have := pb_le_of zs b (fun j _ => zb_le_of (h j)) zs.length (Nat.le_refl _)
  rwa [List.take_length] at this
end Go.Proofs.YtgecfnoecmjacaaGreatDoor
