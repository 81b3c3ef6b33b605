/-
  ashlarref9.windows, Term, Close, Cauchy.
-/
import Derived.Test.YtcdfckjlmifjiaaGreatFfEtEwFh
import Derived.Test.YtcdfckjlmifjiaaGreatAzBlEeEfVuDlVvWxUpUqDkDbUiVqJpDjVkJo
import Derived.Test.YtcdfckjlmifjiaaGreatExEuLeEy
import Derived.Test.YtcdfckjlmifjiaaGreatRoUcVbDaVcDuOi
import Derived.Deep.DeepFit
namespace Go.Proofs.YtcdfckjlmifjiaaGreat
open Go.RowKit
set_option linter.unusedVariables false
set_option linter.unusedSimpArgs false
set_option maxHeartbeats 4000000 in
set_option maxRecDepth 100000 in
/-- ashlarref9.windows. -/
theorem rWindows9_any {w : World} {K : Nat} {p q : Option Addr} {n nc m mc : Nat} {rs qs : List Rq} {zs ys : List Rat} (h : WA (EM K) w p n nc rs zs) (k : WA (EM K) w q m mc qs ys) (hK : K ≤ 400) (hn : n ≤ 1000000) (hm : m ≤ 1000000) (hz : ∀ j, j < n → qb (gq zs j) ≤ 1000000) (hy : ∀ j, j < m → qb (gq ys j) ≤ 1000000) :
    Calls Tryz.prog 38 #[.slice p n nc, .slice q m mc] w fun e w' => e = .returned (.int .i64 (tms [(n : Int) + m + 1, sms [(wbt zs : Int), (wbt ys : Int), 1]])) ∧ Below w.heap.size w w' := by
  have h1 := fun w' (hb : Below w.heap.size w w') => rWindow9_any (h.below (lasts_EM K) hb) hK hn hz
  have h2 := fun w' (hb : Below w.heap.size w w') => rWindow9_any (k.below (lasts_EM K) hb) hK hm hy
  have bz : wbt zs ≤ 1000000 := by
    have := wbt_bd zs 1000000 (fun j hj => hz j (by rw [← h.zl]; exact hj)) zs.length (Nat.le_refl _)
    rwa [List.take_length] at this
  have by' : wbt ys ≤ 1000000 := by
    have := wbt_bd ys 1000000 (fun j hj => hy j (by rw [← k.zl]; exact hj)) ys.length (Nat.le_refl _)
    rwa [List.take_length] at this
  clear h k hz hy
  generalize hbz : (wbt zs : Int) = x at *
  have hx : 0 ≤ x ∧ x ≤ 1000000 := by omega
  clear hbz bz
  generalize hby : (wbt ys : Int) = y at *
  have hyy : 0 ≤ y ∧ y ≤ 1000000 := by omega
  clear hby by'
  have v1 : wrap64 ((n : Int) + (m : Int)) = (n : Int) + m := by unfold wrap64; omega
  have v2 : wrap64 ((n : Int) + (m : Int) + 1) = (n : Int) + m + 1 := by unfold wrap64; omega
  go_enter Tryz.func38, Tryz.ntmps38
  go_wp2_with fail
  go_fit (h1 w (Below.refl _ _))
  rintro e w1 ⟨rfl, hb1⟩
  have h2' := h2 w1 hb1
  go_wp2_with fail
  go_fit h2'
  rintro e w2 ⟨rfl, hb2⟩
  have hB2 := bnext' hb1 hb2
  clear h1 h2 h2' hb1 hb2
  have hin : ∀ z ∈ [x, y, 1], InT z := (List.forall_mem_cons.2 ⟨inT_small (by omega) (by omega), (List.forall_mem_cons.2 ⟨inT_small (by omega) (by omega), (List.forall_mem_cons.2 ⟨inT_small (by omega) (by omega), (List.forall_mem_nil _)⟩)⟩)⟩)
  have hrd : Rd (w2.alloc (.cells #[.int .i64 x, .int .i64 y, .int .i64 1] 3)) (some ⟨w2.heap.size, 0, none⟩) .i64 [x, y, 1] := rd_lit w2 [x, y, 1] 3
  go_wp2_with fail
  go_fit (rsum_lit [x, y, 1] 3 rfl (by decide) hrd hin)
  rintro e w3 ⟨rfl, hb3⟩
  have hB3 : Below w.heap.size w w3 := bnext' hB2 (bnext' ((Below.refl _ _).alloc (Nat.le_refl _) _) hb3)
  have hs := sms_inT hin
  clear hrd hb3 hB2 hin
  generalize hsx : sms [x, y, 1] = sx at *
  have HSX : Hid (sms [x, y, 1] = sx) := hsx
  clear hsx
  have hrd : Rd (w3.alloc (.cells #[.int .i64 ((n : Int) + m + 1), .int .i64 sx] 3)) (some ⟨w3.heap.size, 0, none⟩) .i64 [(n : Int) + m + 1, sx] := rd_lit w3 [(n : Int) + m + 1, sx] 3
  go_wp2_with fail
  go_fit (rtimes_lit [(n : Int) + m + 1, sx] 2 rfl (by decide) hrd (List.forall_mem_cons.2 ⟨inI_small (by omega) (by omega), (List.forall_mem_cons.2 ⟨⟨hs.1, by have := hs.2; omega⟩, (List.forall_mem_nil _)⟩)⟩))
  rintro e w4 ⟨rfl, hb4⟩
  have HB4 : Hid (Below w.heap.size w w4) := bnext' hB3 (bnext' ((Below.refl _ _).alloc (Nat.le_refl _) _) hb4)
  clear hrd hb4 hB3
  go_wp2
  go_ret
  refine ⟨?_, HB4.out⟩
  rw [HSX.out]
  rfl
set_option maxHeartbeats 4000000 in
set_option maxRecDepth 100000 in
/-- ashlarref9.Close. -/
theorem rClose9_any {w : World} {B T N E D B2 T2 N2 K : Nat} {x y : List (List Int)} {h g : Hdr} {p1 p2 : Option Addr} {n1 c1 n2 c2 : Nat} {rs qs : List Rq} {zs ys : List Rat} (H : HR D (EY N E) w B T x h) (G : HR D (EY N2 E) w B2 T2 y g) (hT : T ≤ w.heap.size) (hT2 : T2 ≤ w.heap.size) (hwa : WA (EM K) w p1 n1 c1 rs zs) (hwb : WA (EM K) w p2 n2 c2 qs ys) (hD : D ≤ 1000000) (hE : E ≤ 1000000) (hN : N ≤ 1000) (hN2 : N2 ≤ 1000) (hK : K ≤ 400) (hn1 : n1 ≤ 1000000) (hn2 : n2 ≤ 1000000) (hz : ∀ j, j < n1 → qb (gq zs j) ≤ 1000000) (hy : ∀ j, j < n2 → qb (gq ys j) ≤ 1000000) (b1 : SzB x) (b2 : SzB y) :
    Calls Tryz.prog 12 #[.slice h.p h.n h.c, .slice g.p g.n g.c, .slice p1 n1 c1, .slice p2 n2 c2] w fun e w' => e = .returned (.int .i64 (max (tms [pmf (rszO x + 1) (rszO y + 1), pmf (rszO x + 1) (rszO y + 1), pmf (rszO x + 1) (rszO y + 1), smf (pmf (pmf (rszO x + 1) (rszO y + 1)) (rszD x + rszD y)) 1, sms [rszB x, rszB y, 8]]) (tms [(n1 : Int) + n2 + 1, sms [(wbt zs : Int), (wbt ys : Int), 1]]))) ∧ Below w.heap.size w w' := by
  have h1 := fun w' (hb : Below w.heap.size w w') => rSize8_any ((lasts_HR (lasts_EY N E)).below H hT hb) (Nat.le_trans hT hb.size) hD hE hN
  have h2 := fun w' (hb : Below w.heap.size w w') => rSize8_any ((lasts_HR (lasts_EY N2 E)).below G hT2 hb) (Nat.le_trans hT2 hb.size) hD hE hN2
  have h3 := fun w' (hb : Below w.heap.size w w') => rWindows9_any (hwa.below (lasts_EM K) hb) (hwb.below (lasts_EM K) hb) hK hn1 hn2 hz hy
  obtain ⟨p, n, nc⟩ := h
  obtain ⟨p', n', nc'⟩ := g
  simp only at h1 h2 h3 ⊢
  clear H hT G hT2 hwa hwb hz hy
  unfold SzB at b1 b2
  generalize hYe : tms [(n1 : Int) + n2 + 1, sms [(wbt zs : Int), (wbt ys : Int), 1]] = Y at *
  have HYE : Hid (tms [(n1 : Int) + n2 + 1, sms [(wbt zs : Int), (wbt ys : Int), 1]] = Y) := hYe
  clear hYe
  generalize rszO x = r at *
  generalize rszD x = d at *
  generalize rszB x = k at *
  generalize rszO y = s at *
  generalize rszD y = e at *
  generalize rszB y = l at *
  go_enter Tryz.func12, Tryz.ntmps12
  go_wp2_with fail
  go_fit (h1 w (Below.refl _ _))
  rintro e1 w1 ⟨rfl, hB1⟩
  have h2' := h2 w1 hB1
  go_wp2_with fail
  go_fit h2'
  rintro e1 w2 ⟨rfl, hb2⟩
  have hB2 := bnext' hB1 hb2
  clear h1 h2 h2' hb2 hB1
  obtain ⟨⟨r0, r1⟩, ⟨d0, d1⟩, k0, k1⟩ := b1
  obtain ⟨⟨s0, s1⟩, ⟨e0', e1'⟩, l0, l1⟩ := b2
  have v0 : wrap64 (r + 1) = r + 1 := by unfold wrap64; omega
  have v1 : wrap64 (s + 1) = s + 1 := by unfold wrap64; omega
  have v2 : wrap64 (d + e) = d + e := by unfold wrap64; omega
  have pm1 : InT (pmf (r + 1) (s + 1)) := pmf_bd (r + 1) (s + 1) (inT_small (by omega) (by omega)) (inI_small (by omega) (by omega))
  go_wp2_with fail
  go_fit (rBy0_any (r + 1) (s + 1) (inT_small (by omega) (by omega)) (inI_small (by omega) (by omega)))
  rintro e1 w4 ⟨rfl, hb4⟩
  have hB4 := bnext' hB2 hb4
  clear hB2 hb4
  generalize hm1 : pmf (r + 1) (s + 1) = m1 at *
  have Hm1 : Hid (pmf (r + 1) (s + 1) = m1) := hm1
  clear hm1
  have px1 : InT (pmf m1 (d + e)) := pmf_bd m1 (d + e) (pm1) (inI_small (by omega) (by omega))
  go_wp2_with fail
  go_fit (rBy0_any m1 (d + e) (pm1) (inI_small (by omega) (by omega)))
  rintro e1 w5 ⟨rfl, hb5⟩
  have hB5 := bnext' hB4 hb5
  clear hB4 hb5
  generalize hx1 : pmf m1 (d + e) = x1 at *
  have Hx1 : Hid (pmf m1 (d + e) = x1) := hx1
  clear hx1
  have px2 : InT (smf x1 1) := smf_bd x1 1 (px1) (inI_small (by omega) (by omega))
  go_wp2_with fail
  go_fit (rPlus_any x1 1 (px1) (inT_small (by omega) (by omega)))
  rintro e1 w6 ⟨rfl, hw⟩
  subst w6
  generalize hx2 : smf x1 1 = x2 at *
  have Hx2 : Hid (smf x1 1 = x2) := hx2
  clear hx2
  have hrd : Rd (w5.alloc (.cells #[.int .i64 k, .int .i64 l, .int .i64 8] 3)) (some ⟨w5.heap.size, 0, none⟩) .i64 [k, l, 8] := rd_lit w5 [k, l, 8] 3
  have hin : ∀ y ∈ [k, l, 8], InT y := (List.forall_mem_cons.2 ⟨inT_small (by omega) (by omega), (List.forall_mem_cons.2 ⟨inT_small (by omega) (by omega), (List.forall_mem_cons.2 ⟨inT_small (by omega) (by omega), (List.forall_mem_nil _)⟩)⟩)⟩)
  go_wp2_with fail
  go_fit (rsum_lit [k, l, 8] 3 rfl (by decide) hrd hin)
  rintro e1 w7 ⟨rfl, hb7⟩
  have hB7 : Below w.heap.size w w7 := bnext' hB5 (bnext' ((Below.refl _ _).alloc (Nat.le_refl _) _) hb7)
  have px3 : InT (sms [k, l, 8]) := sms_inT hin
  clear hrd hin hB5 hb7
  generalize hx3 : sms [k, l, 8] = x3 at *
  have Hx3 : Hid (sms [k, l, 8] = x3) := hx3
  clear hx3
  have hrd : Rd (w7.alloc (.cells #[.int .i64 m1, .int .i64 m1, .int .i64 m1, .int .i64 x2, .int .i64 x3] 3)) (some ⟨w7.heap.size, 0, none⟩) .i64 [m1, m1, m1, x2, x3] := rd_lit w7 [m1, m1, m1, x2, x3] 3
  have hin : ∀ y ∈ [m1, m1, m1, x2, x3], InI y := (List.forall_mem_cons.2 ⟨⟨pm1.1, by have := pm1.2; omega⟩, (List.forall_mem_cons.2 ⟨⟨pm1.1, by have := pm1.2; omega⟩, (List.forall_mem_cons.2 ⟨⟨pm1.1, by have := pm1.2; omega⟩, (List.forall_mem_cons.2 ⟨⟨px2.1, by have := px2.2; omega⟩, (List.forall_mem_cons.2 ⟨⟨px3.1, by have := px3.2; omega⟩, (List.forall_mem_nil _)⟩)⟩)⟩)⟩)⟩)
  go_wp2_with fail
  go_fit (rtimes_lit [m1, m1, m1, x2, x3] 5 rfl (by decide) hrd hin)
  rintro e1 w8 ⟨rfl, hb8⟩
  have hB8 : Below w.heap.size w w8 := bnext' hB7 (bnext' ((Below.refl _ _).alloc (Nat.le_refl _) _) hb8)
  clear hrd hin hB7 hb8
  generalize hT : tms [m1, m1, m1, x2, x3] = T at *
  have HT : Hid (tms [m1, m1, m1, x2, x3] = T) := hT
  clear hT
  have h3' := h3 w8 hB8
  go_wp2_with fail
  go_fit h3'
  rintro e1 w9 ⟨rfl, hb9⟩
  have HB8 : Hid (Below w.heap.size w w9) := bnext' hB8 hb9
  clear h3 h3' hB8 hb9
  rcases Int.lt_or_le T Y with hlt | hge
  · have hmx : Hid (max T Y = Y) := by show max T Y = Y; omega
    go_wp2
    go_ret
    refine ⟨?_, HB8.out⟩
    rw [Hm1.out, Hx1.out, Hx2.out, Hx3.out, HT.out, hmx.out]
    rfl
  · have hmx : Hid (max T Y = T) := by show max T Y = T; omega
    have i1 : ¬ T < Y := by omega
    go_wp2
    go_ret
    refine ⟨?_, HB8.out⟩
    rw [Hm1.out, Hx1.out, Hx2.out, Hx3.out, HT.out, hmx.out]
    rfl
set_option maxHeartbeats 4000000 in
set_option maxRecDepth 100000 in
/-- ashlarref9.Cauchy. -/
theorem rCauchy9_any {w : World} {B T N E D B2 T2 N2 K : Nat} {x y : List (List Int)} {h g : Hdr} {p1 p2 : Option Addr} {n1 c1 n2 c2 : Nat} {rs qs : List Rq} {zs ys : List Rat} (H : HR D (EY N E) w B T x h) (G : HR D (EY N2 E) w B2 T2 y g) (hT : T ≤ w.heap.size) (hT2 : T2 ≤ w.heap.size) (hwa : WA (EM K) w p1 n1 c1 rs zs) (hwb : WA (EM K) w p2 n2 c2 qs ys) (hD : D ≤ 1000000) (hE : E ≤ 1000000) (hN : N ≤ 1000) (hN2 : N2 ≤ 1000) (hK : K ≤ 400) (hn1 : n1 ≤ 1000000) (hn2 : n2 ≤ 1000000) (hz : ∀ j, j < n1 → qb (gq zs j) ≤ 1000000) (hy : ∀ j, j < n2 → qb (gq ys j) ≤ 1000000) (b1 : SzB x) (b2 : SzB y) :
    Calls Tryz.prog 16 #[.slice h.p h.n h.c, .slice g.p g.n g.c, .slice p1 n1 c1, .slice p2 n2 c2] w fun e w' => e = .returned (.int .i64 (max (tms [pmf (rszD x + 1) (rszD y + 1), pmf (rszD x + 1) (rszD y + 1), pmf (rszD x + 1) (rszD y + 1), pmf (pmf (rszD x + 1) (rszD y + 1)) (rszO x + rszO y + rszD x + rszD y + 2), sms [rszB x, rszB y, 8]]) (tms [(n1 : Int) + n2 + 1, sms [(wbt zs : Int), (wbt ys : Int), 1]]))) ∧ Below w.heap.size w w' := by
  have h1 := fun w' (hb : Below w.heap.size w w') => rSize8_any ((lasts_HR (lasts_EY N E)).below H hT hb) (Nat.le_trans hT hb.size) hD hE hN
  have h2 := fun w' (hb : Below w.heap.size w w') => rSize8_any ((lasts_HR (lasts_EY N2 E)).below G hT2 hb) (Nat.le_trans hT2 hb.size) hD hE hN2
  have h3 := fun w' (hb : Below w.heap.size w w') => rWindows9_any (hwa.below (lasts_EM K) hb) (hwb.below (lasts_EM K) hb) hK hn1 hn2 hz hy
  obtain ⟨p, n, nc⟩ := h
  obtain ⟨p', n', nc'⟩ := g
  simp only at h1 h2 h3 ⊢
  clear H hT G hT2 hwa hwb hz hy
  unfold SzB at b1 b2
  generalize hYe : tms [(n1 : Int) + n2 + 1, sms [(wbt zs : Int), (wbt ys : Int), 1]] = Y at *
  have HYE : Hid (tms [(n1 : Int) + n2 + 1, sms [(wbt zs : Int), (wbt ys : Int), 1]] = Y) := hYe
  clear hYe
  generalize rszO x = r at *
  generalize rszD x = d at *
  generalize rszB x = k at *
  generalize rszO y = s at *
  generalize rszD y = e at *
  generalize rszB y = l at *
  go_enter Tryz.func16, Tryz.ntmps16
  go_wp2_with fail
  go_fit (h1 w (Below.refl _ _))
  rintro e1 w1 ⟨rfl, hB1⟩
  have h2' := h2 w1 hB1
  go_wp2_with fail
  go_fit h2'
  rintro e1 w2 ⟨rfl, hb2⟩
  have hB2 := bnext' hB1 hb2
  clear h1 h2 h2' hb2 hB1
  obtain ⟨⟨r0, r1⟩, ⟨d0, d1⟩, k0, k1⟩ := b1
  obtain ⟨⟨s0, s1⟩, ⟨e0', e1'⟩, l0, l1⟩ := b2
  have v0 : wrap64 (d + 1) = d + 1 := by unfold wrap64; omega
  have v1 : wrap64 (e + 1) = e + 1 := by unfold wrap64; omega
  have v2 : wrap64 (r + s) = r + s := by unfold wrap64; omega
  have v3 : wrap64 (r + s + d) = r + s + d := by unfold wrap64; omega
  have v4 : wrap64 (r + s + d + e) = r + s + d + e := by unfold wrap64; omega
  have v5 : wrap64 (r + s + d + e + 2) = r + s + d + e + 2 := by unfold wrap64; omega
  have pm1 : InT (pmf (d + 1) (e + 1)) := pmf_bd (d + 1) (e + 1) (inT_small (by omega) (by omega)) (inI_small (by omega) (by omega))
  go_wp2_with fail
  go_fit (rBy0_any (d + 1) (e + 1) (inT_small (by omega) (by omega)) (inI_small (by omega) (by omega)))
  rintro e1 w4 ⟨rfl, hb4⟩
  have hB4 := bnext' hB2 hb4
  clear hB2 hb4
  generalize hm1 : pmf (d + 1) (e + 1) = m1 at *
  have Hm1 : Hid (pmf (d + 1) (e + 1) = m1) := hm1
  clear hm1
  have px1 : InT (pmf m1 (r + s + d + e + 2)) := pmf_bd m1 (r + s + d + e + 2) (pm1) (inI_small (by omega) (by omega))
  go_wp2_with fail
  go_fit (rBy0_any m1 (r + s + d + e + 2) (pm1) (inI_small (by omega) (by omega)))
  rintro e1 w5 ⟨rfl, hb5⟩
  have hB5 := bnext' hB4 hb5
  clear hB4 hb5
  generalize hx1 : pmf m1 (r + s + d + e + 2) = x1 at *
  have Hx1 : Hid (pmf m1 (r + s + d + e + 2) = x1) := hx1
  clear hx1
  have hrd : Rd (w5.alloc (.cells #[.int .i64 k, .int .i64 l, .int .i64 8] 3)) (some ⟨w5.heap.size, 0, none⟩) .i64 [k, l, 8] := rd_lit w5 [k, l, 8] 3
  have hin : ∀ y ∈ [k, l, 8], InT y := (List.forall_mem_cons.2 ⟨inT_small (by omega) (by omega), (List.forall_mem_cons.2 ⟨inT_small (by omega) (by omega), (List.forall_mem_cons.2 ⟨inT_small (by omega) (by omega), (List.forall_mem_nil _)⟩)⟩)⟩)
  go_wp2_with fail
  go_fit (rsum_lit [k, l, 8] 3 rfl (by decide) hrd hin)
  rintro e1 w6 ⟨rfl, hb6⟩
  have hB6 : Below w.heap.size w w6 := bnext' hB5 (bnext' ((Below.refl _ _).alloc (Nat.le_refl _) _) hb6)
  have px3 : InT (sms [k, l, 8]) := sms_inT hin
  clear hrd hin hB5 hb6
  generalize hx3 : sms [k, l, 8] = x3 at *
  have Hx3 : Hid (sms [k, l, 8] = x3) := hx3
  clear hx3
  have hrd : Rd (w6.alloc (.cells #[.int .i64 m1, .int .i64 m1, .int .i64 m1, .int .i64 x1, .int .i64 x3] 3)) (some ⟨w6.heap.size, 0, none⟩) .i64 [m1, m1, m1, x1, x3] := rd_lit w6 [m1, m1, m1, x1, x3] 3
  have hin : ∀ y ∈ [m1, m1, m1, x1, x3], InI y := (List.forall_mem_cons.2 ⟨⟨pm1.1, by have := pm1.2; omega⟩, (List.forall_mem_cons.2 ⟨⟨pm1.1, by have := pm1.2; omega⟩, (List.forall_mem_cons.2 ⟨⟨pm1.1, by have := pm1.2; omega⟩, (List.forall_mem_cons.2 ⟨⟨px1.1, by have := px1.2; omega⟩, (List.forall_mem_cons.2 ⟨⟨px3.1, by have := px3.2; omega⟩, (List.forall_mem_nil _)⟩)⟩)⟩)⟩)⟩)
  go_wp2_with fail
  go_fit (rtimes_lit [m1, m1, m1, x1, x3] 5 rfl (by decide) hrd hin)
  rintro e1 w7 ⟨rfl, hb7⟩
  have hB7 : Below w.heap.size w w7 := bnext' hB6 (bnext' ((Below.refl _ _).alloc (Nat.le_refl _) _) hb7)
  clear hrd hin hB6 hb7
  generalize hT : tms [m1, m1, m1, x1, x3] = T at *
  have HT : Hid (tms [m1, m1, m1, x1, x3] = T) := hT
  clear hT
  have h3' := h3 w7 hB7
  go_wp2_with fail
  go_fit h3'
  rintro e1 w8 ⟨rfl, hb8⟩
  have HB8 : Hid (Below w.heap.size w w8) := bnext' hB7 hb8
  clear h3 h3' hB7 hb8
  rcases Int.lt_or_le T Y with hlt | hge
  · have hmx : Hid (max T Y = Y) := by show max T Y = Y; omega
    go_wp2
    go_ret
    refine ⟨?_, HB8.out⟩
    rw [Hm1.out, Hx1.out, Hx3.out, HT.out, hmx.out]
    rfl
  · have hmx : Hid (max T Y = T) := by show max T Y = T; omega
    have i1 : ¬ T < Y := by omega
    go_wp2
    go_ret
    refine ⟨?_, HB8.out⟩
    rw [Hm1.out, Hx1.out, Hx3.out, HT.out, hmx.out]
    rfl
end Go.Proofs.YtcdfckjlmifjiaaGreat
/-
  ashlarref9.Term.
-/
namespace Go.Proofs.YtcdfckjlmifjiaaGreat
open Go.RowKit
set_option linter.unusedVariables false
set_option linter.unusedSimpArgs false
set_option maxHeartbeats 1000000 in
/-- ashlarref9.Plus, of any number from 0 on. -/
theorem rPlusI_any {w : World} (a b : Int) (ha : InI a) (hb : InT b) :
    Calls Tryz.prog 34 #[.int .i64 a, .int .i64 b] w fun e w' => e = .returned (.int .i64 (smf a b)) ∧ w' = w := by
  unfold InI at ha
  unfold InT at hb
  have v1 : wrap64 (4611686018427387904 - b) = 4611686018427387904 - b := by unfold wrap64; omega
  rcases Int.lt_or_le (4611686018427387904 - b) a with h | h
  · have HE : Hid (smf a b = 4611686018427387904) := by show smf a b = _; unfold smf; omega
    rw [HE.out]
    go_enter Tryz.func34, Tryz.ntmps34
    go_wp2
    go_ret
    exact ⟨rfl, rfl⟩
  · have HE : Hid (smf a b = a + b) := by show smf a b = _; unfold smf; omega
    have h' : ¬ 4611686018427387904 - b < a := by omega
    have v2 : wrap64 (a + b) = a + b := by unfold wrap64; omega
    rw [HE.out]
    go_enter Tryz.func34, Tryz.ntmps34
    go_wp2
    go_ret
    exact ⟨rfl, rfl⟩
theorem smfI_bd (a b : Int) (ha : InI a) (hb : InT b) : InT (smf a b) := by
  unfold InI at ha
  unfold InT at hb ⊢
  unfold smf
  omega
theorem zb_inI {x : Int} (h : InI x) : (zb x : Int) ≤ 64 := by
  rw [← len_zb h]
  exact blen_le h
set_option maxHeartbeats 4000000 in
set_option maxRecDepth 100000 in
theorem rTerm9_pos {w : World} {B T N E D K : Nat} {x : List (List Int)} {h : Hdr} {p1 : Option Addr} {n1 c1 : Nat} {rs : List Rq} {zs : List Rat} {n : Int} (H : HR D (EY N E) w B T x h) (hT : T ≤ w.heap.size) (hwa : WA (EM K) w p1 n1 c1 rs zs) (hD : D ≤ 1000000) (hE : E ≤ 1000000) (hN : N ≤ 1000) (hK : K ≤ 400) (hn1 : n1 ≤ 1000000) (hz : ∀ j, j < n1 → qb (gq zs j) ≤ 1000000) (b1 : SzB x) (hn : 0 ≤ n ∧ n ≤ 9223372036854775807) :
    Calls Tryz.prog 10 #[.slice h.p h.n h.c, .slice p1 n1 c1, .int .i64 n] w fun e w' => e = .returned (.int .i64 (max (tms [smf n 1, rszO x + 1, sms [rszB x, pmf (rszD x + 1) ((zb n : Int) + 1), 8]]) (tms [smf n 1, (wbt zs : Int) + 1]))) ∧ Below w.heap.size w w' := by
  have h1 := fun w' (hb : Below w.heap.size w w') => rSize8_any ((lasts_HR (lasts_EY N E)).below H hT hb) (Nat.le_trans hT hb.size) hD hE hN
  have h2 := fun w' (hb : Below w.heap.size w w') => rWindow9_any (hwa.below (lasts_EM K) hb) hK hn1 hz
  have bz : wbt zs ≤ 1000000 := by
    have := wbt_bd zs 1000000 (fun j hj => hz j (by rw [← hwa.zl]; exact hj)) zs.length (Nat.le_refl _)
    rwa [List.take_length] at this
  obtain ⟨p, m, mc⟩ := h
  simp only at h1 h2 ⊢
  clear H hT hwa hz
  unfold SzB at b1
  generalize rszO x = r at *
  generalize rszD x = d at *
  generalize rszB x = k at *
  generalize hbz : (wbt zs : Int) = wv at *
  have hw0 : 0 ≤ wv ∧ wv ≤ 1000000 := by omega
  clear hbz bz
  have iN : InI n := ⟨hn.1, hn.2⟩
  have hof := fun w' => rOf_e n w' iN.1 iN.2
  have hz64 := zb_inI iN
  have t1 := smfI_bd n 1 iN ⟨by decide, by decide⟩
  have hpl := fun w' => rPlusI_any (w := w') n 1 iN ⟨by decide, by decide⟩
  have i0 : ¬ n < 0 := by omega
  obtain ⟨⟨r0, r1⟩, ⟨d0, d1⟩, k0, k1⟩ := b1
  have v0 : wrap64 (r + 1) = r + 1 := by unfold wrap64; omega
  have v1 : wrap64 (d + 1) = d + 1 := by unfold wrap64; omega
  have v3 : wrap64 (wv + 1) = wv + 1 := by unfold wrap64; omega
  go_enter Tryz.func10, Tryz.ntmps10
  go_wp2_with fail
  go_fit (h1 w (Below.refl _ _))
  rintro e1 w1 ⟨rfl, hB1⟩
  have h2' := h2 w1 hB1
  go_wp2_with fail
  go_fit h2'
  rintro e1 w2 ⟨rfl, hb2⟩
  have hB2 := bnext' hB1 hb2
  clear h1 h2 h2' hb2 hB1
  go_wp2_with fail
  go_fit (hof w2)
  rintro e1 w3 ⟨u, rfl, hRE, -, hb3⟩
  have hB3 := bnext' hB2 hb3
  have hbt := rBits_e hRE (by decide)
  clear hof hb3 hB2 hRE
  go_wp2_with fail
  go_fit hbt
  rintro e1 w4 ⟨rfl, hzb, hb4⟩
  have hB4 := bnext' hB3 hb4
  clear hbt hb4 hB3 hzb
  generalize hbb : (zb n : Int) = b at *
  have HBB : Hid ((zb n : Int) = b ∧ 0 ≤ b) := ⟨hbb, by omega⟩
  have hb0 : 0 ≤ b := HBB.out.2
  clear hbb
  have v4 : wrap64 (b + 1) = b + 1 := by unfold wrap64; omega
  go_wp2_with fail
  go_fit (hpl w4)
  rintro e1 w5 ⟨rfl, hw⟩
  subst w5
  generalize hs1 : smf n 1 = s1 at *
  have HS1 : Hid (smf n 1 = s1) := hs1
  clear hs1
  have pg : InT (pmf (d + 1) (b + 1)) := pmf_bd (d + 1) (b + 1) (inT_small (by omega) (by omega)) (inI_small (by omega) (by omega))
  go_wp2_with fail
  go_fit (rBy0_any (d + 1) (b + 1) (inT_small (by omega) (by omega)) (inI_small (by omega) (by omega)))
  rintro e1 w6 ⟨rfl, hb6⟩
  have hB6 := bnext' hB4 hb6
  clear hB4 hb6
  generalize hgg : pmf (d + 1) (b + 1) = g at *
  have HGG : Hid (pmf (d + 1) (b + 1) = g) := hgg
  clear hgg
  have hrd : Rd (w6.alloc (.cells #[.int .i64 k, .int .i64 g, .int .i64 8] 3)) (some ⟨w6.heap.size, 0, none⟩) .i64 [k, g, 8] := rd_lit w6 [k, g, 8] 3
  have hin : ∀ y ∈ [k, g, 8], InT y := (List.forall_mem_cons.2 ⟨inT_small (by omega) (by omega), (List.forall_mem_cons.2 ⟨pg, (List.forall_mem_cons.2 ⟨inT_small (by omega) (by omega), (List.forall_mem_nil _)⟩)⟩)⟩)
  go_wp2_with fail
  go_fit (rsum_lit [k, g, 8] 3 rfl (by decide) hrd hin)
  rintro e1 w7 ⟨rfl, hb7⟩
  have hB7 : Below w.heap.size w w7 := bnext' hB6 (bnext' ((Below.refl _ _).alloc (Nat.le_refl _) _) hb7)
  have ps : InT (sms [k, g, 8]) := sms_inT hin
  clear hrd hin hB6 hb7
  generalize hss : sms [k, g, 8] = s2 at *
  have HSS : Hid (sms [k, g, 8] = s2) := hss
  clear hss
  have hrd : Rd (w7.alloc (.cells #[.int .i64 s1, .int .i64 (r + 1), .int .i64 s2] 3)) (some ⟨w7.heap.size, 0, none⟩) .i64 [s1, r + 1, s2] := rd_lit w7 [s1, r + 1, s2] 3
  have hin : ∀ y ∈ [s1, r + 1, s2], InI y := (List.forall_mem_cons.2 ⟨⟨t1.1, by have := t1.2; omega⟩, (List.forall_mem_cons.2 ⟨inI_small (by omega) (by omega), (List.forall_mem_cons.2 ⟨⟨ps.1, by have := ps.2; omega⟩, (List.forall_mem_nil _)⟩)⟩)⟩)
  go_wp2_with fail
  go_fit (rtimes_lit [s1, r + 1, s2] 3 rfl (by decide) hrd hin)
  rintro e1 w8 ⟨rfl, hb8⟩
  have hB8 : Below w.heap.size w w8 := bnext' hB7 (bnext' ((Below.refl _ _).alloc (Nat.le_refl _) _) hb8)
  clear hrd hin hB7 hb8
  generalize htt : tms [s1, r + 1, s2] = T1 at *
  have HTT : Hid (tms [s1, r + 1, s2] = T1) := htt
  clear htt
  go_wp2_with fail
  go_fit (hpl w8)
  rintro e1 w9 ⟨rfl, hw⟩
  subst w9
  have hrd : Rd (w8.alloc (.cells #[.int .i64 s1, .int .i64 (wv + 1)] 3)) (some ⟨w8.heap.size, 0, none⟩) .i64 [s1, wv + 1] := rd_lit w8 [s1, wv + 1] 3
  have hin : ∀ y ∈ [s1, wv + 1], InI y := (List.forall_mem_cons.2 ⟨⟨t1.1, by have := t1.2; omega⟩, (List.forall_mem_cons.2 ⟨inI_small (by omega) (by omega), (List.forall_mem_nil _)⟩)⟩)
  go_wp2_with fail
  go_fit (rtimes_lit [s1, wv + 1] 2 rfl (by decide) hrd hin)
  rintro e1 w10 ⟨rfl, hb10⟩
  have HB8 : Hid (Below w.heap.size w w10) := bnext' hB8 (bnext' ((Below.refl _ _).alloc (Nat.le_refl _) _) hb10)
  clear hrd hin hB8 hb10 hpl
  generalize hyy : tms [s1, wv + 1] = Y at *
  have HYY : Hid (tms [s1, wv + 1] = Y) := hyy
  clear hyy
  rcases Int.lt_or_le T1 Y with hlt | hge
  · have hmx : Hid (max T1 Y = Y) := by show max T1 Y = Y; omega
    go_wp2
    go_ret
    refine ⟨?_, HB8.out⟩
    rw [HBB.out.1, HS1.out, HGG.out, HSS.out, HTT.out, HYY.out, hmx.out]
    rfl
  · have hmx : Hid (max T1 Y = T1) := by show max T1 Y = T1; omega
    have i1 : ¬ T1 < Y := by omega
    go_wp2
    go_ret
    refine ⟨?_, HB8.out⟩
    rw [HBB.out.1, HS1.out, HGG.out, HSS.out, HTT.out, HYY.out, hmx.out]
    rfl
set_option maxHeartbeats 4000000 in
set_option maxRecDepth 100000 in
theorem rTerm9_neg {w : World} {B T N E D K : Nat} {x : List (List Int)} {h : Hdr} {p1 : Option Addr} {n1 c1 : Nat} {rs : List Rq} {zs : List Rat} {n : Int} (H : HR D (EY N E) w B T x h) (hT : T ≤ w.heap.size) (hwa : WA (EM K) w p1 n1 c1 rs zs) (hD : D ≤ 1000000) (hE : E ≤ 1000000) (hN : N ≤ 1000) (hK : K ≤ 400) (hn1 : n1 ≤ 1000000) (hz : ∀ j, j < n1 → qb (gq zs j) ≤ 1000000) (b1 : SzB x) (hn : n < 0) :
    Calls Tryz.prog 10 #[.slice h.p h.n h.c, .slice p1 n1 c1, .int .i64 n] w fun e w' => e = .returned (.int .i64 (max (tms [smf 0 1, rszO x + 1, sms [rszB x, pmf (rszD x + 1) ((zb 0 : Int) + 1), 8]]) (tms [smf 0 1, (wbt zs : Int) + 1]))) ∧ Below w.heap.size w w' := by
  have h1 := fun w' (hb : Below w.heap.size w w') => rSize8_any ((lasts_HR (lasts_EY N E)).below H hT hb) (Nat.le_trans hT hb.size) hD hE hN
  have h2 := fun w' (hb : Below w.heap.size w w') => rWindow9_any (hwa.below (lasts_EM K) hb) hK hn1 hz
  have bz : wbt zs ≤ 1000000 := by
    have := wbt_bd zs 1000000 (fun j hj => hz j (by rw [← hwa.zl]; exact hj)) zs.length (Nat.le_refl _)
    rwa [List.take_length] at this
  obtain ⟨p, m, mc⟩ := h
  simp only at h1 h2 ⊢
  clear H hT hwa hz
  unfold SzB at b1
  generalize rszO x = r at *
  generalize rszD x = d at *
  generalize rszB x = k at *
  generalize hbz : (wbt zs : Int) = wv at *
  have hw0 : 0 ≤ wv ∧ wv ≤ 1000000 := by omega
  clear hbz bz
  have iN : InI 0 := inI_lit rfl
  have hof := fun w' => rOf_e 0 w' iN.1 iN.2
  have hz64 := zb_inI iN
  have t1 := smfI_bd 0 1 iN ⟨by decide, by decide⟩
  have hpl := fun w' => rPlusI_any (w := w') 0 1 iN ⟨by decide, by decide⟩
  have i0 : n < 0 := hn
  obtain ⟨⟨r0, r1⟩, ⟨d0, d1⟩, k0, k1⟩ := b1
  have v0 : wrap64 (r + 1) = r + 1 := by unfold wrap64; omega
  have v1 : wrap64 (d + 1) = d + 1 := by unfold wrap64; omega
  have v3 : wrap64 (wv + 1) = wv + 1 := by unfold wrap64; omega
  go_enter Tryz.func10, Tryz.ntmps10
  go_wp2_with fail
  go_fit (h1 w (Below.refl _ _))
  rintro e1 w1 ⟨rfl, hB1⟩
  have h2' := h2 w1 hB1
  go_wp2_with fail
  go_fit h2'
  rintro e1 w2 ⟨rfl, hb2⟩
  have hB2 := bnext' hB1 hb2
  clear h1 h2 h2' hb2 hB1
  go_wp2_with fail
  go_fit (hof w2)
  rintro e1 w3 ⟨u, rfl, hRE, -, hb3⟩
  have hB3 := bnext' hB2 hb3
  have hbt := rBits_e hRE (by decide)
  clear hof hb3 hB2 hRE
  go_wp2_with fail
  go_fit hbt
  rintro e1 w4 ⟨rfl, hzb, hb4⟩
  have hB4 := bnext' hB3 hb4
  clear hbt hb4 hB3 hzb
  generalize hbb : (zb 0 : Int) = b at *
  have HBB : Hid ((zb 0 : Int) = b ∧ 0 ≤ b) := ⟨hbb, by omega⟩
  have hb0 : 0 ≤ b := HBB.out.2
  clear hbb
  have v4 : wrap64 (b + 1) = b + 1 := by unfold wrap64; omega
  go_wp2_with fail
  go_fit (hpl w4)
  rintro e1 w5 ⟨rfl, hw⟩
  subst w5
  generalize hs1 : smf 0 1 = s1 at *
  have HS1 : Hid (smf 0 1 = s1) := hs1
  clear hs1
  have pg : InT (pmf (d + 1) (b + 1)) := pmf_bd (d + 1) (b + 1) (inT_small (by omega) (by omega)) (inI_small (by omega) (by omega))
  go_wp2_with fail
  go_fit (rBy0_any (d + 1) (b + 1) (inT_small (by omega) (by omega)) (inI_small (by omega) (by omega)))
  rintro e1 w6 ⟨rfl, hb6⟩
  have hB6 := bnext' hB4 hb6
  clear hB4 hb6
  generalize hgg : pmf (d + 1) (b + 1) = g at *
  have HGG : Hid (pmf (d + 1) (b + 1) = g) := hgg
  clear hgg
  have hrd : Rd (w6.alloc (.cells #[.int .i64 k, .int .i64 g, .int .i64 8] 3)) (some ⟨w6.heap.size, 0, none⟩) .i64 [k, g, 8] := rd_lit w6 [k, g, 8] 3
  have hin : ∀ y ∈ [k, g, 8], InT y := (List.forall_mem_cons.2 ⟨inT_small (by omega) (by omega), (List.forall_mem_cons.2 ⟨pg, (List.forall_mem_cons.2 ⟨inT_small (by omega) (by omega), (List.forall_mem_nil _)⟩)⟩)⟩)
  go_wp2_with fail
  go_fit (rsum_lit [k, g, 8] 3 rfl (by decide) hrd hin)
  rintro e1 w7 ⟨rfl, hb7⟩
  have hB7 : Below w.heap.size w w7 := bnext' hB6 (bnext' ((Below.refl _ _).alloc (Nat.le_refl _) _) hb7)
  have ps : InT (sms [k, g, 8]) := sms_inT hin
  clear hrd hin hB6 hb7
  generalize hss : sms [k, g, 8] = s2 at *
  have HSS : Hid (sms [k, g, 8] = s2) := hss
  clear hss
  have hrd : Rd (w7.alloc (.cells #[.int .i64 s1, .int .i64 (r + 1), .int .i64 s2] 3)) (some ⟨w7.heap.size, 0, none⟩) .i64 [s1, r + 1, s2] := rd_lit w7 [s1, r + 1, s2] 3
  have hin : ∀ y ∈ [s1, r + 1, s2], InI y := (List.forall_mem_cons.2 ⟨⟨t1.1, by have := t1.2; omega⟩, (List.forall_mem_cons.2 ⟨inI_small (by omega) (by omega), (List.forall_mem_cons.2 ⟨⟨ps.1, by have := ps.2; omega⟩, (List.forall_mem_nil _)⟩)⟩)⟩)
  go_wp2_with fail
  go_fit (rtimes_lit [s1, r + 1, s2] 3 rfl (by decide) hrd hin)
  rintro e1 w8 ⟨rfl, hb8⟩
  have hB8 : Below w.heap.size w w8 := bnext' hB7 (bnext' ((Below.refl _ _).alloc (Nat.le_refl _) _) hb8)
  clear hrd hin hB7 hb8
  generalize htt : tms [s1, r + 1, s2] = T1 at *
  have HTT : Hid (tms [s1, r + 1, s2] = T1) := htt
  clear htt
  go_wp2_with fail
  go_fit (hpl w8)
  rintro e1 w9 ⟨rfl, hw⟩
  subst w9
  have hrd : Rd (w8.alloc (.cells #[.int .i64 s1, .int .i64 (wv + 1)] 3)) (some ⟨w8.heap.size, 0, none⟩) .i64 [s1, wv + 1] := rd_lit w8 [s1, wv + 1] 3
  have hin : ∀ y ∈ [s1, wv + 1], InI y := (List.forall_mem_cons.2 ⟨⟨t1.1, by have := t1.2; omega⟩, (List.forall_mem_cons.2 ⟨inI_small (by omega) (by omega), (List.forall_mem_nil _)⟩)⟩)
  go_wp2_with fail
  go_fit (rtimes_lit [s1, wv + 1] 2 rfl (by decide) hrd hin)
  rintro e1 w10 ⟨rfl, hb10⟩
  have HB8 : Hid (Below w.heap.size w w10) := bnext' hB8 (bnext' ((Below.refl _ _).alloc (Nat.le_refl _) _) hb10)
  clear hrd hin hB8 hb10 hpl
  generalize hyy : tms [s1, wv + 1] = Y at *
  have HYY : Hid (tms [s1, wv + 1] = Y) := hyy
  clear hyy
  rcases Int.lt_or_le T1 Y with hlt | hge
  · have hmx : Hid (max T1 Y = Y) := by show max T1 Y = Y; omega
    go_wp2
    go_ret
    refine ⟨?_, HB8.out⟩
    rw [HBB.out.1, HS1.out, HGG.out, HSS.out, HTT.out, HYY.out, hmx.out]
    rfl
  · have hmx : Hid (max T1 Y = T1) := by show max T1 Y = T1; omega
    have i1 : ¬ T1 < Y := by omega
    go_wp2
    go_ret
    refine ⟨?_, HB8.out⟩
    rw [HBB.out.1, HS1.out, HGG.out, HSS.out, HTT.out, HYY.out, hmx.out]
    rfl
end Go.Proofs.YtcdfckjlmifjiaaGreat
