/-
  Sums stay below the top.
-/
import Derived.Test.YtcdfckjlmifjiaaAxAzBl
import Derived.Deep.DeepFit
import Derived.Test.YtcdfckjlmifjiaaOrAv
namespace Go.Proofs.Ytcdfckjlmifjiaa
open Go.RowKit
theorem sms_inT {xs : List Int} (h : ∀ x ∈ xs, InT x) : InT (sms xs) := by
  have := fold_inv smf InT InI smf_bd xs 0 ⟨by decide, by decide⟩ (fun x hx => ⟨(h x hx).1, by have := (h x hx).2; omega⟩)
  exact this
end Go.Proofs.Ytcdfckjlmifjiaa
/-
  ashlarref9.Divide.
-/
namespace Go.Proofs.Ytcdfckjlmifjiaa
open Go.RowKit
set_option linter.unusedVariables false
set_option linter.unusedSimpArgs false


set_option maxHeartbeats 4000000 in
set_option maxRecDepth 100000 in
/-- ashlarref9.Divide. -/
theorem rDivide9_any {w : World} {B T N E D B2 T2 N2 M : Nat} {x y : List (List Int)} {h g : Hdr} {q : Int} {e0 : Ent} (H : HR D (EY N E) w B T x h) (G : HR D (EY N2 E) w B2 T2 y g) (hT : T ≤ w.heap.size) (hT2 : T2 ≤ w.heap.size) (hq : RE w M q e0) (hD : D ≤ 1000000) (hE : E ≤ 1000000) (hN : N ≤ 1000) (hN2 : N2 ≤ 1000) (hM : M ≤ 1000) (b1 : SzB x) (b2 : SzB y) :
    Calls Try.prog 18 #[.slice h.p h.n h.c, .slice g.p g.n g.c, .agg #[.bool e0.s, .slice e0.p e0.n e0.c]] w fun e w' => e = .returned (.int .i64 (tms [rszO x + 1, rszO y + 1, rszO x + rszO y + 2, rszD x + rszD y + 2, sms [rszB x, rszB y, pmf (rszO x + 1) ((zb q : Int) + 2), 8]])) ∧ Below w.heap.size w w' := by
  have h1 := fun w' (hb : Below w.heap.size w w') => rSize8_any ((lasts_HR (lasts_EY N E)).below H hT hb) (Nat.le_trans hT hb.size) hD hE hN
  have h2 := fun w' (hb : Below w.heap.size w w') => rSize8_any ((lasts_HR (lasts_EY N2 E)).below G hT2 hb) (Nat.le_trans hT2 hb.size) hD hE hN2
  have h3 := fun w' (hb : Below w.heap.size w w') => rBits_e (hq.below hb) hM
  obtain ⟨p, n, nc⟩ := h
  obtain ⟨p', n', nc'⟩ := g
  simp only at h1 h2 h3 ⊢
  clear H hT G hT2 hq
  unfold SzB at b1 b2
  generalize rszO x = r at *
  generalize rszD x = d at *
  generalize rszB x = k at *
  generalize rszO y = s at *
  generalize rszD y = e at *
  generalize rszB y = l at *
  have hW : Below w.heap.size w (w.alloc (.cells #[.bool e0.s, .slice e0.p e0.n e0.c] 40)) := (Below.refl _ _).alloc (Nat.le_refl _) _
  have c0 : (w.alloc (.cells #[.bool e0.s, .slice e0.p e0.n e0.c] 40)).cell? ⟨w.heap.size, 0, none⟩ = some (.bool e0.s) := by simp [go_sem]
  have c1 : (w.alloc (.cells #[.bool e0.s, .slice e0.p e0.n e0.c] 40)).cell? ⟨w.heap.size, 1, none⟩ = some (.slice e0.p e0.n e0.c) := by simp [go_sem]
  go_enter Try.func18, Try.ntmps18
  go_wp2_with fail
  generalize w.alloc (.cells #[.bool e0.s, .slice e0.p e0.n e0.c] 40) = W at *
  go_fit (h1 W hW)
  rintro e1 w1 ⟨rfl, hb1⟩
  have hB1 := bnext' hW hb1
  have h2' := h2 w1 hB1
  go_wp2_with fail
  go_fit h2'
  rintro e1 w2 ⟨rfl, hb2⟩
  have hB2 := bnext' hB1 hb2
  have h3' := h3 w2 hB2
  have d0 := cell_later (bnext' hb1 hb2) c0
  have d1 := cell_later (bnext' hb1 hb2) c1
  go_wp2_with fail
  go_fit h3'
  rintro e1 w3 ⟨rfl, hzb, hb3⟩
  have hB3 := bnext' hB2 hb3
  clear h1 h3 h3' hb1 hb3 hB1 c0 c1 d0 d1 hW h2 h2' hb2 hB2
  have hm : 0 ≤ (zb q : Int) ∧ (zb q : Int) ≤ 1000000 := by omega
  clear hzb
  generalize hmm : (zb q : Int) = m at *
  have HMM : Hid ((zb q : Int) = m) := hmm
  clear hmm
  obtain ⟨m0, m1⟩ := hm
  obtain ⟨⟨r0, r1⟩, ⟨d0, d1⟩, k0, k1⟩ := b1
  obtain ⟨⟨s0, s1⟩, ⟨e0', e1'⟩, l0, l1⟩ := b2
  have v0 : wrap64 (r + 1) = r + 1 := by unfold wrap64; omega
  have v1 : wrap64 (s + 1) = s + 1 := by unfold wrap64; omega
  have v2 : wrap64 (r + s) = r + s := by unfold wrap64; omega
  have v3 : wrap64 (r + s + 2) = r + s + 2 := by unfold wrap64; omega
  have v4 : wrap64 (d + e) = d + e := by unfold wrap64; omega
  have v5 : wrap64 (d + e + 2) = d + e + 2 := by unfold wrap64; omega
  have v6 : wrap64 (m + 2) = m + 2 := by unfold wrap64; omega
  have px1 : InT (pmf (r + 1) (m + 2)) := pmf_bd (r + 1) (m + 2) (inT_small (by omega) (by omega)) (inI_small (by omega) (by omega))
  go_wp2_with fail
  go_fit (rBy0_any (r + 1) (m + 2) (inT_small (by omega) (by omega)) (inI_small (by omega) (by omega)))
  rintro e1 w4 ⟨rfl, hb4⟩
  have hB4 := bnext' hB3 hb4
  clear hB3 hb4
  generalize hx1 : pmf (r + 1) (m + 2) = x1 at *
  have Hx1 : Hid (pmf (r + 1) (m + 2) = x1) := hx1
  clear hx1
  have hrd : Rd (w4.alloc (.cells #[.int .i64 k, .int .i64 l, .int .i64 x1, .int .i64 8] 3)) (some ⟨w4.heap.size, 0, none⟩) .i64 [k, l, x1, 8] := rd_lit w4 [k, l, x1, 8] 3
  have hin : ∀ y ∈ [k, l, x1, 8], InT y := (List.forall_mem_cons.2 ⟨inT_small (by omega) (by omega), (List.forall_mem_cons.2 ⟨inT_small (by omega) (by omega), (List.forall_mem_cons.2 ⟨px1, (List.forall_mem_cons.2 ⟨inT_small (by omega) (by omega), (List.forall_mem_nil _)⟩)⟩)⟩)⟩)
  go_wp2_with fail
  go_fit (rsum_lit [k, l, x1, 8] 4 rfl (by decide) hrd hin)
  rintro e1 w5 ⟨rfl, hb5⟩
  have hB5 : Below w.heap.size w w5 := bnext' hB4 (bnext' ((Below.refl _ _).alloc (Nat.le_refl _) _) hb5)
  have px4 : InT (sms [k, l, x1, 8]) := sms_inT hin
  clear hrd hin hB4 hb5
  generalize hx4 : sms [k, l, x1, 8] = x4 at *
  have Hx4 : Hid (sms [k, l, x1, 8] = x4) := hx4
  clear hx4
  have hrd : Rd (w5.alloc (.cells #[.int .i64 (r + 1), .int .i64 (s + 1), .int .i64 (r + s + 2), .int .i64 (d + e + 2), .int .i64 x4] 3)) (some ⟨w5.heap.size, 0, none⟩) .i64 [r + 1, s + 1, r + s + 2, d + e + 2, x4] := rd_lit w5 [r + 1, s + 1, r + s + 2, d + e + 2, x4] 3
  go_wp2_with fail
  go_fit (rtimes_lit [r + 1, s + 1, r + s + 2, d + e + 2, x4] 5 rfl (by decide) hrd (List.forall_mem_cons.2 ⟨inI_small (by omega) (by omega), (List.forall_mem_cons.2 ⟨inI_small (by omega) (by omega), (List.forall_mem_cons.2 ⟨inI_small (by omega) (by omega), (List.forall_mem_cons.2 ⟨inI_small (by omega) (by omega), (List.forall_mem_cons.2 ⟨⟨px4.1, by have := px4.2; omega⟩, (List.forall_mem_nil _)⟩)⟩)⟩)⟩)⟩))
  rintro e1 w6 ⟨rfl, hb6⟩
  have HB8 : Hid (Below w.heap.size w w6) := bnext' hB5 (bnext' ((Below.refl _ _).alloc (Nat.le_refl _) _) hb6)
  clear hrd hB5 hb6
  go_wp2
  go_ret
  refine ⟨?_, HB8.out⟩
  rw [HMM.out, Hx1.out, Hx4.out]
  rfl
end Go.Proofs.Ytcdfckjlmifjiaa
/-
  ashlarref9.Common.
-/
namespace Go.Proofs.Ytcdfckjlmifjiaa
open Go.RowKit
set_option linter.unusedVariables false
set_option linter.unusedSimpArgs false


set_option maxHeartbeats 4000000 in
set_option maxRecDepth 100000 in
/-- ashlarref9.Common. -/
theorem rCommon9_any {w : World} {B T N E D B2 T2 N2 M : Nat} {x y : List (List Int)} {h g : Hdr} {q : Int} {e0 : Ent} (H : HR D (EY N E) w B T x h) (G : HR D (EY N2 E) w B2 T2 y g) (hT : T ≤ w.heap.size) (hT2 : T2 ≤ w.heap.size) (hq : RE w M q e0) (hD : D ≤ 1000000) (hE : E ≤ 1000000) (hN : N ≤ 1000) (hN2 : N2 ≤ 1000) (hM : M ≤ 1000) (b1 : SzB x) (b2 : SzB y) :
    Calls Try.prog 20 #[.slice h.p h.n h.c, .slice g.p g.n g.c, .agg #[.bool e0.s, .slice e0.p e0.n e0.c]] w fun e w' => e = .returned (.int .i64 (tms [rszO x + rszO y + 2, rszO x + rszO y + 2, rszO x + rszO y + 2, smf (pmf (rszO x + rszO y + 2) (rszD x + rszD y)) 2, sms [rszB x, rszB y, pmf (rszO x + rszO y + 1) ((zb q : Int) + 2), 8]])) ∧ Below w.heap.size w w' := by
  have h1 := fun w' (hb : Below w.heap.size w w') => rSize8_any ((lasts_HR (lasts_EY N E)).below H hT hb) (Nat.le_trans hT hb.size) hD hE hN
  have h2 := fun w' (hb : Below w.heap.size w w') => rSize8_any ((lasts_HR (lasts_EY N2 E)).below G hT2 hb) (Nat.le_trans hT2 hb.size) hD hE hN2
  have h3 := fun w' (hb : Below w.heap.size w w') => rBits_e (hq.below hb) hM
  obtain ⟨p, n, nc⟩ := h
  obtain ⟨p', n', nc'⟩ := g
  simp only at h1 h2 h3 ⊢
  clear H hT G hT2 hq
  unfold SzB at b1 b2
  generalize rszO x = r at *
  generalize rszD x = d at *
  generalize rszB x = k at *
  generalize rszO y = s at *
  generalize rszD y = e at *
  generalize rszB y = l at *
  have hW : Below w.heap.size w (w.alloc (.cells #[.bool e0.s, .slice e0.p e0.n e0.c] 40)) := (Below.refl _ _).alloc (Nat.le_refl _) _
  have c0 : (w.alloc (.cells #[.bool e0.s, .slice e0.p e0.n e0.c] 40)).cell? ⟨w.heap.size, 0, none⟩ = some (.bool e0.s) := by simp [go_sem]
  have c1 : (w.alloc (.cells #[.bool e0.s, .slice e0.p e0.n e0.c] 40)).cell? ⟨w.heap.size, 1, none⟩ = some (.slice e0.p e0.n e0.c) := by simp [go_sem]
  go_enter Try.func20, Try.ntmps20
  go_wp2_with fail
  generalize w.alloc (.cells #[.bool e0.s, .slice e0.p e0.n e0.c] 40) = W at *
  go_fit (h1 W hW)
  rintro e1 w1 ⟨rfl, hb1⟩
  have hB1 := bnext' hW hb1
  have h2' := h2 w1 hB1
  go_wp2_with fail
  go_fit h2'
  rintro e1 w2 ⟨rfl, hb2⟩
  have hB2 := bnext' hB1 hb2
  have h3' := h3 w2 hB2
  have d0 := cell_later (bnext' hb1 hb2) c0
  have d1 := cell_later (bnext' hb1 hb2) c1
  go_wp2_with fail
  go_fit h3'
  rintro e1 w3 ⟨rfl, hzb, hb3⟩
  have hB3 := bnext' hB2 hb3
  clear h1 h3 h3' hb1 hb3 hB1 c0 c1 d0 d1 hW h2 h2' hb2 hB2
  have hm : 0 ≤ (zb q : Int) ∧ (zb q : Int) ≤ 1000000 := by omega
  clear hzb
  generalize hmm : (zb q : Int) = m at *
  have HMM : Hid ((zb q : Int) = m) := hmm
  clear hmm
  obtain ⟨m0, m1⟩ := hm
  obtain ⟨⟨r0, r1⟩, ⟨d0, d1⟩, k0, k1⟩ := b1
  obtain ⟨⟨s0, s1⟩, ⟨e0', e1'⟩, l0, l1⟩ := b2
  have v0 : wrap64 (r + s) = r + s := by unfold wrap64; omega
  have v1 : wrap64 (r + s + 2) = r + s + 2 := by unfold wrap64; omega
  have v2 : wrap64 (d + e) = d + e := by unfold wrap64; omega
  have v3 : wrap64 (r + s + 1) = r + s + 1 := by unfold wrap64; omega
  have v4 : wrap64 (m + 2) = m + 2 := by unfold wrap64; omega
  have px1 : InT (pmf (r + s + 2) (d + e)) := pmf_bd (r + s + 2) (d + e) (inT_small (by omega) (by omega)) (inI_small (by omega) (by omega))
  go_wp2_with fail
  go_fit (rBy0_any (r + s + 2) (d + e) (inT_small (by omega) (by omega)) (inI_small (by omega) (by omega)))
  rintro e1 w4 ⟨rfl, hb4⟩
  have hB4 := bnext' hB3 hb4
  clear hB3 hb4
  generalize hx1 : pmf (r + s + 2) (d + e) = x1 at *
  have Hx1 : Hid (pmf (r + s + 2) (d + e) = x1) := hx1
  clear hx1
  have px2 : InT (smf x1 2) := smf_bd x1 2 (px1) (inI_small (by omega) (by omega))
  go_wp2_with fail
  go_fit (rPlus_any x1 2 (px1) (inT_small (by omega) (by omega)))
  rintro e1 w5 ⟨rfl, hw⟩
  subst w5
  generalize hx2 : smf x1 2 = x2 at *
  have Hx2 : Hid (smf x1 2 = x2) := hx2
  clear hx2
  have px3 : InT (pmf (r + s + 1) (m + 2)) := pmf_bd (r + s + 1) (m + 2) (inT_small (by omega) (by omega)) (inI_small (by omega) (by omega))
  go_wp2_with fail
  go_fit (rBy0_any (r + s + 1) (m + 2) (inT_small (by omega) (by omega)) (inI_small (by omega) (by omega)))
  rintro e1 w6 ⟨rfl, hb6⟩
  have hB6 := bnext' hB4 hb6
  clear hB4 hb6
  generalize hx3 : pmf (r + s + 1) (m + 2) = x3 at *
  have Hx3 : Hid (pmf (r + s + 1) (m + 2) = x3) := hx3
  clear hx3
  have hrd : Rd (w6.alloc (.cells #[.int .i64 k, .int .i64 l, .int .i64 x3, .int .i64 8] 3)) (some ⟨w6.heap.size, 0, none⟩) .i64 [k, l, x3, 8] := rd_lit w6 [k, l, x3, 8] 3
  have hin : ∀ y ∈ [k, l, x3, 8], InT y := (List.forall_mem_cons.2 ⟨inT_small (by omega) (by omega), (List.forall_mem_cons.2 ⟨inT_small (by omega) (by omega), (List.forall_mem_cons.2 ⟨px3, (List.forall_mem_cons.2 ⟨inT_small (by omega) (by omega), (List.forall_mem_nil _)⟩)⟩)⟩)⟩)
  go_wp2_with fail
  go_fit (rsum_lit [k, l, x3, 8] 4 rfl (by decide) hrd hin)
  rintro e1 w7 ⟨rfl, hb7⟩
  have hB7 : Below w.heap.size w w7 := bnext' hB6 (bnext' ((Below.refl _ _).alloc (Nat.le_refl _) _) hb7)
  have px4 : InT (sms [k, l, x3, 8]) := sms_inT hin
  clear hrd hin hB6 hb7
  generalize hx4 : sms [k, l, x3, 8] = x4 at *
  have Hx4 : Hid (sms [k, l, x3, 8] = x4) := hx4
  clear hx4
  have hrd : Rd (w7.alloc (.cells #[.int .i64 (r + s + 2), .int .i64 (r + s + 2), .int .i64 (r + s + 2), .int .i64 x2, .int .i64 x4] 3)) (some ⟨w7.heap.size, 0, none⟩) .i64 [r + s + 2, r + s + 2, r + s + 2, x2, x4] := rd_lit w7 [r + s + 2, r + s + 2, r + s + 2, x2, x4] 3
  go_wp2_with fail
  go_fit (rtimes_lit [r + s + 2, r + s + 2, r + s + 2, x2, x4] 5 rfl (by decide) hrd (List.forall_mem_cons.2 ⟨inI_small (by omega) (by omega), (List.forall_mem_cons.2 ⟨inI_small (by omega) (by omega), (List.forall_mem_cons.2 ⟨inI_small (by omega) (by omega), (List.forall_mem_cons.2 ⟨⟨px2.1, by have := px2.2; omega⟩, (List.forall_mem_cons.2 ⟨⟨px4.1, by have := px4.2; omega⟩, (List.forall_mem_nil _)⟩)⟩)⟩)⟩)⟩))
  rintro e1 w8 ⟨rfl, hb8⟩
  have HB8 : Hid (Below w.heap.size w w8) := bnext' hB7 (bnext' ((Below.refl _ _).alloc (Nat.le_refl _) _) hb8)
  clear hrd hB7 hb8
  go_wp2
  go_ret
  refine ⟨?_, HB8.out⟩
  rw [HMM.out, Hx1.out, Hx2.out, Hx3.out, Hx4.out]
  rfl
end Go.Proofs.Ytcdfckjlmifjiaa
/-
  ashlarref9.Apply.
-/
namespace Go.Proofs.Ytcdfckjlmifjiaa
open Go.RowKit
set_option linter.unusedVariables false
set_option linter.unusedSimpArgs false

set_option maxHeartbeats 4000000 in
set_option maxRecDepth 100000 in
/-- ashlarref9.Apply. -/
theorem rApply9_any {w : World} {B T N E D N2 M : Nat} {x : List (List Int)} {h : Hdr} {f : Option Addr} {fn fc : Nat} {fs : List Ent} {zs : List Int} {q : Int} {e0 : Ent} (H : HR D (EY N E) w B T x h) (G : PR w N2 f fn fc fs zs) (hT : T ≤ w.heap.size) (hq : RE w M q e0) (hD : D ≤ 1000000) (hE : E ≤ 1000000) (hN : N ≤ 1000) (hN2 : N2 ≤ 1000) (hM : M ≤ 1000) (hfn : fn ≤ 1000000) (hfb : pb zs ≤ 1000000000) (b1 : SzB x) :
    Calls Try.prog 16 #[.slice h.p h.n h.c, .slice f fn fc, .agg #[.bool e0.s, .slice e0.p e0.n e0.c]] w fun e w' => e = .returned (.int .i64 (tms [rszO x + 1, rszD x + ((fn : Int) - 1) + 3, sms [rszB x, (pb zs : Int), pmf (pmf (rszO x + 1) ((fn : Int) - 1 + 2)) ((zb q : Int) + 8)]])) ∧ Below w.heap.size w w' := by
  have h1 := fun w' (hb : Below w.heap.size w w') => rSize8_any ((lasts_HR (lasts_EY N E)).below H hT hb) (Nat.le_trans hT hb.size) hD hE hN
  have h3 := fun w' (hb : Below w.heap.size w w') => rBits_e (hq.below hb) hM
  have h4 := fun w' => rpDeg_any f fn fc w' (by omega)
  have h5 := fun w' (hb : Below w.heap.size w w') => rpBits_any (G.below hb) hN2 (by omega)
  obtain ⟨p, n, nc⟩ := h
  simp only at h1 h3 ⊢
  clear H G hT hq
  unfold SzB at b1
  have hg0 : -1 ≤ (fn : Int) - 1 ∧ (fn : Int) - 1 ≤ 1000000 := by omega
  have hl0 : 0 ≤ (pb zs : Int) ∧ (pb zs : Int) ≤ 1000000000 := by omega
  generalize rszO x = r at *
  generalize rszD x = d at *
  generalize rszB x = k at *
  generalize (fn : Int) - 1 = g at *
  generalize (pb zs : Int) = l at *
  have hW : Below w.heap.size w (w.alloc (.cells #[.bool e0.s, .slice e0.p e0.n e0.c] 40)) := (Below.refl _ _).alloc (Nat.le_refl _) _
  have c0 : (w.alloc (.cells #[.bool e0.s, .slice e0.p e0.n e0.c] 40)).cell? ⟨w.heap.size, 0, none⟩ = some (.bool e0.s) := by simp [go_sem]
  have c1 : (w.alloc (.cells #[.bool e0.s, .slice e0.p e0.n e0.c] 40)).cell? ⟨w.heap.size, 1, none⟩ = some (.slice e0.p e0.n e0.c) := by simp [go_sem]
  go_enter Try.func16, Try.ntmps16
  go_wp2_with fail
  generalize w.alloc (.cells #[.bool e0.s, .slice e0.p e0.n e0.c] 40) = W at *
  go_fit (h1 W hW)
  rintro e1 w1 ⟨rfl, hb1⟩
  have hB1 := bnext' hW hb1
  have h3' := h3 w1 hB1
  have d0' := cell_later hb1 c0
  have d1' := cell_later hb1 c1
  go_wp2_with fail
  go_fit h3'
  rintro e1 w2 ⟨rfl, hzb, hb2⟩
  have hB2 := bnext' hB1 hb2
  have hm : 0 ≤ (zb q : Int) ∧ (zb q : Int) ≤ 1000000 := by omega
  clear hzb h1 h3 h3' hb1 hb2 hB1 c0 c1 d0' d1' hW
  generalize hmm : (zb q : Int) = m at *
  have HMM : Hid ((zb q : Int) = m) := hmm
  clear hmm
  go_wp2_with fail
  go_fit (h4 w2)
  rintro e1 w3 ⟨rfl, hb3⟩
  have hB3 := bnext' hB2 hb3
  obtain ⟨⟨r0, r1⟩, ⟨d0, d1⟩, k0, k1⟩ := b1
  obtain ⟨m0, m1⟩ := hm
  obtain ⟨g0, g1⟩ := hg0
  obtain ⟨l0, l1⟩ := hl0
  have v1 : wrap64 (r + 1) = r + 1 := by unfold wrap64; omega
  have v2 : wrap64 (d + g) = d + g := by unfold wrap64; omega
  have v3 : wrap64 (d + g + 3) = d + g + 3 := by unfold wrap64; omega
  have v4 : wrap64 (g + 2) = g + 2 := by unfold wrap64; omega
  have v5 : wrap64 (m + 8) = m + 8 := by unfold wrap64; omega
  have t1 : InT (r + 1) := inT_small (by omega) (by omega)
  have t2 : InI (g + 2) := inI_small (by omega) (by omega)
  have t4 : InI (m + 8) := inI_small (by omega) (by omega)
  have p2 := pmf_bd (r + 1) (g + 2) t1 t2
  have p3 := pmf_bd (pmf (r + 1) (g + 2)) (m + 8) p2 t4
  have h5' := h5 w3 hB3
  clear h4 h5 hB2 hb3
  go_wp2_with fail
  go_fit h5'
  rintro e1 w4 ⟨rfl, hb4⟩
  have hB4 := bnext' hB3 hb4
  clear h5' hb4 hB3
  go_wp2_with fail
  go_fit (rBy0_any (r + 1) (g + 2) t1 t2)
  rintro e1 w5 ⟨rfl, hb5⟩
  have hB5 := bnext' hB4 hb5
  go_wp2_with fail
  go_fit (rBy0_any (pmf (r + 1) (g + 2)) (m + 8) p2 t4)
  rintro e1 w6 ⟨rfl, hb6⟩
  have hB6 := bnext' hB5 hb6
  clear hB4 hB5 hb5 hb6
  generalize hx2 : pmf (pmf (r + 1) (g + 2)) (m + 8) = x2 at *
  have HX2 : Hid (pmf (pmf (r + 1) (g + 2)) (m + 8) = x2) := hx2
  clear hx2
  generalize hx3 : pmf (r + 1) (g + 2) = x3 at *
  have HX3 : Hid (pmf (r + 1) (g + 2) = x3) := hx3
  clear hx3
  have hrd : Rd (w6.alloc (.cells #[.int .i64 k, .int .i64 l, .int .i64 x2] 3)) (some ⟨w6.heap.size, 0, none⟩) .i64 [k, l, x2] := rd_lit w6 [k, l, x2] 3
  have hin : ∀ y ∈ [k, l, x2], InT y := (List.forall_mem_cons.2 ⟨inT_small (by omega) (by omega), (List.forall_mem_cons.2 ⟨inT_small (by omega) (by omega), (List.forall_mem_cons.2 ⟨p3, (List.forall_mem_nil _)⟩)⟩)⟩)
  go_wp2_with fail
  go_fit (rsum_lit [k, l, x2] 3 rfl (by decide) hrd hin)
  rintro e1 w7 ⟨rfl, hb7⟩
  have hB7 : Below w.heap.size w w7 := bnext' hB6 (bnext' ((Below.refl _ _).alloc (Nat.le_refl _) _) hb7)
  have hsI : InI (sms [k, l, x2]) := sms_in fun y hy => ⟨(hin y hy).1, by have := (hin y hy).2; omega⟩
  clear hrd hb7 hB6 hin
  generalize hx4 : sms [k, l, x2] = x4 at *
  have HX4 : Hid (sms [k, l, x2] = x4) := hx4
  clear hx4
  have hrd : Rd (w7.alloc (.cells #[.int .i64 (r + 1), .int .i64 (d + g + 3), .int .i64 x4] 3)) (some ⟨w7.heap.size, 0, none⟩) .i64 [r + 1, d + g + 3, x4] := rd_lit w7 [r + 1, d + g + 3, x4] 3
  go_wp2_with fail
  go_fit (rtimes_lit [r + 1, d + g + 3, x4] 3 rfl (by decide) hrd (List.forall_mem_cons.2 ⟨inI_small (by omega) (by omega), (List.forall_mem_cons.2 ⟨inI_small (by omega) (by omega), (List.forall_mem_cons.2 ⟨hsI, (List.forall_mem_nil _)⟩)⟩)⟩))
  rintro e1 w8 ⟨rfl, hb8⟩
  have HB8 : Hid (Below w.heap.size w w8) := bnext' hB7 (bnext' ((Below.refl _ _).alloc (Nat.le_refl _) _) hb8)
  clear hrd hb8 hB7
  go_wp2
  go_ret
  refine ⟨?_, HB8.out⟩
  rw [HMM.out, HX3.out, HX2.out, HX4.out]
  rfl
end Go.Proofs.Ytcdfckjlmifjiaa
/-
  Plain: the program's estimates are the reference's.
-/
namespace Go.Proofs.Ytcdfckjlmifjiaa
open Go.RowKit
set_option linter.unusedVariables false
set_option linter.unusedSimpArgs false

/-- The plain sum. -/
def sm1 : List Int → Int
  | [] => 0
  | x :: xs => x + sm1 xs
theorem sm1_pos : ∀ xs : List Int, (∀ x ∈ xs, 0 ≤ x) → 0 ≤ sm1 xs
  | [], _ => by decide
  | x :: xs, h => by
    have h1 := sm1_pos xs fun y hy => h y (by simp [hy])
    have h2 := h x (by simp)
    rw [sm1]
    omega
theorem fold_sm1 : ∀ (xs : List Int) (c : Int), 0 ≤ c → c ≤ 4611686018427387904 → (∀ x ∈ xs, 0 ≤ x) → xs.foldl smf c = min (c + sm1 xs) 4611686018427387904
  | [], c, h0, h1, _ => by
    rw [sm1]
    show c = _
    omega
  | x :: xs, c, h0, h1, h => by
    have hx := h x (by simp)
    have hp := sm1_pos xs fun y hy => h y (by simp [hy])
    rw [List.foldl_cons, fold_sm1 xs (smf c x) (by unfold smf; omega) (by unfold smf; omega) fun y hy => h y (by simp [hy]), sm1]
    unfold smf
    omega
theorem sms_sm1 (xs : List Int) (h : ∀ x ∈ xs, 0 ≤ x) : sms xs = min (sm1 xs) 4611686018427387904 := by
  rw [sms, fold_sm1 xs 0 (by decide) (by decide) h, Int.zero_add]
theorem pmf_one {a : Int} (h : InT a) : pmf 1 a = a := by
  unfold pmf
  rw [Int.one_mul]
  have := h.2
  omega
theorem pms_two {a b : Int} (h : InT a) : pms [a, b] = pmf a b := by
  show pmf (pmf 1 a) b = _
  rw [pmf_one h]
theorem pms_three {a b c : Int} (h : InT a) : pms [a, b, c] = pmf (pmf a b) c := by
  show pmf (pmf (pmf 1 a) b) c = _
  rw [pmf_one h]
theorem sms_small1 {a b : Int} (h0 : 0 ≤ a) (h1 : 0 ≤ b) (h2 : a + b ≤ 4611686018427387904) : sms [a, b] = a + b := by
  show smf (smf 0 a) b = _
  unfold smf
  omega
theorem sms_small2 {a b c : Int} (h0 : 0 ≤ a) (h1 : 0 ≤ b) (h3 : 0 ≤ c) (h2 : a + b + c ≤ 4611686018427387904) : sms [a, b, c] = a + b + c := by
  show smf (smf (smf 0 a) b) c = _
  unfold smf
  omega
theorem pmf_in {a b : Int} (ha : 0 ≤ a) (hb : 0 ≤ b) : 0 ≤ pmf a b ∧ pmf a b ≤ 4611686018427387904 := by
  have := Int.mul_nonneg ha hb
  unfold pmf
  omega
/-- Mul's estimate. -/
theorem emul_ref {r d k s e l m : Int} (hr : 0 ≤ r ∧ r ≤ 1000000) (hd : 0 ≤ d ∧ d ≤ 1000000) (hk : 0 ≤ k ∧ k ≤ 1000000000) (hs : 0 ≤ s ∧ s ≤ 1000000) (he : 0 ≤ e ∧ e ≤ 1000000) (hl : 0 ≤ l ∧ l ≤ 1000000000) (hm : 0 ≤ m) :
    tms [sms [r, 1], sms [s, 1], sms [d, e, 2], sms [k, l, sms [pms [sms [r, 1], sms [e, 1]], pms [r, sms [e, 1], m]], 8]] = tms [r + 1, s + 1, d + e + 2, sms [k, l, pmf (r + 1) (e + 1), pmf (pmf r (e + 1)) m, 8]] := by
  rw [sms_small1 (a := r) hr.1 (by decide) (by omega), sms_small1 (a := s) hs.1 (by decide) (by omega), sms_small1 (a := e) he.1 (by decide) (by omega), sms_small2 (a := d) hd.1 he.1 (by decide) (by omega), pms_two ⟨by omega, by omega⟩, pms_three ⟨by omega, by omega⟩]
  have p1 := pmf_in (a := r + 1) (b := e + 1) (by omega) (by omega)
  have p2 := pmf_in (a := r) (b := e + 1) (by omega) (by omega)
  have p3 := pmf_in (a := pmf r (e + 1)) (b := m) p2.1 hm
  generalize pmf (r + 1) (e + 1) = x at *
  generalize pmf (pmf r (e + 1)) m = y at *
  have e1 : sms [k, l, sms [x, y], 8] = sms [k, l, x, y, 8] := by
    show smf (smf (smf (smf 0 k) l) (smf (smf 0 x) y)) 8 = smf (smf (smf (smf (smf 0 k) l) x) y) 8
    unfold smf
    omega
  rw [e1]
/-- Apply's estimate. -/
theorem eapply_ref {r d k g l m : Int} (hr : 0 ≤ r ∧ r ≤ 1000000) (hd : 0 ≤ d ∧ d ≤ 1000000) (hg : -1 ≤ g ∧ g ≤ 1000000) (hm : 0 ≤ m ∧ m ≤ 1000000) :
    tms [sms [r, 1], sms [d, g + 3], sms [k, l, pms [sms [r, 1], g + 2, sms [m, 8]]]] = tms [r + 1, d + g + 3, sms [k, l, pmf (pmf (r + 1) (g + 2)) (m + 8)]] := by
  rw [sms_small1 (a := r) hr.1 (by decide) (by omega), sms_small1 (a := d) hd.1 (by omega) (by omega), sms_small1 (a := m) hm.1 (by decide) (by omega), pms_three ⟨by omega, by omega⟩, show d + (g + 3) = d + g + 3 by omega]
end Go.Proofs.Ytcdfckjlmifjiaa
/-
  Plain: the program's estimates of Divide, Common are the reference's.
-/
namespace Go.Proofs.Ytcdfckjlmifjiaa
open Go.RowKit
set_option linter.unusedVariables false
set_option linter.unusedSimpArgs false

theorem sms_pair {a b : Int} (h : InT a) : sms [a, b] = smf a b := by
  show smf (smf 0 a) b = _
  have h1 := h.1
  have h2 := h.2
  unfold smf
  omega
/-- Divide's estimate. -/
theorem edivide_ref {r d k s e l m : Int} (hr : 0 ≤ r ∧ r ≤ 1000000) (hd : 0 ≤ d ∧ d ≤ 1000000) (hs : 0 ≤ s ∧ s ≤ 1000000) (he : 0 ≤ e ∧ e ≤ 1000000) (hm : 0 ≤ m ∧ m ≤ 1000000) :
    tms [sms [r, 1], sms [s, 1], sms [r, s, 2], sms [d, e, 2], sms [k, l, pms [sms [r, 1], sms [m, 2]], 8]] = tms [r + 1, s + 1, r + s + 2, d + e + 2, sms [k, l, pmf (r + 1) (m + 2), 8]] := by
  rw [sms_small1 (a := r) hr.1 (by decide) (by omega), sms_small1 (a := s) hs.1 (by decide) (by omega), sms_small1 (a := m) hm.1 (by decide) (by omega), sms_small2 (a := d) hd.1 he.1 (by decide) (by omega), sms_small2 (a := r) hr.1 hs.1 (by decide) (by omega), pms_two ⟨by omega, by omega⟩]
/-- Common's estimate. -/
theorem ecommon_ref {r d k s e l m : Int} (hr : 0 ≤ r ∧ r ≤ 1000000) (hd : 0 ≤ d ∧ d ≤ 1000000) (hs : 0 ≤ s ∧ s ≤ 1000000) (he : 0 ≤ e ∧ e ≤ 1000000) (hm : 0 ≤ m ∧ m ≤ 1000000) :
    tms [sms [r, s, 2], sms [r, s, 2], sms [r, s, 2], sms [pms [sms [r, s, 2], sms [d, e]], 2], sms [k, l, pms [sms [r, s, 1], sms [m, 2]], 8]] = tms [r + s + 2, r + s + 2, r + s + 2, smf (pmf (r + s + 2) (d + e)) 2, sms [k, l, pmf (r + s + 1) (m + 2), 8]] := by
  rw [sms_small2 (a := r) hr.1 hs.1 (by decide) (by omega), sms_small2 (a := r) hr.1 hs.1 (by decide) (by omega), sms_small1 (a := d) hd.1 he.1 (by omega), sms_small1 (a := m) hm.1 (by decide) (by omega), pms_two (a := r + s + 2) ⟨by omega, by omega⟩, pms_two (a := r + s + 1) ⟨by omega, by omega⟩, sms_pair (pmf_in (by omega) (by omega))]
end Go.Proofs.Ytcdfckjlmifjiaa
