/-
  upoly.Mul of any two polynomials (rows or packed), at the code that has package packed.
-/
import Derived.Test.YtejnhpjejcpekaaGreatDoorPrPsPtPuPvPwPxKa
import Derived.Test.YtejnhpjejcpekaaGreatDoorKl
import Derived.Test.YtejnhpjejcpekaaGreatDoorKnKm
import Derived.Test.YtejnhpjejcpekaaGreatDoorKo
import Derived.Deep.DeepFit
import Derived.Test.YtejnhpjejcpekaaGreatDoorAdBsDtAgWvUh
import Derived.Test.YtejnhpjejcpekaaGreatDoorUlUmVsUoDmVtAfBpBnBoAh
import Derived.Test.YtejnhpjejcpekaaGreatDoorCbNgNsPq
import Derived.Test.YtejnhpjejcpekaaGreatDoorAiRzVdRtDhVeRsVfVcAjDqDrBmBqDuAkBrAl
namespace Go.Proofs.YtejnhpjejcpekaaGreatDoor
open Go.RowKit
set_option linter.unusedVariables false
set_option linter.unusedSimpArgs false
set_option maxHeartbeats 8000000
theorem Mul_ev6 {w : World} {K L : Nat} {x y : Int} {e f : Ent} (h : EV w K x e) (k : EV w L y f) (hK : K ≤ 1000000) (hL : L ≤ 1000000) : Calls Tryz.prog 115 #[.agg #[.bool e.s, .slice e.p e.n e.c], .agg #[.bool f.s, .slice f.p f.n f.c]] w fun r w' => ∃ u : Ent, r = .returned (.agg #[.bool u.s, .slice u.p u.n u.c]) ∧ NV w.heap.size w' (K + L) (x * y) u ∧ Below w.heap.size w w' := by
  obtain ⟨xs, h1, rfl, h3⟩ := h
  obtain ⟨ys, k1, rfl, k3⟩ := k
  refine (Mul_all e.s f.s e.p f.p e.n e.c f.n f.c xs ys w h1 k1 (by omega) (by omega)).mono ?_
  rintro r w' ⟨s', p', n', zs, g1, g2, g3, g4⟩
  exact ⟨⟨s', p', n', n'⟩, g1, ⟨zs, g2, rfl, by show n' ≤ _; omega⟩, g4⟩
set_option maxRecDepth 100000 in
theorem packedProduct_any {B C : Nat} {w : World} {K L W : Nat} {p q : Option Addr} {n m : Nat} {es fs : List Ent} {zs ys : List Int} (h : PB B w K p n es zs) (k : PB C w L q m fs ys) (hn : n ≤ 250) (hm : m ≤ 250) (hn1 : 1 ≤ n) (hm1 : 1 ≤ m) (hW1 : 1 ≤ W) (hW : W ≤ 900) (he1 : ∀ j, j < n → zl (gx zs j) ≤ W) (he2 : ∀ j, j < m → zl (gx ys j) ≤ W) (hr : ∀ t, 2 * ((ps zs ys n t).natAbs : Int) < pw W) (h0 : ps zs ys n (n + m - 1 - 1) ≠ 0) :
    Calls Tryz.prog 224 #[.slice p n n, .slice q m m, .int .i64 W] w fun r w' => ∃ u us, r = .returned (.slice u (n + m - 1) (n + m - 1)) ∧ us.length = n + m - 1 ∧ PL w' u us ∧ Go.Proofs.YtejnhpjejcpekaaGreatDoor.From w.heap.size u ∧ (∀ t, t < n + m - 1 → NV w.heap.size w' W (ps zs ys n t) (ge us t)) ∧ Below w.heap.size w w' := by
  have hyl := k.zl
  have HM : Hid (pkf W (gx zs) n * pkf W (gx ys) m = pkf W (ps zs ys n) (n + m - 1)) := by
    show _ = _
    rw [← hyl, pkf_mul W zs ys _ n (by omega)]
  have b1 : W * n + W * n + 1 ≤ 500000 := by have := Nat.mul_le_mul hW hn; omega
  have b2 : W * m + W * m + 1 ≤ 500000 := by have := Nat.mul_le_mul hW hm; omega
  go_enter Tryz.func224, Tryz.ntmps224
  have hp1 := pkOf_any h W hW1 (by omega) (by omega) he1
  have HK : Hid (PB C w L q m fs ys ∧ (∀ j, j < m → zl (gx ys j) ≤ W) ∧ (∀ t, 2 * ((ps zs ys n t).natAbs : Int) < pw W) ∧ ps zs ys n (n + m - 1 - 1) ≠ 0) := ⟨k, he2, hr, h0⟩
  clear h k he1 he2 hr h0 hyl
  go_wp2_with fail
  refine hp1.mono ?_
  rintro e w4 ⟨u, rfl, hu, hb4⟩
  have hp2 := pkOf_any (HK.out.1.below hb4) W hW1 (by omega) (by omega) HK.out.2.1
  clear hp1
  go_wp2_with fail
  refine hp2.mono ?_
  rintro e w5 ⟨v, rfl, hv, hb5⟩
  have hb := bnext' hb4 hb5
  have hm5 := Mul_ev6 ((hu.below hb5).ev6 (by omega)) (hv.ev6 (by omega)) (by omega) (by omega)
  rw [HM.out] at hm5
  generalize W * n + W * n + 1 = K1 at *
  generalize W * m + W * m + 1 = L1 at *
  clear hp2 hu hv hb4 hb5
  go_wp2_with fail
  refine hm5.mono ?_
  rintro e w6 ⟨z, rfl, hz, hb6⟩
  have hbb := bnext' hb hb6
  have hpp := pkPoly_any hz W (n + m - 1) (ps zs ys n) hW1 hW (by omega) (by omega) (by omega) rfl (fun j _ => HK.out.2.2.1 j) HK.out.2.2.2
  clear hm5 hz hb hb6
  go_wp2_with fail
  refine hpp.mono ?_
  rintro e w7 ⟨u7, us, rfl, r1, r2, r3, r4, hb7⟩
  have hs := hbb.size
  have HR : Hid (us.length = n + m - 1 ∧ PL w7 u7 us ∧ Go.Proofs.YtejnhpjejcpekaaGreatDoor.From w.heap.size u7 ∧ (∀ t, t < n + m - 1 → NV w.heap.size w7 W (ps zs ys n t) (ge us t)) ∧ Below w.heap.size w w7) := ⟨r1, r2, fun a ha => Nat.le_trans hs (r3 a ha), fun t ht => (r4 t ht).mono hs, bnext' hbb hb7⟩
  clear r1 r2 r3 r4 hb7 hpp
  go_wp2
  go_ret
  exact ⟨u7, us, rfl, HR.out⟩
theorem ps_lead {zs ys : List Int} {n m : Nat} (hz : zs.length = n) (hy : ys.length = m) (tz : tlen zs = n) (ty : tlen ys = m) (hn : 1 ≤ n) (hm : 1 ≤ m) : ps zs ys n (n + m - 1 - 1) ≠ 0 := by
  have h1 := mulz_top (zs := zs) (ys := ys) (by rw [tz, hz]) (by rw [ty, hy]) (by omega) (by omega)
  have h2 := tlen_top (mulz zs ys) (by rw [h1]; omega)
  rw [h1, gx_mulz _ _ _ (by omega), hz, hy] at h2
  exact h2
set_option maxRecDepth 100000 in
theorem product_p {B C : Nat} {w : World} {K L : Nat} {p q : Option Addr} {n m : Nat} {es fs : List Ent} {zs ys : List Int} (h : PB B w K p n es zs) (k : PB C w L q m fs ys) (hn : n ≤ 80) (hm : m ≤ 80) (hn1 : 1 ≤ n) (hm1 : 1 ≤ m) (hK : K < 80) (hL : L < 80) (hd : K + L + 1 ≤ 70) :
    Calls Tryz.prog 149 #[.slice p n n, .slice q m m] w (PnP (mulz zs ys) (K + L + 1) w) := by
  have hpa := h.pa (by omega)
  have hqa := k.pa (by omega)
  have hzl := h.zl
  have hyl := k.zl
  have HB : Hid (pb zs ≤ 32 * K ∧ pb ys ≤ 32 * L) := ⟨pb_le hpa (by omega), pb_le hqa (by omega)⟩
  have hW1 : 1 ≤ wd zs ys := by unfold wd; omega
  have hW2 : wd zs ys ≤ K + L + 1 := wd_le HB.out.1 HB.out.2 (by omega) (by omega) (by omega)
  have HR : Hid (∀ t, 2 * ((ps zs ys n t).natAbs : Int) < pw (wd zs ys)) := by
    show ∀ t, 2 * ((ps zs ys n t).natAbs : Int) < pw (wd zs ys)
    intro t
    rw [← hzl]
    exact ps_room zs ys (by omega) (by omega) (by omega) t
  have HE : Hid ((∀ j, j < n → zl (gx zs j) ≤ wd zs ys) ∧ (∀ j, j < m → zl (gx ys j) ≤ wd zs ys)) := by
    refine ⟨fun j hj => ?_, fun j hj => ?_⟩
    · have := zb_pb zs j (by omega)
      unfold zl wd
      omega
    · have := zb_pb ys j (by omega)
      unfold zl wd
      omega
  have HZ : Hid (tlen zs = n ∧ tlen ys = m) := ⟨h.nrm, k.nrm⟩
  have g1 : ((n : Int) == 0) = false := by rw [beq_eq_false_iff_ne]; omega
  have g2 : ((m : Int) == 0) = false := by rw [beq_eq_false_iff_ne]; omega
  have g3 : ¬ (n : Int) = 0 := by omega
  have g4 : ¬ (m : Int) = 0 := by omega
  go_enter Tryz.func149, Tryz.ntmps149
  go_wp2_with fail
  refine (digitWidth_any hpa hqa (by omega) (by omega) (by omega) (by omega)).mono ?_
  rintro e w1 ⟨rfl, hb1⟩
  have h1 := rowsCost_any (h.below hb1) (k.below hb1) (by omega) (by omega) (by omega) (by omega)
  generalize hW : wd zs ys = W at *
  have HW : Hid (wd zs ys = W) := hW
  clear hW
  generalize hX : sl zs * sl ys + 80 * cnt zs * cnt ys = X at *
  clear hX
  go_wp2_with fail
  refine h1.mono ?_
  rintro e w2 ⟨rfl, hb2⟩
  clear h1
  go_wp2_with fail
  refine (packedCost_some n m W w2 hn hm (by omega) hW1).mono ?_
  rintro e w3 ⟨⟨x, rfl⟩, hb3⟩
  have hb := bnext' (bnext' hb1 hb2) hb3
  by_cases hx : (X : Int) ≤ x
  · go_wp2_with fail
    refine (rows_any (hpa.below hb) (hqa.below hb) (by omega) (by omega) hn1 hm1 hK hL).mono ?_
    rintro e w4 ⟨u, us, rfl, r1, r2, r3, r4, hb4⟩
    clear hpa hqa
    go_wp2
    go_ret
    have hs := hb.size
    refine ⟨u, n + m - 1, us, rfl, ⟨r1, by rw [length_mulz, hzl, hyl], ?_, r2, fun a ha => Nat.le_trans hs (r3 a ha), fun t ht => ?_⟩, bnext' hb hb4⟩
    · rw [mulz_top (by rw [HZ.out.1, hzl]) (by rw [HZ.out.2, hyl]) (by omega) (by omega), hzl, hyl]
    · rw [gx_mulz _ _ _ (by rw [hzl, hyl]; exact ht), hzl]
      exact (r4 t ht).mono hs
  · have hpp := packedProduct_any (h.below hb) (k.below hb) (by omega) (by omega) hn1 hm1 hW1 (by omega) HE.out.1 HE.out.2 HR.out (ps_lead hzl hyl HZ.out.1 HZ.out.2 hn1 hm1)
    clear hpa hqa
    go_wp2_with fail
    refine hpp.mono ?_
    rintro e w7 ⟨u7, us, rfl, r1, r2, r3, r4, hb7⟩
    have hs := hb.size
    clear hpp
    go_wp2
    go_ret
    refine ⟨u7, n + m - 1, us, rfl, ⟨r1, by rw [length_mulz, hzl, hyl], ?_, r2, fun a ha => Nat.le_trans hs (r3 a ha), fun t ht => ?_⟩, bnext' hb hb7⟩
    · rw [mulz_top (by rw [HZ.out.1, hzl]) (by rw [HZ.out.2, hyl]) (by omega) (by omega), hzl, hyl]
    · rw [gx_mulz _ _ _ (by rw [hzl, hyl]; exact ht), hzl]
      obtain ⟨xs, k1, k2, k3⟩ := (r4 t ht).mono hs
      exact ⟨xs, k1, k2, by omega⟩
set_option maxRecDepth 100000 in
theorem product_pk {B C : Nat} {w : World} {K L : Nat} {p q : Option Addr} {n m : Nat} {es fs : List Ent} {zs ys : List Int} (h : PB B w K p n es zs) (k : PB C w L q m fs ys) (hn : n ≤ 80) (hm : m ≤ 80) (hd : K + L + 1 ≤ 70) :
    Calls Tryz.prog 149 #[.slice p n n, .slice q m m] w (PnP (mulp zs ys) (K + L + 1) w) := by
  rw [mulp, h.zl, k.zl]
  by_cases h0 : n = 0 ∨ m = 0
  · rw [if_pos h0]
    exact product_nil w _ p q n m n m (by omega) (by omega) h0
  · rw [if_neg h0]
    exact product_p h k hn hm (by omega) (by omega) (by omega) (by omega) hd
set_option maxRecDepth 100000 in
theorem uMul_pk {w : World} {K L : Nat} {p q : Option Addr} {n nc m mc : Nat} {es fs : List Ent} {zs ys : List Int} (h : PA w K p n nc es zs) (k : PA w L q m mc fs ys) (hn : n ≤ 80) (hm : m ≤ 80) (hd : K + L + 1 ≤ 70) :
    Calls Tryz.prog 78 #[.slice p n nc, .slice q m mc] w (PnP (mulp (tr zs) (tr ys)) (K + L + 1) w) := by
  have hzl := h.zl
  have hyl := k.zl
  have htz := tlen_le zs
  have hty := tlen_le ys
  go_enter Tryz.func78, Tryz.ntmps78
  go_wp2_with fail
  refine (read_any K p n nc es zs _ h (by omega) (by omega)).mono ?_
  rintro e w1 ⟨p1, n1, es1, rfl, h1, hb1⟩
  go_wp2_with fail
  refine (read_any L q m mc fs ys _ (k.below hb1) (by omega) (by omega)).mono ?_
  rintro e w2 ⟨q1, m1, fs1, rfl, k1, hb2⟩
  have hn' := h1.zl
  have hm' := k1.zl
  rw [length_tr] at hn' hm'
  subst hn' hm'
  go_wp2_with fail
  refine (product_pk (h1.below hb2) k1 (by omega) (by omega) hd).mono ?_
  rintro e w3 ⟨p3, n3, es3, rfl, h3, hb3⟩
  go_wp2
  go_ret
  exact PnP.from ⟨p3, n3, es3, rfl, h3, hb3⟩ (bnext' hb1 hb2)
set_option maxRecDepth 100000 in
theorem oscale1_gen {w : World} {K L g : Nat} {p q : Option Addr} {n nc m mc : Nat} {es fs : List Ent} {zs ys : List Int} (hX : w.cell? ⟨g, 0, none⟩ = some (.slice p n nc)) (h : PA w K p n nc es zs) (k : PA w L q m mc fs ys) (hn : n ≤ 80) (hm : m ≤ 80) (hKL : K + L + 1 ≤ 70) :
    Calls Tryz.prog 206 #[.slice q m mc, .pointer (some ⟨g, 0, none⟩)] w (PnP (mulp (tr zs) (tr ys)) (K + L + 1) w) := by
  have hc := uMul_pk h k hn hm hKL
  go_enter Tryz.func206, Tryz.ntmps206
  go_wp2_with fail
  go_fit hc
  rintro e w1 ⟨p1, n1, e1, rfl, h1, h2⟩
  clear hc
  go_wp2
  go_ret
  exact ⟨p1, n1, e1, rfl, h1, h2⟩
set_option maxRecDepth 100000 in
theorem oScale_gen {w : World} {K L E B T D N : Nat} {p : Option Addr} {n nc : Nat} {es : List Ent} {zs : List Int} {yss : List (List Int)} {h : Hdr} (P : PA w K p n nc es zs) (hn : n ≤ N) (hN : N ≤ 80) (hE : E ≤ 80) (hKL : K + L + 1 ≤ 70) (H : HR D (EZ L E) w B T yss h) (hT : T ≤ w.heap.size) (hD : D ≤ 1000) :
    Calls Tryz.prog 134 #[.slice p n nc, .slice h.p h.n h.c] w (OpP ((List.range (olen yss)).map fun i => mulp (tr zs) (tr (gt yss i))) (K + L + 1) (N + E) w) := by
  have hal := bel_al (o := .cells #[.slice p n nc] 23) (Below.refl w.heap.size w)
  have hcell : (w.alloc (.cells #[.slice p n nc] 23)).cell? ⟨w.heap.size, 0, none⟩ = some (.slice p n nc) := by
    simp only [World.cell?]
    rw [heap_alloc_new]
    rfl
  have P1 := P.below hal
  have H1 := (lasts_HR (lasts_EZ L E)).below H hT hal
  have hT1 := Nat.le_trans hT hal.size
  obtain ⟨q, m, mc⟩ := h
  simp only at H1 ⊢
  clear P H hT
  obtain ⟨l, hl⟩ : ∃ l, (List.range (olen yss)).map (fun i => mulp (tr zs) (tr (gt yss i))) = l := ⟨_, rfl⟩
  rw [hl]
  have HLL := (show Hid _ from hl)
  clear hl
  go_enter Tryz.func134, Tryz.ntmps134
  go_wp2_with fail
  generalize w.alloc (.cells #[.slice p n nc] 23) = W1 at *
  have hlen : Hid (zs.length ≤ N ∧ ∀ i, (gt yss i).length ≤ E) := ⟨by rw [P1.zl]; exact hn, hr_len H1⟩
  have hc := convert_any (K' := K + L + 1) (E' := N + E) H1 hT1 hD (by omega) (by omega) (by omega) 206 #[.pointer (some ⟨w.heap.size, 0, none⟩)] callScaleO (fun y => mulp (tr zs) (tr y)) (fun wq i hd hi hb he => by
    obtain ⟨fs, hP, hd3, -⟩ := he
    exact oscale1_gen (cell_later' hb hcell) (P1.below hb) hP (by omega) (by omega) hKL) (fun i hi => Nat.le_trans (mulp_le _ _) (by rw [length_tr, length_tr]; have := tlen_le zs; have := tlen_le (gt yss i); have := hlen.out.1; have := hlen.out.2 i; omega))
  simp only at hc
  clear hlen H1 P1 hcell
  have HAL : Hid (Below w.heap.size w W1) := hal
  clear hal
  rw [HLL.out] at hc
  go_fit hc
  rintro e w1 ⟨q1, hs, rfl, h1, h2⟩
  have HR' : Hid (OpP l (K + L + 1) (N + E) w (.returned (.slice q1 (olen l) (olen l))) w1) := ⟨q1, hs, rfl, h1.mono HAL.out.size, bnext' HAL.out h2⟩
  clear hc h1 h2
  generalize olen l = m at *
  go_wp2
  go_ret
  exact HR'.out
def LXz (al y : Int) (b : List (List Int)) : List (List Int) := opz (· + ·) ([] :: otr (omp (SGM al y) b)) (otr (omp (DLM al) b))
theorem ez_none (w : World) (K E B T : Nat) : EZ K E w B T [] ⟨none, 0, 0⟩ := ⟨[], ⟨rfl, rfl, Nat.le_refl _, Nat.zero_le _, fun _ => rfl, PL.nil, fun j hj => absurd hj (Nat.not_lt_zero _)⟩, Nat.zero_le _, (fun a ha => nomatch ha), fun j hj => absurd hj (Nat.not_lt_zero _)⟩
theorem raised_row {w w2 w3 : World} {K E m B gr cap : Nat} {l : List (List Int)} {q : Option Addr} {hs : List Hdr} (hN : NO B w2 K E l q m hs) (hK : K ≤ 1000) (hE : E ≤ 1000000) (hm : m ≤ 900) (hB : w.heap.size < B) (hBs : B ≤ w2.heap.size) (hown : w3.ownsRow w.heap.size 23 1 (.slice (some ⟨gr, 0, none⟩) (1 + m) cap) (1 + m) (.slice none 0 0 :: hs.map Hdr.val)) (hg : w2.grownBy w3 (some w.heap.size)) (hat : gr = w.heap.size ∨ gr = w2.heap.size) :
    HR 1000 (EZ K E) w3 w.heap.size w3.heap.size ([] :: l) ⟨some ⟨gr, 0, none⟩, 1 + m, cap⟩ := by
  have hel := hN.el
  have hl : (⟨none, 0, 0⟩ :: hs : List Hdr).length = 1 + m := by simp [hel]; omega
  have LH' : LH w.heap.size 23 (EZ K E) w3 (.slice (some ⟨gr, 0, none⟩) (1 + m) cap) (⟨none, 0, 0⟩ :: hs) ([] :: l) := by
    refine ⟨by rw [hl]; exact hown, by simp [hel, hN.tl], fun j hj => ?_⟩
    rcases j with _ | j
    · exact ⟨w.heap.size, w.heap.size, Nat.le_refl _, Nat.le_trans (by omega) hg.size, ez_none _ _ _ _ _, fun r hr => by omega⟩
    · have hj' : j < hs.length := by simpa using hj
      obtain h1 := (hN.hrow hK hE (by omega)).ev j (by show j < m; omega)
      refine ⟨B, w2.heap.size, by omega, hg.size, (lasts_EZ K E).grown h1 (Nat.le_refl _) hg (fun r hr => ?_), fun r hr => ?_⟩
      · have := Option.some.inj hr
        omega
      · have : gr = r := Option.some.inj hr
        omega
  obtain ⟨q', cap', h1, h2⟩ := LH'.row (lasts_EZ K E) (D := 1000) (by rw [hl]; omega)
  simp only [Value.slice.injEq] at h1
  obtain ⟨rfl, -, rfl⟩ := h1
  rw [hl] at h2
  exact ⟨_, h2⟩
set_option maxRecDepth 100000 in
theorem letterTimes_any {w : World} {g : Nat} {al y : Int} (hr : RuleQ w g al y) {B T K E D : Nat} {zss : List (List Int)} {h : Hdr} (H : HR D (EZ K E) w B T zss h) (hT : T ≤ w.heap.size) (hD : D ≤ 900) (hE : E ≤ 15) (hK : K ≤ 60) :
    Calls Tryz.prog 133 #[.slice h.p h.n h.c, .func (.func 63) #[.pointer (some ⟨g, 0, none⟩)] #[], .func (.func 64) #[.pointer (some ⟨g, 0, none⟩)] #[]] w (OpP (LXz al y zss) (K + E * 2 + (K + E * 2) + 1) E w) := by
  have HX : Hid (RuleQ w g al y ∧ HR D (EZ K E) w B T zss h ∧ T ≤ w.heap.size) := ⟨hr, H, hT⟩
  obtain ⟨hp, hn, hc⟩ := h
  clear hr H hT
  go_enter Tryz.func133, Tryz.ntmps133
  go_wp2_with fail
  have hal := bel_al (o := .cells #[.slice none 0 0] 23) (Below.refl w.heap.size w)
  have hown : (w.alloc (.cells #[.slice none 0 0] 23)).ownsRow w.heap.size 23 1 (.slice (some ⟨w.heap.size, 0, none⟩) 1 1) 1 [.slice none 0 0] := World.ownsRow_lit (base := w.heap.size) (e := 23) (size := 1) w #[.slice none 0 0] 1 (Nat.le_refl _) (by unfold maxLen; omega) rfl
  have hs1 : (w.alloc (.cells #[.slice none 0 0] 23)).heap.size = w.heap.size + 1 := by simp
  have he := eachSigma (HX.out.1.below hal) ((lasts_HR (lasts_EZ K E)).below HX.out.2.1 HX.out.2.2 hal) (Nat.le_trans HX.out.2.2 hal.size) (by omega) hE hK
  dsimp only at he
  have HO : Hid ((w.alloc (.cells #[.slice none 0 0] 23)).ownsRow w.heap.size 23 1 (.slice (some ⟨w.heap.size, 0, none⟩) 1 1) 1 [.slice none 0 0]) := hown
  generalize w.alloc (.cells #[.slice none 0 0] 23) = W1 at *
  go_fit he
  rintro r w2 ⟨q1, hs, rfl, hNO, hb2⟩
  obtain ⟨m, hm⟩ : ∃ m, olen (omp (SGM al y) zss) = m := ⟨_, rfl⟩
  rw [hm] at hNO ⊢
  have hm9 : m ≤ 900 := by
    obtain ⟨hs', k⟩ := HX.out.2.1
    have h1 := olen_le (omp (SGM al y) zss)
    have h2 : (omp (SGM al y) zss).length = olen zss := by simp [omp]
    have h3 := olen_le zss
    have h4 := k.tl
    have h5 := k.few
    simp only at h4 h5
    omega
  have HNO : Hid (NO W1.heap.size w2 (K + E * 2) E (otr (omp (SGM al y) zss)) q1 m hs ∧ w2.ownsRow w.heap.size 23 1 (.slice (some ⟨w.heap.size, 0, none⟩) 1 1) 1 [.slice none 0 0] ∧ Below w.heap.size w w2 ∧ W1.heap.size ≤ w2.heap.size) := ⟨hNO, own_below HO.out hb2, bnext' hal hb2, hb2.size⟩
  have HM : Hid (olen (omp (SGM al y) zss) = m) := hm
  clear he hNO hb2 hown HO hm hal
  obtain ⟨I0, hi, hzz⟩ := Option.map_eq_some_iff.1 info_ops
  simp only [Prod.mk.injEq] at hzz
  obtain ⟨hz0, hz1, hz2⟩ := hzz
  rcases Nat.eq_zero_or_pos m with h0 | h0
  · subst h0
    have HRd : Hid (HR 1000 (EZ (K + E * 2) E) w2 w.heap.size w2.heap.size ([] :: otr (omp (SGM al y) zss)) ⟨some ⟨w.heap.size, 0, none⟩, 1, 1⟩ ∧ Below w.heap.size w w2) := by
      have h9 : hs = [] := List.length_eq_zero_iff.1 HNO.out.1.el
      refine ⟨raised_row (m := 0) HNO.out.1 (by omega) (by omega) (by omega) (by omega) HNO.out.2.2.2 (by rw [h9]; exact HNO.out.2.1) (grownBy_refl _ _) (.inl rfl), HNO.out.2.2.1⟩
    rcases q1 with _ | ⟨b, o, x⟩
    · go_wp2_with fail
      have hed := eachDelta (HX.out.1.below HRd.out.2) ((lasts_HR (lasts_EZ K E)).below HX.out.2.1 HX.out.2.2 HRd.out.2) (Nat.le_trans HX.out.2.2 HRd.out.2.size) (by omega) hE hK
      dsimp only at hed
      go_fit hed
      rintro r w4 ⟨q4, hs4, rfl, hN4, hb4⟩
      obtain ⟨m4, hm4⟩ : ∃ m4, olen (omp (DLM al) zss) = m4 := ⟨_, rfl⟩
      rw [hm4] at hN4 ⊢
      have hm49 : m4 ≤ 900 := by
        obtain ⟨hs', k⟩ := HX.out.2.1
        have h1 := olen_le (omp (DLM al) zss)
        have h2 : (omp (DLM al) zss).length = olen zss := by simp [omp]
        have h3 := olen_le zss
        have h4 := k.tl
        have h5 := k.few
        simp only at h4 h5
        omega
      clear hm4
      have hadd := oAdd_any ((lasts_HR (lasts_EZ (K + E * 2) E)).below HRd.out.1 (Nat.le_refl _) hb4) (hN4.hr (by omega) (by omega) (by omega)) hb4.size (Nat.le_refl _) (by decide) (by omega) (by omega) (by omega)
      dsimp only at hadd
      have hB4 := bnext' HRd.out.2 hb4
      clear hed hN4 hb4
      go_wp2_with fail
      go_fit hadd
      rintro r w5 ⟨q5, hs5, rfl, hN5, hb5⟩
      have HF : Hid (OpP (LXz al y zss) (K + E * 2 + (K + E * 2) + 1) E w (.returned (.slice q5 (olen (LXz al y zss)) (olen (LXz al y zss)))) w5) := ⟨q5, hs5, rfl, hN5.mono hB4.size, bnext' hB4 hb5⟩
      unfold LXz at HF ⊢
      clear hadd hN5 hb5 hB4
      generalize olen (opz (· + ·) ([] :: otr (omp (SGM al y) zss)) (otr (omp (DLM al) zss))) = m5 at *
      go_wp2
      go_ret
      exact HF.out
    · go_wp2_with fail
      have hed := eachDelta (HX.out.1.below HRd.out.2) ((lasts_HR (lasts_EZ K E)).below HX.out.2.1 HX.out.2.2 HRd.out.2) (Nat.le_trans HX.out.2.2 HRd.out.2.size) (by omega) hE hK
      dsimp only at hed
      go_fit hed
      rintro r w4 ⟨q4, hs4, rfl, hN4, hb4⟩
      obtain ⟨m4, hm4⟩ : ∃ m4, olen (omp (DLM al) zss) = m4 := ⟨_, rfl⟩
      rw [hm4] at hN4 ⊢
      have hm49 : m4 ≤ 900 := by
        obtain ⟨hs', k⟩ := HX.out.2.1
        have h1 := olen_le (omp (DLM al) zss)
        have h2 : (omp (DLM al) zss).length = olen zss := by simp [omp]
        have h3 := olen_le zss
        have h4 := k.tl
        have h5 := k.few
        simp only at h4 h5
        omega
      clear hm4
      have hadd := oAdd_any ((lasts_HR (lasts_EZ (K + E * 2) E)).below HRd.out.1 (Nat.le_refl _) hb4) (hN4.hr (by omega) (by omega) (by omega)) hb4.size (Nat.le_refl _) (by decide) (by omega) (by omega) (by omega)
      dsimp only at hadd
      have hB4 := bnext' HRd.out.2 hb4
      clear hed hN4 hb4
      go_wp2_with fail
      go_fit hadd
      rintro r w5 ⟨q5, hs5, rfl, hN5, hb5⟩
      have HF : Hid (OpP (LXz al y zss) (K + E * 2 + (K + E * 2) + 1) E w (.returned (.slice q5 (olen (LXz al y zss)) (olen (LXz al y zss)))) w5) := ⟨q5, hs5, rfl, hN5.mono hB4.size, bnext' hB4 hb5⟩
      unfold LXz at HF ⊢
      clear hadd hN5 hb5 hB4
      generalize olen (opz (· + ·) ([] :: otr (omp (SGM al y) zss)) (otr (omp (DLM al) zss))) = m5 at *
      go_wp2
      go_ret
      exact HF.out
  · obtain ⟨b, o, hp1, hcl⟩ := HNO.out.1.hl (by rw [HNO.out.1.el]; exact h0)
    subst hp1
    go_wp2_with (refine wpList_append_lies _ rfl _ _ 51 rfl w.heap.size 23 I0 (.slice none 0 0) 1 24 Tryz.underlying51 hi hz0 hz1 hz2 rfl (by decide) (.slice (some ⟨w.heap.size, 0, none⟩) 1 1) 1 [.slice none 0 0] rfl HNO.out.2.1 ⟨b, o, none⟩ m m (hs.map Hdr.val) rfl (by rw [List.length_map, HNO.out.1.el, Nat.mul_one]) ?_ (fun x hx => by obtain ⟨d, -, rfl⟩ := List.mem_map.1 hx; rfl) h0 (by unfold maxLen; omega) (by omega) HNO.out.2.2.1.size _ rfl ?_)
    · intro j u hu
      rw [List.getElem?_map] at hu
      obtain ⟨d, hd, rfl⟩ := Option.map_eq_some_iff.1 hu
      have hj : j < hs.length := (List.getElem?_eq_some_iff.1 hd).1
      have h7 := hcl j hj
      rw [Addr.add_mid]
      rw [show gh hs j = d by simp [gh, hd]] at h7
      exact h7
    intro gr cap w3 hown3 hgrow3 hat3 hlt3
    have HRd : Hid (HR 1000 (EZ (K + E * 2) E) w3 w.heap.size w3.heap.size ([] :: otr (omp (SGM al y) zss)) ⟨some ⟨gr, 0, none⟩, 1 + m, cap⟩ ∧ Below w.heap.size w w3) := by
      refine ⟨raised_row HNO.out.1 (by omega) (by omega) hm9 (by omega) HNO.out.2.2.2 hown3 hgrow3 ?_, HNO.out.2.2.1.grown hgrow3 HNO.out.2.2.1.size (fun r hr => by have h : w.heap.size = r := Option.some.inj hr; omega)⟩
      rcases hat3 with h8 | h8
      · exact .inl (Option.some.inj h8).symm
      · exact .inr h8
    clear hown3 hgrow3 hat3 hlt3 hcl
    have hed := eachDelta (HX.out.1.below HRd.out.2) ((lasts_HR (lasts_EZ K E)).below HX.out.2.1 HX.out.2.2 HRd.out.2) (Nat.le_trans HX.out.2.2 HRd.out.2.size) (by omega) hE hK
    dsimp only at hed
    go_wp2_with fail
    go_fit hed
    rintro r w4 ⟨q4, hs4, rfl, hN4, hb4⟩
    obtain ⟨m4, hm4⟩ : ∃ m4, olen (omp (DLM al) zss) = m4 := ⟨_, rfl⟩
    rw [hm4] at hN4 ⊢
    have hm49 : m4 ≤ 900 := by
      obtain ⟨hs', k⟩ := HX.out.2.1
      have h1 := olen_le (omp (DLM al) zss)
      have h2 : (omp (DLM al) zss).length = olen zss := by simp [omp]
      have h3 := olen_le zss
      have h4 := k.tl
      have h5 := k.few
      simp only at h4 h5
      omega
    clear hm4
    have hadd := oAdd_any ((lasts_HR (lasts_EZ (K + E * 2) E)).below HRd.out.1 (Nat.le_refl _) hb4) (hN4.hr (by omega) (by omega) (by omega)) hb4.size (Nat.le_refl _) (by decide) (by omega) (by omega) (by omega)
    dsimp only at hadd
    have hB4 := bnext' HRd.out.2 hb4
    clear hed hN4 hb4
    go_wp2_with fail
    go_fit hadd
    rintro r w5 ⟨q5, hs5, rfl, hN5, hb5⟩
    have HF : Hid (OpP (LXz al y zss) (K + E * 2 + (K + E * 2) + 1) E w (.returned (.slice q5 (olen (LXz al y zss)) (olen (LXz al y zss)))) w5) := ⟨q5, hs5, rfl, hN5.mono hB4.size, bnext' hB4 hb5⟩
    unfold LXz at HF ⊢
    clear hadd hN5 hb5 hB4
    generalize olen (opz (· + ·) ([] :: otr (omp (SGM al y) zss)) (otr (omp (DLM al) zss))) = m5 at *
    go_wp2
    go_ret
    exact HF.out
theorem gt_out {α : Type} [Inhabited α] (l : List α) (j : Nat) (h : l.length ≤ j) : gt l j = default := by simp [gt, List.getElem?_eq_none h]
theorem gt_otr (l : List (List Int)) (j : Nat) : gt (otr l) j = if j < olen l then gt l j else [] := by
  split
  · rename_i h
    exact gt_take l _ j h
  · exact gt_out _ _ (by rw [length_otr]; omega)
theorem gt_rngL (F : Nat → List Int) (n j : Nat) : gt ((List.range n).map F) j = if j < n then F j else [] := by
  split
  · rename_i h
    simp [gt, h]
  · exact gt_out _ _ (by simp; omega)
theorem gx_gtotr (l : List (List Int)) (j t : Nat) : gx (gt (otr l) j) t = gx (gt l j) t := by
  rw [gt_otr]
  split
  · rfl
  · have h1 := olen_zero l j (by omega)
    have h2 : gx (gt l j) t = gx (tr (gt l j)) t := (gx_tr _ _).symm
    rw [h2, tr, h1]
    rfl
theorem gx_gtrng (F : Nat → List Int) (n j t : Nat) : gx (gt ((List.range n).map F) j) t = if j < n then gx (F j) t else 0 := by
  rw [gt_rngL]
  split <;> rfl
theorem gx_gtopz (f : Int → Int → Int) (h0 : f 0 0 = 0) (a b : List (List Int)) (j t : Nat) : gx (gt (opz f a b) j) t = f (gx (gt a j) t) (gx (gt b j) t) := by
  rw [opz, gx_gtrng]
  split
  · rw [gx_tr, gx_pz0 f h0, gx_tr, gx_tr]
  · have z : ∀ l : List (List Int), olen l ≤ j → gx (gt l j) t = 0 := fun l hl => by
      have h1 := olen_zero l j hl
      rw [← gx_tr, tr, h1]
      rfl
    rw [z a (by omega), z b (by omega), h0]
theorem gx_gtcons (l : List (List Int)) (j t : Nat) : gx (gt ([] :: l) j) t = if j = 0 then 0 else gx (gt l (j - 1)) t := by
  rcases j with _ | j
  · rfl
  · simp [gt]
theorem omp_lt {f : List Int → List Int} {z : List (List Int)} {M : Nat} (h : ∀ j t, ((gx (f (gt z j)) t).natAbs : Int) < pw M) (j t : Nat) : ((gx (gt (omp f z) j) t).natAbs : Int) < pw M := by
  rw [omp, gx_gtrng]
  split
  · exact h j t
  · exact pw_pos M
theorem NO.fit {B : Nat} {w : World} {K E M : Nat} {l : List (List Int)} {p : Option Addr} {n : Nat} {hs : List Hdr} (h : NO B w K E l p n hs) (hz : ∀ j t, ((gx (gt l j) t).natAbs : Int) < pw M) : NO B w M E l p n hs :=
  ⟨h.el, h.tl, h.hl, h.fr, fun j hj => let ⟨a, b, es, c⟩ := h.ev j hj; ⟨a, b, es, c.fit (hz j)⟩⟩
def Bzs (al y : Int) (b : List (List Int)) : Nat → List (List Int)
  | 0 => b
  | i + 1 => otr (LXz al y (Bzs al y b i))
def Szs (c : List Int) (b : List (List Int)) : List (List Int) := (List.range (olen b)).map fun j => mulp (tr c) (tr (gt b j))
def Pzs (al y : Int) (a b : List (List Int)) : Nat → List (List Int)
  | 0 => []
  | i + 1 => otr (opz (· + ·) (Pzs al y a b i) (otr (Szs (gt a i) (Bzs al y b i))))
theorem hr_bd {D K E : Nat} {w : World} {B T : Nat} {l : List (List Int)} {h : Hdr} (H : HR D (EZ K E) w B T l h) (j t : Nat) : ((gx (gt l j) t).natAbs : Int) < pw K := by
  obtain ⟨hs, k⟩ := H
  rcases Nat.lt_or_ge j h.n with hj | hj
  · obtain ⟨fs, hP, -⟩ := k.ev j hj
    exact hP.gbd t
  · rw [gt_out _ _ (by rw [k.tl]; exact hj)]
    exact pw_pos K
theorem no_nil (B : Nat) (w : World) (K E : Nat) : NO B w K E [] none 0 [] := ⟨rfl, rfl, fun h => absurd h (Nat.not_lt_zero _), (fun a h => nomatch h), fun j hj => absurd hj (Nat.not_lt_zero _)⟩
theorem len_LXz (al y : Int) (b : List (List Int)) : olen (LXz al y b) ≤ olen b + 1 := by
  have h1 := olen_le (LXz al y b)
  have h2 : (LXz al y b).length = max (olen ([] :: otr (omp (SGM al y) b))) (olen (otr (omp (DLM al) b))) := by simp [LXz, opz]
  have h3 := olen_le ([] :: otr (omp (SGM al y) b))
  have h4 := olen_le (otr (omp (DLM al) b))
  have h5 := olen_le (omp (SGM al y) b)
  have h6 := olen_le (omp (DLM al) b)
  have h7 : (omp (SGM al y) b).length = olen b := by simp [omp]
  have h8 : (omp (DLM al) b).length = olen b := by simp [omp]
  rw [List.length_cons, length_otr] at h3
  rw [length_otr] at h4
  omega
theorem len_opz (a b : List (List Int)) : olen (opz (· + ·) a b) ≤ max a.length b.length := by
  have h1 := olen_le (opz (· + ·) a b)
  have h2 : (opz (· + ·) a b).length = max (olen a) (olen b) := by simp [opz]
  have h3 := olen_le a
  have h4 := olen_le b
  omega
theorem len_Szs (c : List Int) (b : List (List Int)) : olen (Szs c b) ≤ b.length := by
  have h1 := olen_le (Szs c b)
  have h2 : (Szs c b).length = olen b := by simp [Szs]
  have h3 := olen_le b
  omega
section
variable {w wr w2 w3 : World} {g : Nat} {al y : Int} {B T : Nat} {zss yss : List (List Int)} {h : Hdr} {i : Nat} {bp cp : Option Addr} {bn bc cn cc : Nat} {op q : Option Addr} {on m : Nat} {hs' : List Hdr}
end
def LTR (al y : Int) (zs : List Int) : List Int := if al = 2 then DLM al zs else SGM al y zs
theorem LTR_len (al y : Int) (zs : List Int) : (LTR al y zs).length ≤ zs.length := by
  unfold LTR
  split
  · exact DLM_len _ _
  · exact SGM_len _ _ _
def Fit (al y : Int) (f : List Int) : Nat → List Int
  | 0 => tr f
  | i + 1 => LTR al y (Fit al y f i)
theorem Fit_len (al y : Int) (f : List Int) : ∀ i, (Fit al y f i).length ≤ f.length
  | 0 => by rw [Fit, length_tr]; exact tlen_le f
  | i + 1 => Nat.le_trans (LTR_len _ _ _) (Fit_len al y f i)
end Go.Proofs.YtejnhpjejcpekaaGreatDoor
