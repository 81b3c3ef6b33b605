/-
  ore.Eq.
-/
import Derived.Test.YtejnhpjejcpekaaGreatDoorUlUmVsUoDmVtAfBpBnBoAh
import Derived.Test.YtejnhpjejcpekaaGreatDoorAdBsDtAgWvUh
import Derived.Deep.DeepFit
import Derived.Test.YtejnhpjejcpekaaGreatDoorReRxRfRhCqRrRwVaRo
import Derived.Test.YtejnhpjejcpekaaGreatDoorWkWlBxBbCvNjUbUcUdOw
import Derived.Test.YtejnhpjejcpekaaGreatDoorRaWmBeRdLnWrIbWg
import Derived.Test.YtejnhpjejcpekaaGreatDoorUiVqDcUj
import Derived.Test.YtejnhpjejcpekaaGreatDoorVbDaCxRbCyViDsAeVuWxUpUqRmRpDkDlDbRiRjRgRk
import Derived.Test.YtejnhpjejcpekaaGreatDoorAbDnDoAc
namespace Go.Proofs.YtejnhpjejcpekaaGreatDoor
open Go.RowKit
set_option linter.unusedVariables false
set_option linter.unusedSimpArgs false
set_option maxHeartbeats 8000000
theorem callEqU (args : Array Value) (w' : World) : Sem.run Tryz.prog (callFunc 81 args) w' = .ok (.enter 81 args) w' := by
  have h1 : ¬ Tryz.f81.name = "runtime.NumGoroutine" := of_decide_eq_false (by kernel_rfl)
  have h2 : ¬ Tryz.f81.body = none := fun h => by cases h
  simp only [callFunc, Tryz.func81, go_sem]
  simp [h1, h2, go_sem]
theorem map_tr_eq {a b : List (List Int)} (hl : a.length = b.length) (h : ∀ j, j < a.length → tr (gt a j) = tr (gt b j)) : a.map tr = b.map tr := by
  apply List.ext_getElem
  · simp [hl]
  · intro i h1 h2
    have h3 : i < a.length := by simpa using h1
    have h4 : i < b.length := by simpa using h2
    have h5 := h i h3
    simp [gt, h3, h4] at h5
    simp [h5]
theorem gt_tr_eq {a b : List (List Int)} (h : a.map tr = b.map tr) (j : Nat) (hj : j < a.length) : tr (gt a j) = tr (gt b j) := by
  have hl : a.length = b.length := by have := congrArg List.length h; simpa using this
  have h1 : (a.map tr)[j]? = (b.map tr)[j]? := by rw [h]
  simp [hj, show j < b.length by omega] at h1
  simp [gt, hj, show j < b.length by omega, h1]
set_option maxRecDepth 100000 in
theorem eqFuncO_any {w : World} {B T K E D B2 T2 L : Nat} {zss yss : List (List Int)} {h k : Hdr} (H : HR D (EZ K E) w B T zss h) (G : HR D (EZ L E) w B2 T2 yss k) (hT : T ≤ w.heap.size) (hT2 : T2 ≤ w.heap.size) (hD : D ≤ 1000) (hE : E ≤ 1000000) :
    Calls Tryz.prog 80 #[.slice h.p h.n h.c, .slice k.p k.n k.c, .func (.func 81) #[] #[]] w fun r w' => r = .returned (.bool (decide (zss.map tr = yss.map tr))) ∧ Below w.heap.size w w' := by
  obtain ⟨hs, kh⟩ := H
  obtain ⟨rs, kk⟩ := G
  have HX : Hid (HRow D (EZ K E) w B T zss h hs ∧ T ≤ w.heap.size) := ⟨kh, hT⟩
  have HY : Hid (HRow D (EZ L E) w B2 T2 yss k rs ∧ T2 ≤ w.heap.size) := ⟨kk, hT2⟩
  have hn : h.n ≤ D := kh.few
  have hm : k.n ≤ D := kk.few
  have HL : Hid (zss.length = h.n ∧ yss.length = k.n) := ⟨kh.tl, kk.tl⟩
  obtain ⟨p, n, nc⟩ := h
  obtain ⟨q, m, mc⟩ := k
  simp only at hn hm HL ⊢
  clear kh kk hT hT2
  by_cases hnm : n = m
  · subst hnm
    have hE0 := callEqU
    go_enter Tryz.func80, Tryz.ntmps80
    go_wp2_with fail
    go_loopw [17] (fun kv wr => ∃ j : Nat, j ≤ n ∧ kv = .int .i64 j ∧ Hid ((∀ i, i < j → tr (gt zss i) = tr (gt yss i)) ∧ Below w.heap.size w wr)) (fun kv _ => n - (intOf kv).toNat)
    case atStart => exact ⟨0, Nat.zero_le _, by go_num, fun i hi => by omega, Below.refl _ _⟩
    case round =>
      obtain ⟨j, hj, rfl, G⟩ := hrel
      rcases Nat.lt_or_ge j n with hlt | hge
      · have g4 := G.out.2
        obtain ⟨b, o, hp, hc⟩ := HX.out.1.hl (by rw [HX.out.1.el]; show 0 < n; omega)
        obtain ⟨b', o', hq, hd⟩ := HY.out.1.hl (by rw [HY.out.1.el]; show 0 < n; omega)
        simp only at hp hq
        subst hp hq
        have c1 := cell_later' g4 (hc j (by rw [HX.out.1.el]; exact hlt))
        have d1 := cell_later' g4 (hd j (by rw [HY.out.1.el]; exact hlt))
        have hE2 := (lasts_EZ K E).below (HX.out.1.ev j hlt) HX.out.2 g4
        have hE3 := (lasts_EZ L E).below (HY.out.1.ev j hlt) HY.out.2 g4
        generalize gh hs j = hd2 at c1 hE2
        generalize gh rs j = hd3 at d1 hE3
        obtain ⟨p2, n2, nc2⟩ := hd2
        obtain ⟨p3, n3, nc3⟩ := hd3
        simp only [Hdr.val] at c1 d1
        obtain ⟨es2, hP2, hd2, -, -⟩ := hE2
        obtain ⟨es3, hP3, hd3, -, -⟩ := hE3
        simp only at hP2 hd2 hP3 hd3
        have i1 : (j : Int) < (n : Int) := by omega
        have hcall := uEq_any hP2 hP3 (by omega) (by omega)
        clear hc hd hP2 hP3 g4
        go_wp2_with fail
        go_fit hcall
        rintro e w1 ⟨rfl, hb1⟩
        have hB : Hid (Below w.heap.size w w1) := bnext' G.out.2 hb1
        have hcs : Hid (tr (gt zss j) = tr (gt yss j) ∨ ¬ tr (gt zss j) = tr (gt yss j)) := Classical.em _
        clear c1 d1 hcall hb1
        rcases hcs.out with hz | hz
        · rw [decide_eq_true hz]
          have HZ : Hid (tr (gt zss j) = tr (gt yss j)) := hz
          clear hz hcs
          go_wp2
          go_roundw
          case rel => exact ⟨j + 1, by omega, by go_num, fun i hi => by
            rcases Nat.lt_or_ge i j with h' | h'
            · exact G.out.1 i h'
            · obtain rfl : i = j := by omega
              exact HZ.out, hB.out⟩
          case measure => simp [intOf]; omega
        · rw [decide_eq_false hz]
          have HDD : Hid (decide (zss.map tr = yss.map tr) = false) := decide_eq_false fun e => hz (gt_tr_eq e j (by have := HL.out; omega))
          clear hz hcs
          go_wp2
          go_ret
          exact ⟨by rw [HDD.out]; rfl, hB.out⟩
      · obtain rfl : j = n := by omega
        have HDD : Hid (decide (zss.map tr = yss.map tr) = true) := by
          obtain ⟨l1, l2⟩ := HL.out
          refine decide_eq_true (map_tr_eq (l1.trans l2.symm) fun i hi => G.out.1 i ?_)
          rw [l1] at hi
          exact hi
        clear hge
        go_wp2
        go_ret
        exact ⟨by rw [HDD.out]; rfl, G.out.2⟩
  · have hne : ¬ zss.map tr = yss.map tr := fun e => hnm (by have := congrArg List.length e; simp at this; have := HL.out; omega)
    have HDD : Hid (decide (zss.map tr = yss.map tr) = false) := decide_eq_false hne
    have hI : ((n : Int) != (m : Int)) = true := by rw [bne_iff_ne]; omega
    clear hne
    generalize decide (zss.map tr = yss.map tr) = dd at *
    obtain rfl : dd = false := HDD.out
    go_enter Tryz.func80, Tryz.ntmps80
    go_wp2
    go_ret
    exact ⟨rfl, Below.refl _ _⟩
set_option maxRecDepth 100000 in
theorem oEq_any {w : World} {B T K E D B2 T2 L : Nat} {zss yss : List (List Int)} {h k : Hdr} (H : HR D (EZ K E) w B T zss h) (G : HR D (EZ L E) w B2 T2 yss k) (hT : T ≤ w.heap.size) (hT2 : T2 ≤ w.heap.size) (hD : D ≤ 1000) (hE : E ≤ 1000000) :
    Calls Tryz.prog 33 #[.slice h.p h.n h.c, .slice k.p k.n k.c] w fun r w' => r = .returned (.bool (decide (oz zss = oz yss))) ∧ Below w.heap.size w w' := by
  unfold oz
  have ht := fun w' (hb : Below w.heap.size w w') => otrim_any ((lasts_HR (lasts_EZ L E)).below G hT2 hb) (Nat.le_trans hT2 hb.size) (by omega) hE
  have hs := otrim_any H hT (by omega) hE
  obtain ⟨hs1, kh⟩ := H
  obtain ⟨hs2, kk⟩ := G
  have hol := olen_le zss
  have hol2 := olen_le yss
  have HX : Hid (HR D (EZ K E) w B T (zss.take (olen zss)) ⟨h.p, olen zss, olen zss⟩ ∧ T ≤ w.heap.size) := ⟨⟨_, kh.cut _ (by have := kh.tl; omega)⟩, hT⟩
  have HY : Hid (HR D (EZ L E) w B2 T2 (yss.take (olen yss)) ⟨k.p, olen yss, olen yss⟩ ∧ T2 ≤ w.heap.size) := ⟨⟨_, kk.cut _ (by have := kk.tl; omega)⟩, hT2⟩
  have hC := fun w' (hb : Below w.heap.size w w') => eqFuncO_any ((lasts_HR (lasts_EZ K E)).below HX.out.1 HX.out.2 hb) ((lasts_HR (lasts_EZ L E)).below HY.out.1 HY.out.2 hb) (Nat.le_trans HX.out.2 hb.size) (Nat.le_trans HY.out.2 hb.size) hD hE
  obtain ⟨p, n, nc⟩ := h
  obtain ⟨q, m, mc⟩ := k
  simp only at ht hs hC ⊢
  clear kh kk hT hT2 hol hol2 HX HY
  generalize decide ((zss.take (olen zss)).map tr = (yss.take (olen yss)).map tr) = dd at hC ⊢
  have HC := (show Hid _ from hC)
  clear hC
  generalize olen zss = a at *
  generalize olen yss = b at *
  go_enter Tryz.func33, Tryz.ntmps33
  go_wp2_with fail
  go_fit hs
  rintro e w1 ⟨rfl, hb1⟩
  have ht1 := ht w1 hb1
  have HB1 : Hid (Below w.heap.size w w1) := hb1
  clear hs ht hb1
  go_wp2_with fail
  go_fit ht1
  rintro e w2 ⟨rfl, hb2⟩
  have HB2 : Hid (Below w.heap.size w w2) := bnext' HB1.out hb2
  have hc := HC.out w2 HB2.out
  clear ht1 hb2 HB1
  go_wp2_with fail
  go_fit hc
  rintro e w3 ⟨rfl, hb3⟩
  have HB3 : Hid (Below w.heap.size w w3) := bnext' HB2.out hb3
  clear hc hb3 HB2
  go_wp2
  go_ret
  exact ⟨rfl, HB3.out⟩
theorem Sub_ev {w : World} {K L : Nat} {x y : Int} {e f : Ent} (h : EV w K x e) (k : EV w L y f) : Calls Tryz.prog 114 #[.agg #[.bool e.s, .slice e.p e.n e.c], .agg #[.bool f.s, .slice f.p f.n f.c]] w fun r w' => ∃ u : Ent, r = .returned (.agg #[.bool u.s, .slice u.p u.n u.c]) ∧ NV w.heap.size w' (K + L + 1) (x - y) u ∧ Below w.heap.size w w' := by
  obtain ⟨xs, h1, rfl, h3⟩ := h
  obtain ⟨ys, k1, rfl, k3⟩ := k
  refine (Sub_any e.s f.s e.p f.p e.n e.c f.n f.c xs ys w h1 k1).mono ?_
  rintro r w' ⟨s', p', n', zs, g1, g2, g3, g4⟩
  exact ⟨⟨s', p', n', n'⟩, g1, ⟨zs, g2, rfl, by show n' ≤ _; omega⟩, g4⟩
theorem length_otr (l : List (List Int)) : (otr l).length = olen l := by
  have := olen_le l
  simp [otr]
  omega
theorem length_oz (z : List (List Int)) : (oz z).length = olen z := by
  have := olen_le z
  simp [oz]
  omega
theorem tr_zero {a : List Int} (h : tlen a = 0) : tr a = [] := by
  rw [tr, h]
  rfl
theorem gt_oz (z : List (List Int)) (j : Nat) : gt (oz z) j = tr (gt z j) := by
  rcases Nat.lt_or_ge j (olen z) with h | h
  · have h1 : j < z.length := Nat.lt_of_lt_of_le h (olen_le z)
    simp [oz, gt, h, h1]
  · rw [gt_over0 _ _ (by rw [length_oz]; exact h), tr_zero (olen_zero z j h)]
theorem olen_tlen {a b : List (List Int)} (h : ∀ j, tlen (gt a j) = tlen (gt b j)) : olen a = olen b := by
  refine olen_eq a (olen b) (fun j hj => by rw [h j]; exact olen_zero b j hj) ?_
  rcases Nat.eq_zero_or_pos (olen b) with h0 | h0
  · exact .inl h0
  · refine .inr ?_
    rw [h]
    intro e
    have h1 := tlen_top (b.map fun z => (tlen z : Int)) h0
    rw [gx_tlens] at h1
    apply h1
    show (tlen (gt b (olen b - 1)) : Int) = 0
    rw [e]
    rfl
theorem olen_oz (z : List (List Int)) : olen (oz z) = olen z := olen_tlen fun j => by rw [gt_oz, tlen_tr]
theorem otr_oz (z : List (List Int)) : otr (oz z) = oz z := by rw [otr, olen_oz, List.take_of_length_le (by rw [length_oz]; exact Nat.le_refl _)]
theorem odeg_low (zss : List (List Int)) : ∀ j, j ≤ zss.length → -1 ≤ odeg (zss.take j) := by
  intro j
  induction j with
  | zero => intro _; simp [odeg]
  | succ j ih =>
    intro hj
    have h1 := ih (by omega)
    rw [odeg_take zss j (by omega)]
    omega
theorem odeg_oz (z : List (List Int)) : odeg (oz z) = odeg z := by
  have key : ∀ j, odeg ((oz z).take j) = odeg (z.take j) := by
    intro j
    induction j with
    | zero => rfl
    | succ j ih =>
      rcases Nat.lt_or_ge j (olen z) with h | h
      · rw [odeg_take _ j (by rw [length_oz]; exact h), odeg_take _ j (Nat.lt_of_lt_of_le h (olen_le z)), ih, gt_oz, tlen_tr]
      · rw [List.take_of_length_le (by rw [length_oz]; omega)] at ih ⊢
        rcases Nat.lt_or_ge j z.length with h1 | h1
        · have h2 : -1 ≤ odeg (z.take j) := by
            have hb := odeg_low z j (by omega)
            exact hb
          rw [odeg_take _ j h1, ih, olen_zero z j h]
          simp only [Int.natCast_zero]
          omega
        · rw [List.take_of_length_le (by omega)] at ih ⊢
          exact ih
  have := key (max z.length (oz z).length)
  rw [List.take_of_length_le (by omega), List.take_of_length_le (by omega)] at this
  exact this
theorem obit_oz (z : List (List Int)) : obit (oz z) = obit z := by
  have key : ∀ j, obit ((oz z).take j) = obit (z.take j) := by
    intro j
    induction j with
    | zero => rfl
    | succ j ih =>
      rcases Nat.lt_or_ge j (olen z) with h | h
      · rw [obit_take _ j (by rw [length_oz]; exact h), obit_take _ j (Nat.lt_of_lt_of_le h (olen_le z)), ih, gt_oz, pb_trim]
      · rw [List.take_of_length_le (by rw [length_oz]; omega)] at ih ⊢
        rcases Nat.lt_or_ge j z.length with h1 | h1
        · have h2 : pb (gt z j) = 0 := by
            rw [← pb_trim, tr_zero (olen_zero z j h)]
            rfl
          rw [obit_take _ j h1, ih, h2]
          omega
        · rw [List.take_of_length_le (by omega)] at ih ⊢
          exact ih
  have := key (max z.length (oz z).length)
  rw [List.take_of_length_le (by omega), List.take_of_length_le (by omega)] at this
  exact this
theorem rng_oz (z : List (List Int)) : ((List.range (olen z)).map fun i => tr (gt z i)) = oz z := by
  apply List.ext_getElem
  · simp [length_oz]
  · intro i h1 h2
    have h3 : i < olen z := by simpa using h1
    have h4 : i < z.length := Nat.lt_of_lt_of_le h3 (olen_le z)
    simp [oz, gt, h4]
end Go.Proofs.YtejnhpjejcpekaaGreatDoor
