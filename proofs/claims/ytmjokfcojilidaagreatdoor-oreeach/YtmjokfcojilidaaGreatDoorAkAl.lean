/-
  The reference's operators: Degree, Bits, Sub.
-/
import Derived.Test.YtmjokfcojilidaaGreatDoorRsVfVcAjDu
import Derived.Test.YtmjokfcojilidaaGreatDoorDcUjLeUk
import Derived.Deep.DeepFit
namespace Go.Proofs.YtmjokfcojilidaaGreatDoor
open Go.RowKit
set_option linter.unusedVariables false
set_option linter.unusedSimpArgs false

theorem EY.le {N E N' E' : Nat} {w : World} {B T : Nat} {z : List Int} {h : Hdr} (k : EY N E w B T z h) (hN : N ≤ N') (hE : E ≤ E') : EY N' E' w B T z h := by
  obtain ⟨fs, a, b, c, d, e⟩ := k
  exact ⟨fs, ⟨a.el, a.zl, a.cap, a.bnd, a.pl, fun j hj => (a.ev j hj).wide hN⟩, b, c, Nat.le_trans d hE, e⟩
theorem HR.le {N E N' E' D : Nat} {w : World} {B T : Nat} {z : List (List Int)} {h : Hdr} (k : HR D (EY N E) w B T z h) (hN : N ≤ N') (hE : E ≤ E') : HR D (EY N' E') w B T z h := by
  obtain ⟨hs, a⟩ := k
  exact ⟨hs, a.el, a.tl, a.cap, a.bnd, a.pn, a.few, a.hl, a.at_, fun j hj => (a.ev j hj).le hN hE⟩
theorem length_otr (l : List (List Int)) : (otr l).length = olen l := by
  have := olen_le l
  simp [otr]
  omega
theorem gx_mulp1 (c : Int) (ys : List Int) (t : Nat) : gx (mulp [c] ys) t = c * gx ys t := by
  have h1 : ps [c] ys 1 t = c * gx ys t := by simp [ps, gx]
  unfold mulp
  by_cases h : ([c] : List Int).length = 0 ∨ ys.length = 0
  · rw [if_pos h]
    have h2 : ys = [] := List.eq_nil_of_length_eq_zero (by simpa using h)
    subst h2
    simp [gx]
  · rw [if_neg h]
    rcases Nat.lt_or_ge t ([c].length + ys.length - 1) with h2 | h2
    · rw [gx_mulz _ _ _ h2]
      exact h1
    · rw [gx_past _ ([c].length + ys.length - 1) (by rw [length_mulz]; exact Nat.le_refl _) t h2]
      rw [gx_past ys ys.length (Nat.le_refl _) t (by simp at h2; omega), Int.mul_zero]
theorem pz_minus (a b : List Int) : tr (pz (· + ·) a (mulp [-1] b)) = tr (pz (· - ·) a b) := by
  refine tr_same fun j => ?_
  rw [gx_pz0 _ rfl, gx_pz0 _ rfl, gx_mulp1]
  omega
set_option maxHeartbeats 2000000 in
set_option maxRecDepth 100000 in
/-- ashlarref8.Degree. -/
theorem rDegree8_any {w : World} {B T N E D : Nat} {l : List (List Int)} {h : Hdr} (H : HR D (EY N E) w B T l h) (hT : T ≤ w.heap.size) (hD : D ≤ 1000000) (hE : E ≤ 1000000) :
    Calls Tryz.prog 36 #[.slice h.p h.n h.c] w fun e w' => e = .returned (.int .i64 (odeg l)) ∧ Below w.heap.size w w' := by
  obtain ⟨hs, k⟩ := H
  have HX : Hid (HRow D (EY N E) w B T l h hs ∧ T ≤ w.heap.size) := ⟨k, hT⟩
  have hn : h.n ≤ D := k.few
  have HL : Hid (l.length = h.n) := k.tl
  obtain ⟨p, n, nc⟩ := h
  simp only at hn HL ⊢
  clear k hT
  go_enter Tryz.func36, Tryz.ntmps36
  go_wp2_with fail
  go_loopw [3, 4] (fun mv kv wr => ∃ i : Nat, i ≤ n ∧ mv = .int .i64 (odeg (l.take i)) ∧ kv = .int .i64 i ∧ Hid (Below w.heap.size w wr)) (fun _ kv _ => n - (intOf kv).toNat)
  case atStart => exact ⟨0, Nat.zero_le _, by simp [odeg], by go_num, Below.refl _ _⟩
  case round =>
    obtain ⟨i, hi, rfl, rfl, G⟩ := hrel
    rcases Nat.lt_or_ge i n with hlt | hge
    · have g4 := G.out
      obtain ⟨b, o, hp, hc⟩ := HX.out.1.hl (by rw [HX.out.1.el]; show 0 < n; omega)
      simp only at hp
      subst hp
      have c0 := hc i (by rw [HX.out.1.el]; exact hlt)
      have c1 : wr.cell? ⟨b, o + i, none⟩ = some (gh hs i).val := cell_later' g4 c0
      obtain ⟨es2, -, -, ht2, hd3, -⟩ := HX.out.1.ev i hlt
      have HT : Hid (odeg (l.take (i + 1)) = max (odeg (l.take i)) (((gh hs i).n : Int) - 1)) := by rw [← ht2]; exact odeg_take l i (by have := HL.out; omega)
      generalize gh hs i = hd at c1 hd3 HT
      obtain ⟨p2, n2, nc2⟩ := hd
      simp only [Hdr.val] at c1 hd3 HT
      have i1 : (i : Int) < (n : Int) := by omega
      have hcall := fun w' => rpDeg_any p2 n2 nc2 w' (by omega)
      obtain ⟨M, hM⟩ : ∃ M, odeg (l.take (i + 1)) = M := ⟨_, rfl⟩
      have HEQ := (show Hid _ from hM)
      rw [hM] at HT
      obtain ⟨t, ht⟩ : ∃ t, (n2 : Int) - 1 = t := ⟨_, rfl⟩
      rw [ht] at HT
      simp only [ht] at hcall
      generalize odeg (l.take i) = d at *
      clear hc c0 g4 hM ht ht2
      go_wp2_with fail
      go_fit (hcall _)
      rintro e w1 ⟨rfl, hb1⟩
      have HB1 : Hid (Below w.heap.size w w1) := bnext' G.out hb1
      clear c1 hcall hb1
      by_cases hdt : d < t
      · obtain rfl : t = M := by have := HT.out; omega
        go_wp2
        go_roundw
        case rel => exact ⟨i + 1, by omega, by rw [HEQ.out], by go_num, HB1.out⟩
        case measure => simp [intOf]; omega
      · obtain rfl : d = M := by have := HT.out; omega
        go_wp2
        go_roundw
        case rel => exact ⟨i + 1, by omega, by rw [HEQ.out], by go_num, HB1.out⟩
        case measure => simp [intOf]; omega
    · obtain rfl : i = n := by omega
      have i1 : ¬ (i : Int) < (i : Int) := by omega
      have HZ : Hid (l.take i = l) := List.take_of_length_le (by have := HL.out; omega)
      go_wp2
      go_ret
      exact ⟨by rw [HZ.out]; rfl, G.out⟩
set_option maxHeartbeats 2000000 in
set_option maxRecDepth 100000 in
/-- ashlarref8.Bits. -/
theorem rBits8_any {w : World} {B T N E D : Nat} {l : List (List Int)} {h : Hdr} (H : HR D (EY N E) w B T l h) (hT : T ≤ w.heap.size) (hD : D ≤ 1000000) (hE : E ≤ 1000000) (hN : N ≤ 1000) :
    Calls Tryz.prog 38 #[.slice h.p h.n h.c] w fun e w' => e = .returned (.int .i64 (obit l)) ∧ Below w.heap.size w w' := by
  obtain ⟨hs, k⟩ := H
  have HX : Hid (HRow D (EY N E) w B T l h hs ∧ T ≤ w.heap.size) := ⟨k, hT⟩
  have hn : h.n ≤ D := k.few
  have HL : Hid (l.length = h.n) := k.tl
  obtain ⟨p, n, nc⟩ := h
  simp only at hn HL ⊢
  clear k hT
  go_enter Tryz.func38, Tryz.ntmps38
  go_wp2_with fail
  go_loopw [3, 4] (fun mv kv wr => ∃ i : Nat, i ≤ n ∧ mv = .int .i64 (obit (l.take i)) ∧ kv = .int .i64 i ∧ Hid (Below w.heap.size w wr)) (fun _ kv _ => n - (intOf kv).toNat)
  case atStart => exact ⟨0, Nat.zero_le _, by simp [obit], by go_num, Below.refl _ _⟩
  case round =>
    obtain ⟨i, hi, rfl, rfl, G⟩ := hrel
    rcases Nat.lt_or_ge i n with hlt | hge
    · have g4 := G.out
      obtain ⟨b, o, hp, hc⟩ := HX.out.1.hl (by rw [HX.out.1.el]; show 0 < n; omega)
      simp only at hp
      subst hp
      have c0 := hc i (by rw [HX.out.1.el]; exact hlt)
      have c1 : wr.cell? ⟨b, o + i, none⟩ = some (gh hs i).val := cell_later' g4 c0
      have hE2 := (lasts_EY N E).below (HX.out.1.ev i hlt) HX.out.2 g4
      have HT : Hid (obit (l.take (i + 1)) = max (obit (l.take i)) (pb (gt l i))) := obit_take l i (by have := HL.out; omega)
      generalize gh hs i = hd at c1 hE2
      obtain ⟨p2, n2, nc2⟩ := hd
      obtain ⟨es2, hP2, -, -, hd3, -⟩ := hE2
      simp only [Hdr.val] at c1 hd3 hP2
      have i1 : (i : Int) < (n : Int) := by omega
      have hcall := rpBits_any hP2 hN (by omega)
      obtain ⟨M, hM⟩ : ∃ M, obit (l.take (i + 1)) = M := ⟨_, rfl⟩
      have HEQ := (show Hid _ from hM)
      rw [hM] at HT
      generalize pb (gt l i) = t at *
      generalize obit (l.take i) = d at *
      clear hc c0 g4 hM hP2
      go_wp2_with fail
      go_fit hcall
      rintro e w1 ⟨rfl, hb1⟩
      have HB1 : Hid (Below w.heap.size w w1) := bnext' G.out hb1
      clear c1 hcall hb1
      by_cases hdt : d < t
      · obtain rfl : t = M := by have := HT.out; omega
        have i5 : (d : Int) < (t : Int) := by omega
        go_wp2
        go_roundw
        case rel => exact ⟨i + 1, by omega, by rw [HEQ.out], by go_num, HB1.out⟩
        case measure => simp [intOf]; omega
      · obtain rfl : d = M := by have := HT.out; omega
        have i5 : ¬ (d : Int) < (t : Int) := by omega
        go_wp2
        go_roundw
        case rel => exact ⟨i + 1, by omega, by rw [HEQ.out], by go_num, HB1.out⟩
        case measure => simp [intOf]; omega
    · obtain rfl : i = n := by omega
      have i1 : ¬ (i : Int) < (i : Int) := by omega
      have HZ : Hid (l.take i = l) := List.take_of_length_le (by have := HL.out; omega)
      go_wp2
      go_ret
      exact ⟨by rw [HZ.out]; rfl, G.out⟩
set_option maxHeartbeats 4000000 in
set_option maxRecDepth 100000 in
/-- ashlarref8.Sub. -/
theorem rSub8_any {w : World} {B T E D B2 T2 : Nat} {zss yss : List (List Int)} {h k : Hdr} (H : HR D (EY 4 E) w B T zss h) (G : HR D (EY 4 E) w B2 T2 yss k) (hT : T ≤ w.heap.size) (hT2 : T2 ≤ w.heap.size) (hD : D ≤ 1000) (hE : E ≤ 900) :
    Calls Tryz.prog 27 #[.slice h.p h.n h.c, .slice k.p k.n k.c] w (OrP D ((List.range (max zss.length (olen (yss.map (mulp [-1]))))).map fun i => tr (pz (· + ·) (gt zss i) (gt (otr (yss.map (mulp [-1]))) i))) 13 (E + 1) w) := by
  have HX : Hid (HR D (EY 4 E) w B T zss h ∧ T ≤ w.heap.size) := ⟨H, hT⟩
  have HY : Hid (HR D (EY 4 E) w B2 T2 yss k ∧ T2 ≤ w.heap.size) := ⟨G, hT2⟩
  clear H G hT hT2
  obtain ⟨p, n, nc⟩ := h
  obtain ⟨q, m, mc⟩ := k
  simp only
  obtain ⟨l3, hl3⟩ : ∃ l3, (List.range (max zss.length (olen (yss.map (mulp [-1]))))).map (fun i => tr (pz (· + ·) (gt zss i) (gt (otr (yss.map (mulp [-1]))) i))) = l3 := ⟨_, rfl⟩
  rw [hl3]
  have HL3 := (show Hid _ from hl3)
  clear hl3
  go_enter Tryz.func27, Tryz.ntmps27
  go_wp2_with fail
  have hal := bel_al (o := .cells #[.int .i64 (-1)] 2) (Below.refl w.heap.size w)
  have hOf := rpOf_any _ 1 1 [-1] _ rfl (by decide) (rd_one w (-1) 2) (fun j => by match j with | 0 => decide | (j + 1) => simp [gx])
  go_fit hOf
  rintro e w1 ⟨p1, n1, es1, rfl, hP1, hF1, ht1, hb1⟩
  have hB1 := bnext' hal hb1
  have e1 : tr [-1] = [-1] := by decide
  rw [e1] at hP1 ht1
  obtain rfl : n1 = 1 := hP1.zl.symm
  have hsc := rScale8_any (K := 1) (L := 2) (E' := E + 1) hP1 rfl (by decide) (fun i => by match i with | 0 => decide | (j + 1) => simp [gx]; exact pw_pos 1) ((lasts_HR (lasts_EY 4 E)).below HY.out.1 HY.out.2 hB1) (Nat.le_trans HY.out.2 hB1.size) hD (by omega) (by decide) (by decide) (by omega) (by omega)
  have HB1 : Hid (Below w.heap.size w w1) := hB1
  simp only at hsc
  clear hP1 hF1 ht1 hb1 hB1 hal hOf e1
  go_wp2_with fail
  go_fit hsc
  rintro e w2 ⟨q2, rfl, hS, hb2⟩
  have hB2 := bnext' HB1.out hb2
  have HB2 : Hid (Below w.heap.size w w2) := hB2
  have hadd := rAdd8_any (HR.le ((lasts_HR (lasts_EY 4 E)).below HX.out.1 HX.out.2 hB2) (Nat.le_refl 4) (Nat.le_succ E)) hS (Nat.le_trans HX.out.2 hB2.size) (Nat.le_refl _) hD (by omega) (by decide) (by decide) (by decide) (by decide)
  rw [length_otr, HL3.out] at hadd
  simp only at hadd
  have HLL : Hid (∀ e w', OrP D l3 13 (E + 1) w2 e w' → OrP D l3 13 (E + 1) w e w') := fun e w' ⟨p, a1, a2, a3⟩ => ⟨p, a1, (lasts_HR (lasts_EY _ _)).wide a2 HB2.out.size (Nat.le_refl _), bnext' HB2.out a3⟩
  generalize olen (yss.map (mulp [-1])) = m2 at *
  clear HL3
  clear hsc hS hb2 hB2
  go_wp2_with fail
  go_fit hadd
  rintro e w3 ⟨q3, rfl, hA, hb3⟩
  have HR' : Hid (OrP D l3 13 (E + 1) w (.returned (.slice q3 (olen l3) (olen l3))) w3) := HLL.out _ _ ⟨q3, rfl, hA, hb3⟩
  clear hA hb3 hadd HLL
  generalize olen l3 = m3 at *
  go_wp2
  go_ret
  exact HR'.out
end Go.Proofs.YtmjokfcojilidaaGreatDoor
/-
  Plain facts on operators' normal forms.
-/
namespace Go.Proofs.YtmjokfcojilidaaGreatDoor
open Go.RowKit
set_option linter.unusedVariables false
set_option linter.unusedSimpArgs false

theorem length_oz (z : List (List Int)) : (oz z).length = olen z := by
  have := olen_le z
  simp [oz]
  omega
theorem tr_zero {a : List Int} (h : tlen a = 0) : tr a = [] := by
  rw [tr, h]
  rfl
theorem gt_oz (z : List (List Int)) (j : Nat) : gt (oz z) j = tr (gt z j) := by
  rcases Nat.lt_or_ge j (olen z) with h | h
  · have h1 : j < z.length := Nat.lt_of_lt_of_le h (olen_le z)
    simp [oz, gt, h, h1]
  · rw [gt_over0 _ _ (by rw [length_oz]; exact h), tr_zero (olen_zero z j h)]
theorem gt_mapt (z : List (List Int)) (j : Nat) : gt (z.map tr) j = tr (gt z j) := by
  rcases Nat.lt_or_ge j z.length with h | h
  · simp [gt, h]
  · rw [gt_over0 _ _ (by simpa using h), gt_over0 _ _ h]
    rfl
theorem olen_tlen {a b : List (List Int)} (h : ∀ j, tlen (gt a j) = tlen (gt b j)) : olen a = olen b := by
  refine olen_eq a (olen b) (fun j hj => by rw [h j]; exact olen_zero b j hj) ?_
  rcases Nat.eq_zero_or_pos (olen b) with h0 | h0
  · exact .inl h0
  · refine .inr ?_
    rw [h]
    intro e
    have h1 := tlen_top (b.map fun z => (tlen z : Int)) h0
    rw [gx_tlens] at h1
    apply h1
    show (tlen (gt b (olen b - 1)) : Int) = 0
    rw [e]
    rfl
theorem olen_mapt (z : List (List Int)) : olen (z.map tr) = olen z := olen_tlen fun j => by rw [gt_mapt, tlen_tr]
theorem otr_mapt (z : List (List Int)) : otr (z.map tr) = oz z := by rw [otr, olen_mapt, ← List.map_take]; rfl
theorem olen_oz (z : List (List Int)) : olen (oz z) = olen z := olen_tlen fun j => by rw [gt_oz, tlen_tr]
theorem otr_oz (z : List (List Int)) : otr (oz z) = oz z := by rw [otr, olen_oz, List.take_of_length_le (by rw [length_oz]; exact Nat.le_refl _)]
theorem gt_rng (F : Nat → List Int) (M : Nat) (h : ∀ j, M ≤ j → F j = []) (j : Nat) : gt ((List.range M).map F) j = F j := by
  rcases Nat.lt_or_ge j M with hj | hj
  · simp [gt, hj]
  · rw [gt_over0 _ _ (by simpa using hj), h j hj]
theorem rng_oz (z : List (List Int)) : ((List.range (olen z)).map fun i => tr (gt z i)) = oz z := by
  apply List.ext_getElem
  · simp [length_oz]
  · intro i h1 h2
    have h3 : i < olen z := by simpa using h1
    have h4 : i < z.length := Nat.lt_of_lt_of_le h3 (olen_le z)
    simp [oz, gt, h4]
theorem rng_mul (F : List Int → List Int) (z : List (List Int)) : ((List.range (olen z)).map fun i => F (tr (gt z i))) = (oz z).map F := by
  rw [← rng_oz, List.map_map]
  rfl
theorem pz_nil (f : Int → Int → Int) : tr (pz f [] []) = [] := by simp [pz, tr]
theorem otr_sum (f : Int → Int → Int) (z y : List (List Int)) : otr ((List.range (max (oz z).length (oz y).length)).map fun i => tr (pz f (gt (oz z) i) (gt (oz y) i))) = otr (opz f z y) := by
  simp only [length_oz, gt_oz]
  rfl
theorem mulp_neg_nil {y : List Int} (h : tlen (mulp [-1] (tr y)) = 0) : mulp [-1] (tr y) = [] := by
  have h1 : tlen (tr y) = 0 := by
    rcases Nat.eq_zero_or_pos (tlen (tr y)) with h0 | h0
    · exact h0
    · have h2 := tlen_top (tr y) h0
      have h3 := tlen_zero _ (tlen (tr y) - 1) (by rw [h]; exact Nat.zero_le _)
      rw [gx_mulp1] at h3
      omega
  have h2 : tr y = [] := by rw [tlen_tr] at h1; exact tr_zero h1
  rw [h2]
  rfl
theorem gt_neg (y : List (List Int)) (j : Nat) : gt (otr ((oz y).map (mulp [-1]))) j = mulp [-1] (tr (gt y j)) := by
  have h0 : ∀ j, gt ((oz y).map (mulp [-1])) j = mulp [-1] (tr (gt y j)) := fun j => by
    rw [← gt_oz]
    rcases Nat.lt_or_ge j (oz y).length with h | h
    · simp [gt, h]
    · rw [gt_over0 _ _ (by simpa using h), gt_over0 _ _ h]
      rfl
  rcases Nat.lt_or_ge j (olen ((oz y).map (mulp [-1]))) with h | h
  · rw [otr, gt_take _ _ _ h, h0]
  · rw [gt_over0 _ _ (by rw [length_otr]; exact h)]
    have h1 := olen_zero _ j h
    rw [h0] at h1
    exact (mulp_neg_nil h1).symm
theorem olen_neg (y : List (List Int)) : olen ((oz y).map (mulp [-1])) = olen y := by
  refine olen_tlen fun j => ?_
  have h0 : gt ((oz y).map (mulp [-1])) j = mulp [-1] (tr (gt y j)) := by
    rw [← gt_oz]
    rcases Nat.lt_or_ge j (oz y).length with h | h
    · simp [gt, h]
    · rw [gt_over0 _ _ (by simpa using h), gt_over0 _ _ h]
      rfl
  rw [h0]
  refine tlen_eq _ _ (fun i hi => ?_) ?_
  · rw [gx_mulp1, gx_tr, tlen_zero _ _ hi]
    rfl
  · rcases Nat.eq_zero_or_pos (tlen (gt y j)) with h1 | h1
    · exact .inl h1
    · refine .inr ?_
      rw [gx_mulp1, gx_tr]
      have := tlen_top (gt y j) h1
      omega
theorem otr_dif (z y : List (List Int)) : otr ((List.range (max (oz z).length (olen ((oz y).map (mulp [-1]))))).map fun i => tr (pz (· + ·) (gt (oz z) i) (gt (otr ((oz y).map (mulp [-1]))) i))) = otr (opz (· - ·) z y) := by
  simp only [length_oz, gt_oz, olen_neg, gt_neg, pz_minus]
  rfl
theorem odeg_low (zss : List (List Int)) : ∀ j, j ≤ zss.length → -1 ≤ odeg (zss.take j) := by
  intro j
  induction j with
  | zero => intro _; simp [odeg]
  | succ j ih =>
    intro hj
    have h1 := ih (by omega)
    rw [odeg_take zss j (by omega)]
    omega
theorem odeg_oz (z : List (List Int)) : odeg (oz z) = odeg z := by
  have key : ∀ j, odeg ((oz z).take j) = odeg (z.take j) := by
    intro j
    induction j with
    | zero => rfl
    | succ j ih =>
      rcases Nat.lt_or_ge j (olen z) with h | h
      · rw [odeg_take _ j (by rw [length_oz]; exact h), odeg_take _ j (Nat.lt_of_lt_of_le h (olen_le z)), ih, gt_oz, tlen_tr]
      · rw [List.take_of_length_le (by rw [length_oz]; omega)] at ih ⊢
        rcases Nat.lt_or_ge j z.length with h1 | h1
        · have h2 : -1 ≤ odeg (z.take j) := by
            have hb := odeg_low z j (by omega)
            exact hb
          rw [odeg_take _ j h1, ih, olen_zero z j h]
          simp only [Int.natCast_zero]
          omega
        · rw [List.take_of_length_le (by omega)] at ih ⊢
          exact ih
  have := key (max z.length (oz z).length)
  rw [List.take_of_length_le (by omega), List.take_of_length_le (by omega)] at this
  exact this
theorem obit_oz (z : List (List Int)) : obit (oz z) = obit z := by
  have key : ∀ j, obit ((oz z).take j) = obit (z.take j) := by
    intro j
    induction j with
    | zero => rfl
    | succ j ih =>
      rcases Nat.lt_or_ge j (olen z) with h | h
      · rw [obit_take _ j (by rw [length_oz]; exact h), obit_take _ j (Nat.lt_of_lt_of_le h (olen_le z)), ih, gt_oz, pb_trim]
      · rw [List.take_of_length_le (by rw [length_oz]; omega)] at ih ⊢
        rcases Nat.lt_or_ge j z.length with h1 | h1
        · have h2 : pb (gt z j) = 0 := by
            rw [← pb_trim, tr_zero (olen_zero z j h)]
            rfl
          rw [obit_take _ j h1, ih, h2]
          omega
        · rw [List.take_of_length_le (by omega)] at ih ⊢
          exact ih
  have := key (max z.length (oz z).length)
  rw [List.take_of_length_le (by omega), List.take_of_length_le (by omega)] at this
  exact this
end Go.Proofs.YtmjokfcojilidaaGreatDoor
