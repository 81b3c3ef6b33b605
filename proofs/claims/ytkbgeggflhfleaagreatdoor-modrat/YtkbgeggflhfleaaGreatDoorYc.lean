/-
  ashlarref2.Make of numbers that are not 0, and of all.
-/
import Derived.Test.YtkbgeggflhfleaaGreatDoorRoRiRjRkRnYb
namespace Go.Proofs.YtkbgeggflhfleaaGreatDoor
open Go.RowKit
set_option linter.unusedVariables false
set_option linter.unusedSimpArgs false
set_option maxHeartbeats 8000000
theorem gcd_rvals (s t : Bool) (xs ys : List Int) : Int.gcd (rval s xs) (rval t ys) = Int.gcd (vd xs) (vd ys) := by
  cases s <;> cases t <;> simp [rval, Int.gcd_neg, Int.neg_gcd]
theorem rval_neg_iff {s : Bool} {ds : List Int} (hU : U16 ds) (h : rval s ds ≠ 0) : s = decide (rval s ds < 0) := by
  have hv := vd_nonneg hU
  cases s with
  | false =>
    have e : rval false ds = vd ds := rfl
    have h2 : ¬ rval false ds < 0 := by rw [e]; omega
    simp [h2]
  | true =>
    have e : rval true ds = -vd ds := rfl
    have h2 : rval true ds < 0 := by rw [e] at h ⊢; omega
    simp [h2]
theorem mk_vals {a b x y G : Int} {g : Nat} {R : Rat} (hg : 0 < g) (hG : G = if b < 0 then -(g : Int) else (g : Int)) (ha : a = R.num * G) (hb : b = R.den * G) (hx : x * g = a) (hy : y * g = b) : (0 < b → x = R.num ∧ y = (R.den : Int)) ∧ (b < 0 → -x = R.num ∧ -y = (R.den : Int)) := by
  have g0 : (g : Int) ≠ 0 := by omega
  refine ⟨fun h => ?_, fun h => ?_⟩
  · rw [if_neg (by omega)] at hG
    subst hG
    exact ⟨Int.eq_of_mul_eq_mul_right g0 (hx.trans ha), Int.eq_of_mul_eq_mul_right g0 (hy.trans hb)⟩
  · rw [if_pos h] at hG
    subst hG
    refine ⟨Int.eq_of_mul_eq_mul_right g0 ?_, Int.eq_of_mul_eq_mul_right g0 ?_⟩
    · rw [Int.neg_mul, hx, ha, Int.mul_neg, Int.neg_neg]
    · rw [Int.neg_mul, hy, hb, Int.mul_neg, Int.neg_neg]
theorem vd_dvd {s : Bool} {ds : List Int} {g : Int} (h : g ∣ vd ds) : ∃ c, vd ds = c * g := by
  obtain ⟨c, hc⟩ := h
  exact ⟨c, by rw [hc, Int.mul_comm]⟩
set_option maxRecDepth 100000 in
theorem Make_some (s t : Bool) (p q : Option Addr) (n m : Nat) (ds es : List Int) (w : World) (hA : RN w s p n ds) (hB : RN w t q m es) (h0 : rval t es ≠ 0) (h1 : rval s ds ≠ 0) (hn : n ≤ 1000) (hm : m ≤ 1000) :
    Calls Tryz.prog 24 #[.agg #[.bool s, .slice p n n], .agg #[.bool t, .slice q m m]] w (MkPost (Rat.divInt (rval s ds) (rval t es)) w) := by
  obtain ⟨G, hG, hG0, hGa, hGb⟩ := rat_low (rval s ds) (rval t es) h0
  rw [gcd_rvals] at hG
  have HG := (show Hid _ from (And.intro hG (And.intro hG0 (And.intro hGa hGb))))
  clear hG hG0 hGa hGb
  have hgp : 0 < Int.gcd (vd ds) (vd es) := by
    rcases Nat.eq_zero_or_pos (Int.gcd (vd ds) (vd es)) with h | h
    · rw [Int.gcd_eq_zero_iff] at h
      exfalso
      apply h0
      cases t <;> simp [rval, h.2]
    · exact h
  obtain ⟨gg, hgg⟩ : ∃ g, g = Int.gcd (vd ds) (vd es) := ⟨_, rfl⟩
  have HGG := (show Hid _ from hgg)
  rw [← hgg] at hgp
  clear hgg
  obtain ⟨vs, hvs, hvs0⟩ : ∃ v, isgn (rval s ds) = v ∧ ¬ v = 0 := by
    rcases (show 0 < rval s ds ∨ rval s ds < 0 by omega) with h | h
    · exact ⟨1, isgn_pos h, by decide⟩
    · exact ⟨-1, isgn_neg h, by decide⟩
  obtain ⟨vt, hvt, hvt0⟩ : ∃ v, isgn (rval t es) = v ∧ ¬ v = 0 := by
    rcases (show 0 < rval t es ∨ rval t es < 0 by omega) with h | h
    · exact ⟨1, isgn_pos h, by decide⟩
    · exact ⟨-1, isgn_neg h, by decide⟩
  have HVs := (show Hid _ from hvs)
  have HVt := (show Hid _ from hvt)
  have H0 := (show Hid _ from h0)
  have H1 := (show Hid _ from h1)
  have hvs1 : (vs == 0) = false := by simpa using hvs0
  have hvt1 : (vt == 0) = false := by simpa using hvt0
  clear h0 h1 hvs hvt
  generalize Rat.divInt (rval s ds) (rval t es) = R at *
  go_enter Tryz.func24, Tryz.ntmps24
  go_wp2_with fail
  have hA0 : Bx (((w.alloc (.cells #[.bool s, .slice p n n] 38)).alloc (.cells #[.bool t, .slice q m m] 38)).alloc (.cells #[.bool false, .slice none 0 0, .bool false, .slice none 0 0] 40)) w.heap.size (.bool s) (.slice p n n) := ((Bx.new _ _ _ rfl).alloc _).alloc _
  have hB0 : Bx (((w.alloc (.cells #[.bool s, .slice p n n] 38)).alloc (.cells #[.bool t, .slice q m m] 38)).alloc (.cells #[.bool false, .slice none 0 0, .bool false, .slice none 0 0] 40)) (w.heap.size + 1) (.bool t) (.slice q m m) := (Bx.new _ _ _ (by simp)).alloc _
  have hR0 : Bq (((w.alloc (.cells #[.bool s, .slice p n n] 38)).alloc (.cells #[.bool t, .slice q m m] 38)).alloc (.cells #[.bool false, .slice none 0 0, .bool false, .slice none 0 0] 40)) (w.heap.size + 1 + 1) (.bool false) (.slice none 0 0) (.bool false) (.slice none 0 0) := Bq.new _ _ _ _ _ (by simp)
  have hW : Below w.heap.size w (((w.alloc (.cells #[.bool s, .slice p n n] 38)).alloc (.cells #[.bool t, .slice q m m] 38)).alloc (.cells #[.bool false, .slice none 0 0, .bool false, .slice none 0 0] 40)) := (((Below.refl _ _).alloc (Nat.le_refl _) _).alloc (by simp) _).alloc (by simp; omega) _
  generalize ((w.alloc (.cells #[.bool s, .slice p n n] 38)).alloc (.cells #[.bool t, .slice q m m] 38)).alloc (.cells #[.bool false, .slice none 0 0, .bool false, .slice none 0 0] 40) = W at *
  have hA1 := hA.below hW
  have hB1 := hB.below hW
  refine (rSign_any t q m m es _ hB1.u hB1.nrm).mono ?_
  rintro e w1 ⟨rfl, hb1⟩
  rw [HVt.out]
  have a0 := (hA0.later hb1).c0
  have a1 := (hA0.later hb1).c1
  go_wp2_with fail
  have hA2 := hA1.below hb1
  refine (rSign_any s p n n ds _ hA2.u hA2.nrm).mono ?_
  rintro e w2 ⟨rfl, hb2⟩
  rw [HVs.out]
  have hb12 := bnext' hb1 hb2
  clear a0 a1 hA2
  have a0 := (hA0.later hb12).c0
  have a1 := (hA0.later hb12).c1
  have b0 := (hB0.later hb12).c0
  have b1 := (hB0.later hb12).c1
  go_wp2_with fail
  refine (rGcd_any s t p q n m 1000 ds es _ (hA1.below hb12) (hB1.below hb12) hn hm (by decide)).mono ?_
  rintro e w3 ⟨p3, n3, d3, rfl, hR3, hv3, hn3, hb3⟩
  rw [← HGG.out] at hv3
  have hb13 := bnext' hb12 hb3
  have hal := bel_al (o := .cells #[.bool false, .slice p3 n3 n3] 38) hb13
  have hA4 := hA0.later hal
  have hB4 := hB0.later hal
  have hR4 := hR0.later hal
  have hg4 : Bx (w3.alloc (.cells #[.bool false, .slice p3 n3 n3] 38)) w3.heap.size (.bool false) (.slice p3 n3 n3) := Bx.new _ _ _ rfl
  have hX4 := hA1.below hal
  have hY4 := hB1.below hal
  have hD4 := RN_al (o := .cells #[.bool false, .slice p3 n3 n3] 38) hR3
  have hW4 := bnext' hW hal
  have HV3 := (show Hid _ from hv3)
  have sW := hR0.lt
  have sWW := hal.size
  clear a0 a1 b0 b1 hb1 hb2 hb12 hb3 hb13 hal hv3 hR3 hA0 hB0 hR0 hA1 hB1
  have a0 := hA4.c0
  have a1 := hA4.c1
  go_wp2_with fail
  have hnp : 0 < n3 := by
    rcases Nat.eq_zero_or_pos n3 with h | h
    · exfalso
      have h2 := hD4.len
      have h3 : d3 = [] := List.eq_nil_of_length_eq_zero (by omega)
      have h4 := HV3.out
      rw [h3] at h4
      have h5 : rval false [] = 0 := rfl
      omega
    · exact h
  have hvd : Hid (vd d3 = (gg : Int)) := HV3.out
  generalize w3.alloc (.cells #[.bool false, .slice p3 n3 n3] 38) = W4 at *
  generalize w3.heap.size = g at *
  refine (rQuo_x s p p3 n n3 ds d3 W4 hX4 hD4 hn hn3 hnp (by rw [hvd.out, HGG.out]; exact vd_dvd (s := s) (Int.gcd_dvd_left ..))).mono ?_
  rintro e w5 ⟨s5, p5, n5, d5, p6, rfl, hR5, hv5, hF5, hb5⟩
  have hL5 := (show Hid _ from hR5.lt)
  have hal := bel_al (o := .cells #[.bool false, .slice p6 0 0] 38) (bel_al (o := .cells #[.bool s5, .slice p5 n5 n5] 38) hb5)
  have hB6 := hB4.later hal
  have hR6 := hR4.later hal
  have hg6 := hg4.later hal
  have hY6 := hY4.below hal
  have hD6 := hD4.below hal
  have hn6 : Bx ((w5.alloc (.cells #[.bool s5, .slice p5 n5 n5] 38)).alloc (.cells #[.bool false, .slice p6 0 0] 38)) w5.heap.size (.bool s5) (.slice p5 n5 n5) := (Bx.new _ _ _ rfl).alloc _
  have hE6 := RN_al (o := .cells #[.bool false, .slice p6 0 0] 38) (RN_al (o := .cells #[.bool s5, .slice p5 n5 n5] 38) hR5)
  have hW6 := bnext' hW4 hal
  have s46 := hal.size
  have s45 := hb5.size
  have HV5 := (show Hid _ from hv5)
  clear a0 a1 hA4 hB4 hR4 hg4 hX4 hY4 hD4 hW4 hb5 hal hv5 hR5
  have b0 := hB6.c0
  have b1 := hB6.c1
  have g0 := hg6.c0
  have g1 := hg6.c1
  go_wp2_with fail
  generalize (w5.alloc (.cells #[.bool s5, .slice p5 n5 n5] 38)).alloc (.cells #[.bool false, .slice p6 0 0] 38) = W6 at *
  generalize w5.heap.size = gn at *
  refine (rQuo_x t q p3 m n3 es d3 W6 hY6 hD6 hm hn3 hnp (by rw [hvd.out, HGG.out]; exact vd_dvd (s := t) (Int.gcd_dvd_right ..))).mono ?_
  rintro e w7 ⟨s7, p7, n7, d7, p8, rfl, hR7, hv7, hF7, hb7⟩
  have hL7 := (show Hid _ from hR7.lt)
  have hal := bel_al (o := .cells #[.bool false, .slice p8 0 0] 38) (bel_al (o := .cells #[.bool s7, .slice p7 n7 n7] 38) hb7)
  have hR8 := hR6.later hal
  have hn8 := hn6.later hal
  have hd8 : Bx ((w7.alloc (.cells #[.bool s7, .slice p7 n7 n7] 38)).alloc (.cells #[.bool false, .slice p8 0 0] 38)) w7.heap.size (.bool s7) (.slice p7 n7 n7) := (Bx.new _ _ _ rfl).alloc _
  have hE8 := hE6.below hal
  have hF8 := RN_al (o := .cells #[.bool false, .slice p8 0 0] 38) (RN_al (o := .cells #[.bool s7, .slice p7 n7 n7] 38) hR7)
  have hW8 := bnext' hW6 hal
  have hvals := mk_vals (x := rval s5 d5) (y := rval s7 d7) hgp (by have := HG.out.1; rw [← HGG.out] at this; exact this) HG.out.2.2.1 HG.out.2.2.2 (by rw [← hvd.out]; exact HV5.out) (by rw [← hvd.out]; exact hv7)
  have hb7s := hb7.size
  have ln : gn < W6.heap.size := block_lt_of_cell hn6.c0
  have hne7 : rval s7 d7 ≠ 0 := by
    intro h
    rw [h, Int.zero_mul] at hv7
    exact H0.out hv7.symm
  have hsg := rval_neg_iff hR7.u hne7
  have hsb : rval t es < 0 ↔ rval s7 d7 < 0 := by
    rw [← hv7, hvd.out]
    constructor
    · intro h
      rcases Int.lt_or_le (rval s7 d7) 0 with h2 | h2
      · exact h2
      · have := Int.mul_nonneg h2 (show (0 : Int) ≤ gg by omega)
        omega
    · intro h
      exact Int.mul_neg_of_neg_of_pos h (by omega)
  have HVV := (show Hid _ from hvals)
  have HSB := (show Hid _ from hsb)
  have HSG := (show Hid _ from hsg)
  clear hvals hsb hsg hne7 b0 b1 g0 g1 hB6 hR6 hg6 hY6 hD6 hn6 hE6 hW6 hR7 hv7 hal
  have sR := hR8.lt
  have hW6s : W4.heap.size ≤ W6.heap.size := s46
  have d0 := hd8.c0
  have d1 := hd8.c1
  have n0 := hn8.c0
  have n1 := hn8.c1
  cases s7 with
  | false =>
    have hpos : 0 < rval t es := by
      have h1 := HSB.out
      have h2 := vd_nonneg hF8.u
      have h3 : rval false d7 = vd d7 := rfl
      have h4 : rval t es ≠ 0 := H0.out
      have h5 : ¬ rval t es < 0 := fun h => by have := h1.1 h; omega
      omega
    have HVAL := (show Hid _ from HVV.out.1 hpos)
    clear hpos HVV
    obtain ⟨r0, r1, r2, r3, f0, f1, f2, f3⟩ := hR8
    go_wp2
    refine bodyPost_ret (v := .agg #[.bool s5, .slice p5 n5 n5, .bool false, .slice p7 n7 n7]) (by simp [results, Tryz.results24, go_sem, r0, r1, r2, r3]) rfl ⟨s5, p5, n5, d5, false, p7, n7, d7, rfl, ⟨?_, ?_, HVAL.out.1, HVAL.out.2⟩, fun a ha => ?_, fun a ha => ?_, ?_⟩
    · exact hE8.set4 (fun _ => off_from hF5 (by omega)) _ _ _ _
    · exact hF8.set4 (fun _ => off_from hF7 (by omega)) _ _ _ _
    · have := hF5 a ha; omega
    · have := hF7 a ha; omega
    · exact bset4 hW8 (by omega) _ _ _ _
  | true =>
    have hneg : rval t es < 0 := by
      have h1 := HSB.out
      have h3 := HSG.out
      exact h1.2 (of_decide_eq_true h3.symm)
    have HVAL := (show Hid _ from HVV.out.2 hneg)
    clear hneg HVV
    go_wp2_with fail
    generalize (w7.alloc (.cells #[.bool true, .slice p7 n7 n7] 38)).alloc (.cells #[.bool false, .slice p8 0 0] 38) = W8 at *
    have ld : w7.heap.size < W8.heap.size := block_lt_of_cell hd8.c0
    have sW8 := hW8.size
    have hgn : w.heap.size + 1 + 1 ≠ gn := by omega
    have hgd : w7.heap.size ≠ gn := by omega
    have hgr : w.heap.size + 1 + 1 ≠ w7.heap.size := by omega
    have hO5n : 0 < n5 → Off gn p5 := fun h a ha e => by have := hL5.out h a ha; omega
    have hO5d : 0 < n5 → Off w7.heap.size p5 := fun h a ha e => by have := hL5.out h a ha; omega
    have hO7n : 0 < n7 → Off gn p7 := fun _ => off_from hF7 ln
    have hO7d : 0 < n7 → Off w7.heap.size p7 := fun h a ha e => by have := hL7.out h a ha; omega
    clear hL5 hL7
    have lgn : w.heap.size ≤ gn := by omega
    have lgd : w.heap.size ≤ w7.heap.size := by omega
    generalize w7.heap.size = gd at *
    refine (rNeg_rn hE8).mono ?_
    rintro e w9 ⟨s9, rfl, hN9, hv9, hb9⟩
    have hn9 := hn8.later hb9
    have hn10 := Bx_set (x := .bool s9) (y := .slice p5 n5 n5) hn9
    have hd10 := Bx_oth (g := gn) (x := .bool s9) (y := .slice p5 n5 n5) (hd8.later hb9) hgd
    have hR10 := Bq_oth2 (g := gn) (x := .bool s9) (y := .slice p5 n5 n5) (hR8.later hb9) hgn
    have hE10 := (hN9.set (a := ⟨gn, 0, none⟩) hO5n (.bool s9)).set (a := ⟨gn, 1, none⟩) hO5n (.slice p5 n5 n5)
    have hF10 := ((hF8.below hb9).set (a := ⟨gn, 0, none⟩) hO7n (.bool s9)).set (a := ⟨gn, 1, none⟩) hO7n (.slice p5 n5 n5)
    have hW10 := bset2 (g := gn) (bnext' hW8 hb9) lgn (.bool s9) (.slice p5 n5 n5)
    obtain ⟨n0', n1', nf0, nf1⟩ := hn9
    clear d0 d1 n0 n1 hE8 hF8 hn8 hd8 hR8 hW8 hb9 hN9
    have d0 := hd10.c0
    have d1 := hd10.c1
    go_wp2_with fail
    generalize (w9.setCell ⟨gn, 0, none⟩ (.bool s9)).setCell ⟨gn, 1, none⟩ (.slice p5 n5 n5) = W10 at *
    clear n0' n1' nf0 nf1
    refine (rNeg_rn hF10).mono ?_
    rintro e w11 ⟨s11, rfl, hN11, hv11, hb11⟩
    have hd11 := hd10.later hb11
    have hd12 := Bx_set (x := .bool s11) (y := .slice p7 n7 n7) hd11
    have hn12 := Bx_oth (g := gd) (x := .bool s11) (y := .slice p7 n7 n7) (hn10.later hb11) (Ne.symm hgd)
    have hR12 := Bq_oth2 (g := gd) (x := .bool s11) (y := .slice p7 n7 n7) (hR10.later hb11) hgr
    have hE12 := ((hE10.below hb11).set (a := ⟨gd, 0, none⟩) hO5d (.bool s11)).set (a := ⟨gd, 1, none⟩) hO5d (.slice p7 n7 n7)
    have hF12 := (hN11.set (a := ⟨gd, 0, none⟩) hO7d (.bool s11)).set (a := ⟨gd, 1, none⟩) hO7d (.slice p7 n7 n7)
    have hW12 := bset2 (g := gd) (bnext' hW10 hb11) lgd (.bool s11) (.slice p7 n7 n7)
    obtain ⟨d0', d1', df0, df1⟩ := hd11
    clear d0 d1 hE10 hF10 hn10 hd10 hR10 hW10 hb11 hN11
    have d0 := hd12.c0
    have d1 := hd12.c1
    have n0 := hn12.c0
    have n1 := hn12.c1
    obtain ⟨r0, r1, r2, r3, f0, f1, f2, f3⟩ := hR12
    go_wp2
    generalize (w11.setCell ⟨gd, 0, none⟩ (.bool s11)).setCell ⟨gd, 1, none⟩ (.slice p7 n7 n7) = W12 at *
    refine bodyPost_ret (v := .agg #[.bool s9, .slice p5 n5 n5, .bool s11, .slice p7 n7 n7]) (by simp [results, Tryz.results24, go_sem, r0, r1, r2, r3]) rfl ⟨s9, p5, n5, d5, s11, p7, n7, d7, rfl, ⟨?_, ?_, hv9.out.trans HVAL.out.1, hv11.out.trans HVAL.out.2⟩, fun a ha => ?_, fun a ha => ?_, ?_⟩
    · exact hE12.set4 (fun _ => off_from hF5 (by omega)) _ _ _ _
    · exact hF12.set4 (fun _ => off_from hF7 (by omega)) _ _ _ _
    · have := hF5 a ha; omega
    · have := hF7 a ha; omega
    · exact bset4 hW12 (by omega) _ _ _ _
theorem Make_any (s t : Bool) (p q : Option Addr) (n m : Nat) (ds es : List Int) (w : World) (hA : RN w s p n ds) (hB : RN w t q m es) (hn : n ≤ 1000) (hm : m ≤ 1000) :
    Calls Tryz.prog 24 #[.agg #[.bool s, .slice p n n], .agg #[.bool t, .slice q m m]] w (MkPost (Rat.divInt (rval s ds) (rval t es)) w) := by
  by_cases h0 : rval t es = 0
  · have := Make_den s t p q n m ds es w hA hB h0
    rwa [h0, Rat.divInt_zero]
  · by_cases h1 : rval s ds = 0
    · have := Make_num s t p q n m ds es w hA hB h0 h1
      rwa [h1, Rat.zero_divInt]
    · exact Make_some s t p q n m ds es w hA hB h0 h1 hn hm
end Go.Proofs.YtkbgeggflhfleaaGreatDoor
