/-
  rat.Over, Quo, combine, Add, Sub.
-/
import Derived.Test.YtongkalfdgleaaaGreatDoorZe
import Derived.Test.YtongkalfdgleaaaGreatDoorBfReCx
import Derived.Test.YtongkalfdgleaaaGreatDoorRhTaSa
namespace Go.Proofs.YtongkalfdgleaaaGreatDoor
open Go.RowKit
set_option linter.unusedVariables false
set_option linter.unusedSimpArgs false

/-- What a function answers that gives a rational and a code. -/
def NcPost (r : Rat) (c : Int) (w : World) (e : Ending) (w' : World) : Prop :=
  ∃ s p n xs t q m ys, e = .returned (.tuple #[.agg #[.bool s, .slice p n n, .bool t, .slice q m m], .int .i64 c]) ∧ NR w.heap.size w' s p n xs t q m ys r ∧ Below w.heap.size w w'
theorem end_nc {w W w1 : World} {r : Nat} {s : Bool} {p : Option Addr} {n : Nat} {xs : List Int} {t : Bool} {q : Option Addr} {m : Nat} {ys : List Int} {z : Rat} {c : Int} {u v x y : Value} (hw : Below w.heap.size w W) (hr : w.heap.size ≤ r) (hr' : r < W.heap.size)
    (hN : NR W.heap.size w1 s p n xs t q m ys z) (hb : Below W.heap.size W w1) :
    NcPost z c w (.returned (.tuple #[.agg #[.bool s, .slice p n n, .bool t, .slice q m m], .int .i64 c])) ((((w1.setCell ⟨r, 0, none⟩ u).setCell ⟨r, 1, none⟩ v).setCell ⟨r, 2, none⟩ x).setCell ⟨r, 3, none⟩ y) :=
  ⟨_, _, _, xs, _, _, _, ys, rfl, ⟨(hN.num.set4 hr' _ _ _ _).mono hw.size, (hN.den.set4 hr' _ _ _ _).mono hw.size⟩, bset4 (bnext' hw hb) hr _ _ _ _⟩
theorem NI.nil (B : Nat) (w : World) : NI B w false none 0 [] 0 := ⟨rfl, Rd.nil, fun j => by simp [gx], by decide, fun _ => rfl, fun _ => rfl, by decide, fun a ha => by cases ha⟩
set_option maxRecDepth 100000 in
set_option maxHeartbeats 2000000 in
/-- rat.Over. -/
theorem Over_any (s t : Bool) (p q : Option Addr) (n nc m mc : Nat) (xs ys : List Int) (w : World) (hA : AI w p n nc xs) (hB : AI w q m mc ys) (hn : n < 150) (hm : m < 150) :
    Calls Tryz.prog 26 #[.agg #[.bool s, .slice p n nc], .agg #[.bool t, .slice q m mc]] w (NcPost (Rat.divInt (ival s xs) (ival t ys)) (if ival t ys = 0 then 2 else 0) w) := by
  generalize hQ : Rat.divInt (ival s xs) (ival t ys) = Q
  have HQ : Hid (Rat.divInt (ival s xs) (ival t ys) = Q) := hQ
  clear hQ
  have hd : Hid (ival t ys = 0 ∨ ival t ys ≠ 0) := Classical.em _
  generalize hc : (if ival t ys = 0 then (2 : Int) else 0) = c
  have HC : Hid ((if ival t ys = 0 then (2 : Int) else 0) = c) := hc
  clear hc
  go_enter Tryz.func26, Tryz.ntmps26
  go_wp2_with fail
  have hA0 : Bx (((w.alloc (.cells #[.bool s, .slice p n nc] 24)).alloc (.cells #[.bool t, .slice q m mc] 24)).alloc (.cells #[.bool false, .slice none 0 0, .bool false, .slice none 0 0] 26)) w.heap.size (.bool s) (.slice p n nc) := ((Bx.new _ _ _ rfl).alloc _).alloc _
  have hB0 : Bx (((w.alloc (.cells #[.bool s, .slice p n nc] 24)).alloc (.cells #[.bool t, .slice q m mc] 24)).alloc (.cells #[.bool false, .slice none 0 0, .bool false, .slice none 0 0] 26)) (w.heap.size + 1) (.bool t) (.slice q m mc) := (Bx.new _ _ _ (by simp)).alloc _
  have hR : Bq (((w.alloc (.cells #[.bool s, .slice p n nc] 24)).alloc (.cells #[.bool t, .slice q m mc] 24)).alloc (.cells #[.bool false, .slice none 0 0, .bool false, .slice none 0 0] 26)) (w.heap.size + 1 + 1) (.bool false) (.slice none 0 0) (.bool false) (.slice none 0 0) := Bq.new _ _ _ _ _ (by simp)
  have hW : Below w.heap.size w (((w.alloc (.cells #[.bool s, .slice p n nc] 24)).alloc (.cells #[.bool t, .slice q m mc] 24)).alloc (.cells #[.bool false, .slice none 0 0, .bool false, .slice none 0 0] 26)) := (((Below.refl _ _).alloc (Nat.le_refl _) _).alloc (by simp) _).alloc (by simp; omega) _
  generalize ((w.alloc (.cells #[.bool s, .slice p n nc] 24)).alloc (.cells #[.bool t, .slice q m mc] 24)).alloc (.cells #[.bool false, .slice none 0 0, .bool false, .slice none 0 0] 26) = W at *
  refine (Sign_any t q m mc ys _ (hB.below hW)).mono ?_
  rintro e w1 ⟨rfl, hb1⟩
  have hA1 := hA0.later hb1
  have hB1 := hB0.later hb1
  have hR1 := hR.later hb1
  have hW1 := bnext' hW hb1
  clear hA0 hB0 hR hW hb1
  have sR := hR1.lt
  have a0 := hA1.c0
  have a1 := hA1.c1
  have b0 := hB1.c0
  have b1 := hB1.c1
  rcases hd.out with h0 | h0
  · rw [isgn_zero h0]
    obtain rfl : c = 2 := by have := HC.out; rw [if_pos h0] at this; exact this.symm
    clear HC
    have HQ0 : Hid (Q = 0) := by have := HQ.out; rw [h0, Rat.divInt_zero] at this; exact this.symm
    clear h0
    go_wp2_with fail
    refine (zero_any w1).mono ?_
    rintro e w2 ⟨t', q', m', ys', rfl, hN, hm', hb2⟩
    obtain ⟨r0, r1, r2, r3, f0, f1, f2, f3⟩ := hR1.later hb2
    clear a0 a1 b0 b1
    go_wp2
    refine bodyPost_ret (v := .tuple #[.agg #[.bool false, .slice none 0 0, .bool t', .slice q' m' m'], .int .i64 2]) (by simp [results, Tryz.results26, go_sem, r0, r1, r2, r3]) rfl (end_nc (xs := []) (ys := ys') hW1 (by omega) sR ⟨?_, ?_⟩ hb2)
    · rw [HQ0.out]; exact NI.nil _ _
    · rw [HQ0.out]; exact hN
  · have hi : isgn (ival t ys) = 1 ∨ isgn (ival t ys) = -1 := by
      rcases (show 0 < ival t ys ∨ ival t ys < 0 by omega) with h | h
      · exact .inl (isgn_pos h)
      · exact .inr (isgn_neg h)
    obtain rfl : c = 0 := by have := HC.out; rw [if_neg h0] at this; exact this.symm
    clear HC
    have H0 : Hid (ival t ys ≠ 0) := h0
    clear h0
    rcases hi with hi | hi
    all_goals
      rw [hi]
      clear hi
      go_wp2_with fail
      have h3 := lowest_any s t p q n nc m mc xs ys w1 (hA.below hW1) (hB.below hW1) H0.out hn hm
      rw [HQ.out] at h3
      refine h3.mono ?_
      rintro e w2 ⟨s3, p3, n3, x3, t3, q3, m3, y3, rfl, hN3, hb2⟩
      obtain ⟨r0, r1, r2, r3, f0, f1, f2, f3⟩ := hR1.later hb2
      clear a0 a1 b0 b1
      go_wp2
      exact bodyPost_ret (v := .tuple #[.agg #[.bool s3, .slice p3 n3 n3, .bool t3, .slice q3 m3 m3], .int .i64 0]) (by simp [results, Tryz.results26, go_sem, r0, r1, r2, r3]) rfl (end_nc hW1 (by omega) sR hN3 hb2)
theorem Over_of (s t : Bool) (p q : Option Addr) (n nc m mc : Nat) (xs ys : List Int) (w : World) (hA : AI w p n nc xs) (hB : AI w q m mc ys) (hn : n < 150) (hm : m < 150) (c : Int) (hc : (if ival t ys = 0 then (2 : Int) else 0) = c) :
    Calls Tryz.prog 26 #[.agg #[.bool s, .slice p n nc], .agg #[.bool t, .slice q m mc]] w (NcPost (Rat.divInt (ival s xs) (ival t ys)) c w) := hc ▸ Over_any s t p q n nc m mc xs ys w hA hB hn hm
theorem quo_code {a b c d : Int} {e : Int} (hb : 0 < b) (hd : 0 < d) (h : (if Rat.divInt c d = 0 then (2 : Int) else 0) = e) : (if b * c = 0 then (2 : Int) else 0) = e := by
  rw [← h]
  have h1 : (b * c = 0) ↔ (Rat.divInt c d = 0) := by
    have h0 : (0 : Rat) = Rat.divInt 0 1 := rfl
    rw [h0, Rat.divInt_eq_divInt_iff (by omega) (by decide), Int.mul_eq_zero]
    omega
  simp only [h1]
set_option maxRecDepth 100000 in
set_option maxHeartbeats 4000000 in
/-- rat.Quo. -/
theorem qQuo_any (sa ta sb tb : Bool) (pa qa pb qb : Option Addr) (na nac ma mac nb nbc mb mbc : Nat) (xa ya xb yb : List Int) (w : World) (hA : AI w pa na nac xa) (hA' : AI w qa ma mac ya) (hB : AI w pb nb nbc xb) (hB' : AI w qb mb mbc yb) (Ka Kb : Nat) (hKa : 1 ≤ Ka) (hKb : 1 ≤ Kb) (hK : Ka + Kb + 1 ≤ 150) (la : na ≤ Ka) (la' : ma ≤ Ka) (lb : nb ≤ Kb) (lb' : mb ≤ Kb) :
    Calls Tryz.prog 21 #[.agg #[.bool sa, .slice pa na nac, .bool ta, .slice qa ma mac], .agg #[.bool sb, .slice pb nb nbc, .bool tb, .slice qb mb mbc]] w (NcPost (Rat.divInt (ival sa xa) (ival ta ya) / Rat.divInt (ival sb xb) (ival tb yb)) (if Rat.divInt (ival sb xb) (ival tb yb) = 0 then 2 else 0) w) := by
  generalize hQa : Rat.divInt (ival sa xa) (ival ta ya) = Qa
  generalize hQb : Rat.divInt (ival sb xb) (ival tb yb) = Qb
  have HQa : Hid (Rat.divInt (ival sa xa) (ival ta ya) = Qa) := hQa
  have HQb : Hid (Rat.divInt (ival sb xb) (ival tb yb) = Qb) := hQb
  clear hQa hQb
  generalize hc : (if Qb = 0 then (2 : Int) else 0) = c
  have HC : Hid ((if Qb = 0 then (2 : Int) else 0) = c) := hc
  clear hc
  go_enter Tryz.func21, Tryz.ntmps21
  go_wp2_with fail
  have hA0 : Bq (((w.alloc (.cells #[.bool sa, .slice pa na nac, .bool ta, .slice qa ma mac] 26)).alloc (.cells #[.bool sb, .slice pb nb nbc, .bool tb, .slice qb mb mbc] 26)).alloc (.cells #[.bool false, .slice none 0 0, .bool false, .slice none 0 0] 26)) w.heap.size (.bool sa) (.slice pa na nac) (.bool ta) (.slice qa ma mac) := ((Bq.new _ _ _ _ _ rfl).alloc _).alloc _
  have hB0 : Bq (((w.alloc (.cells #[.bool sa, .slice pa na nac, .bool ta, .slice qa ma mac] 26)).alloc (.cells #[.bool sb, .slice pb nb nbc, .bool tb, .slice qb mb mbc] 26)).alloc (.cells #[.bool false, .slice none 0 0, .bool false, .slice none 0 0] 26)) (w.heap.size + 1) (.bool sb) (.slice pb nb nbc) (.bool tb) (.slice qb mb mbc) := (Bq.new _ _ _ _ _ (by simp)).alloc _
  have hR0 : Bq (((w.alloc (.cells #[.bool sa, .slice pa na nac, .bool ta, .slice qa ma mac] 26)).alloc (.cells #[.bool sb, .slice pb nb nbc, .bool tb, .slice qb mb mbc] 26)).alloc (.cells #[.bool false, .slice none 0 0, .bool false, .slice none 0 0] 26)) (w.heap.size + 1 + 1) (.bool false) (.slice none 0 0) (.bool false) (.slice none 0 0) := Bq.new _ _ _ _ _ (by simp)
  have hW : Below w.heap.size w (((w.alloc (.cells #[.bool sa, .slice pa na nac, .bool ta, .slice qa ma mac] 26)).alloc (.cells #[.bool sb, .slice pb nb nbc, .bool tb, .slice qb mb mbc] 26)).alloc (.cells #[.bool false, .slice none 0 0, .bool false, .slice none 0 0] 26)) := (((Below.refl _ _).alloc (Nat.le_refl _) _).alloc (by simp) _).alloc (by simp; omega) _
  generalize ((w.alloc (.cells #[.bool sa, .slice pa na nac, .bool ta, .slice qa ma mac] 26)).alloc (.cells #[.bool sb, .slice pb nb nbc, .bool tb, .slice qb mb mbc] 26)).alloc (.cells #[.bool false, .slice none 0 0, .bool false, .slice none 0 0] 26) = W at *
  go_cut [] (fun wc => ∃ sa' ta' sb' tb' pa' qa' pb' qb' na' nac' ma' mac' nb' nbc' mb' mbc' xa' ya' xb' yb', U2 w wc Ka Kb Qa Qb sa' ta' sb' tb' pa' qa' pb' qb' na' nac' ma' mac' nb' nbc' mb' mbc' xa' ya' xb' yb' ∧ Bq wc (w.heap.size + 1 + 1) (.bool false) (.slice none 0 0) (.bool false) (.slice none 0 0))
  case first =>
    have a0 := hA0.c0
    have a1 := hA0.c1
    have a2 := hA0.c2
    have a3 := hA0.c3
    have b0 := hB0.c0
    have b1 := hB0.c1
    have b2 := hB0.c2
    have b3 := hB0.c3
    go_region_with (first
      | (go_at_call_of 45 (Value.agg #[.bool sa, .slice pa na nac, .bool ta, .slice qa ma mac]); refine (upright_any sa ta pa qa na nac ma mac xa ya _ (hA.below hW).drew (hA'.below hW).drew Ka hKa la la').mono ?_; rintro e w1 ⟨sa', pa', na', nac', xa', ta', qa', ma', mac', ya', rfl, hX1, hX2, hp1, hv1, l1, l2, hof1, hb1⟩; have hA1 := hA0.later (undrew hb1); have hB1 := hB0.later (undrew hb1); have b10 := hB1.c0; have b11 := hB1.c1; have b12 := hB1.c2; have b13 := hB1.c3)
      | (go_at_call_of 45 (Value.agg #[.bool sb, .slice pb nb nbc, .bool tb, .slice qb mb mbc]); refine (upright_any sb tb pb qb nb nbc mb mbc xb yb _ ((hB.below hW).drew.below hb1) ((hB'.below hW).drew.below hb1) Kb hKb lb lb').mono ?_; rintro e w2 ⟨sb', pb', nb', nbc', xb', tb', qb', mb', mbc', yb', rfl, hY1, hY2, hp2, hv2, l3, l4, hof2, hb2⟩; have hA2 := hA1.later hb2; have hB2 := hB1.later hb2; obtain ⟨a20, a21, a22, a23, af0, af1, af2, af3⟩ := hA2; obtain ⟨b20, b21, b22, b23, bf0, bf1, bf2, bf3⟩ := hB2))
    all_goals (go_wp2_with fail; go_meet)
    all_goals
      have sA := hA0.lt
      have sB := hB0.lt
      have s1 : W.heap.size ≤ w1.heap.size := hb1.size
      have s2 := hb2.size
      have oa := hof1 w.heap.size sA (hA.off (Nat.le_refl _)) (hA'.off (Nat.le_refl _))
      have oa' := hof1 (w.heap.size + 1) sB (hA.off (Nat.le_succ _)) (hA'.off (Nat.le_succ _))
      have ob := hof2 w.heap.size (by omega) (hB.off (Nat.le_refl _)) (hB'.off (Nat.le_refl _))
      have ob' := hof2 (w.heap.size + 1) (by omega) (hB.off (Nat.le_succ _)) (hB'.off (Nat.le_succ _))
      refine ⟨sa', ta', sb', tb', pa', qa', pb', qb', na', nac', ma', mac', nb', nbc', mb', mbc', xa', ya', xb', yb', ⟨⟨?_, ?_, ?_, ?_, ?_, ?_, hp1, hp2, hv1.trans HQa.out, hv2.trans HQb.out, l1, l2, l3, l4, ?_⟩, ?_⟩⟩
      · exact Bq_oth (Bq_set ((hA0.later (undrew hb1)).later hb2)) (by omega)
      · exact Bq_set (Bq_oth ((hB0.later (undrew hb1)).later hb2) (by omega))
      · exact ((hX1.below hb2).set4 oa.1 _ _ _ _).set4 oa'.1 _ _ _ _
      · exact ((hX2.below hb2).set4 oa.2 _ _ _ _).set4 oa'.2 _ _ _ _
      · exact (hY1.set4 ob.1 _ _ _ _).set4 ob'.1 _ _ _ _
      · exact (hY2.set4 ob.2 _ _ _ _).set4 ob'.2 _ _ _ _
      · exact bset4 (bset4 (bnext' (bnext' hW (undrew hb1)) hb2) (by omega) _ _ _ _) (by omega) _ _ _ _
      · exact Bq_oth (Bq_oth ((hR0.later (undrew hb1)).later hb2) (by omega)) (by omega)
  case rest =>
    obtain ⟨sa', ta', sb', tb', pa', qa', pb', qb', na', nac', ma', mac', nb', nbc', mb', mbc', xa', ya', xb', yb', hU, hR⟩ := hcut
    clear hA0 hB0 hR0 hW la la' lb lb' hA hA' hB hB'
    have la := hU.la
    have la' := hU.la'
    have lb := hU.lb
    have lb' := hU.lb'
    have HVa : Hid (Rat.divInt (ival sa' xa') (ival ta' ya') = Qa ∧ 0 < ival ta' ya') := ⟨hU.va, hU.ap⟩
    have HVb : Hid (Rat.divInt (ival sb' xb') (ival tb' yb') = Qb ∧ 0 < ival tb' yb') := ⟨hU.vb, hU.bp⟩
    have a0 := hU.a.c0
    have a1 := hU.a.c1
    have a2 := hU.a.c2
    have a3 := hU.a.c3
    have b0 := hU.b.c0
    have b1 := hU.b.c1
    have b2 := hU.b.c2
    have b3 := hU.b.c3
    go_wp2_with fail
    go_region_held3 (fun w' => w'.cell? ⟨w.heap.size, 0, none⟩ = some (.bool sa') ∧ w'.cell? ⟨w.heap.size, 1, none⟩ = some (.slice pa' na' nac') ∧ w'.cell? ⟨w.heap.size, 2, none⟩ = some (.bool ta') ∧ w'.cell? ⟨w.heap.size, 3, none⟩ = some (.slice qa' ma' mac') ∧ w'.cell? ⟨w.heap.size + 1, 0, none⟩ = some (.bool sb') ∧ w'.cell? ⟨w.heap.size + 1, 1, none⟩ = some (.slice pb' nb' nbc') ∧ w'.cell? ⟨w.heap.size + 1, 2, none⟩ = some (.bool tb') ∧ w'.cell? ⟨w.heap.size + 1, 3, none⟩ = some (.slice qb' mb' mbc')) (first | with_reducible exact ⟨a0, a1, a2, a3, b0, b1, b2, b3⟩ | with_reducible exact keepq ⟨a0, a1, a2, a3, b0, b1, b2, b3⟩ (hV1) | with_reducible exact keepq ⟨a0, a1, a2, a3, b0, b1, b2, b3⟩ (hV2) | with_reducible exact keepq ⟨a0, a1, a2, a3, b0, b1, b2, b3⟩ (hV3) | (simp [go_sem, *]; done))
      (first
        | (go_at_call_of 47 (Value.agg #[.bool sa', .slice pa' na' nac']); go_at_call_of 47 (Value.agg #[.bool tb', .slice qb' mb' mbc']); refine (Mul_small sa' tb' pa' qb' na' nac' mb' mbc' xa' yb' _ hU.an.drew hU.bd.drew (by omega)).mono ?_; rintro e v1 ⟨s1, p1, n1, z1, rfl, hN1, hn1, hv1⟩; have hV1 := undrew hv1)
        | (go_at_call_of 47 (Value.agg #[.bool ta', .slice qa' ma' mac']); go_at_call_of 47 (Value.agg #[.bool sb', .slice pb' nb' nbc']); refine (Mul_small ta' sb' qa' pb' ma' mac' nb' nbc' ya' xb' _ (hU.ad.below hV1) (hU.bn.below hV1) (by omega)).mono ?_; rintro e v2 ⟨s2, p2, n2, z2, rfl, hN2, hn2, hv2⟩; have hV2 := bnext' hV1 hv2; have HC2 : Hid ((if ival s2 z2 = 0 then (2 : Int) else 0) = c) := by rw [hN2.v]; exact quo_code (a := 0) HVa.out.2 HVb.out.2 (by rw [HVb.out.1]; exact HC.out))
        | (go_at_call 26; refine (Over_of s1 s2 p1 p2 n1 n1 n2 n2 z1 z2 _ ((hN1.below hv2).ai (by omega)) (hN2.ai (by omega)) (by omega) (by omega) c HC2.out).mono ?_; rintro e v3 ⟨s3, p3, n3, x3, t3, q3, m3, y3, rfl, hN3, hv3⟩; have hV3 := bnext' hV2 hv3; have hR3 := (hR.later hV2).later hv3; obtain ⟨r0, r1, r2, r3, f0, f1, f2, f3⟩ := hR3))
    have HE : Rat.divInt (ival s1 z1) (ival s2 z2) = Qa / Qb := by
      rw [hN1.v, hN2.v, ← HVa.out.1, ← HVb.out.1, Rat.div_def, Rat.inv_divInt, Rat.divInt_mul_divInt]
    clear a0 a1 a2 a3 b0 b1 b2 b3
    go_wp2
    exact bodyPost_ret (v := .tuple #[.agg #[.bool s3, .slice p3 n3 n3, .bool t3, .slice q3 m3 m3], .int .i64 c]) (by simp [results, Tryz.results21, go_sem, r0, r1, r2, r3]) rfl (end_nc (hU.bel.trans (hV2.mono hU.bel.size)) (by omega) (by have := hR.lt; have := hV2.size; omega) (hN3.of HE) hv3)
end Go.Proofs.YtongkalfdgleaaaGreatDoor
/-
  What the walks of the laws share: reference numbers carried on.
-/
namespace Go.Proofs.YtongkalfdgleaaaGreatDoor
open Go.RowKit
set_option linter.unusedVariables false
set_option linter.unusedSimpArgs false

theorem RN.set {w : World} {s : Bool} {p : Option Addr} {n : Nat} {ds : List Int} (h : RN w s p n ds) {a : Addr} (hne : 0 < n → Off a.block p) (v : Value) : RN (w.setCell a v) s p n ds :=
  ⟨h.len, fun hx => (h.rd.set_other a v (hne (by rw [← h.len]; exact hx))) hx, h.u, h.nrm, h.sg, h.sml⟩
theorem RN.alloc {w : World} {s : Bool} {p : Option Addr} {n : Nat} {ds : List Int} (h : RN w s p n ds) (o : Obj) : RN (w.alloc o) s p n ds := ⟨h.len, h.rd.alloc o, h.u, h.nrm, h.sg, h.sml⟩
theorem RN.drew {w : World} {s : Bool} {p : Option Addr} {n : Nat} {ds : List Int} (h : RN w s p n ds) : RN w.drew s p n ds := ⟨h.len, h.rd.drew, h.u, h.nrm, h.sg, h.sml⟩
theorem RN_al {w : World} {s : Bool} {p : Option Addr} {n : Nat} {ds : List Int} {o : Obj} (h : RN w s p n ds) : RN (w.alloc o) s p n ds := h.alloc o
theorem RN_st3 {F : Nat} {w : World} {s : Bool} {p : Option Addr} {n : Nat} {ds : List Int} {a : Addr} {v : Value} (hF : Go.Proofs.YtongkalfdgleaaaGreatDoor.From F p) (ha : a.block < F) (h : RN w s p n ds) : RN (w.setCell a v) s p n ds :=
  h.set (fun _ x hx e => by have := hF x hx; omega) v
theorem RN_st2 {U : Nat} {w : World} {s : Bool} {p : Option Addr} {n : Nat} {ds : List Int} {a : Addr} {v : Value} (hU : 0 < n → ∀ x, p = some x → x.block < U) (ha : U ≤ a.block) (h : RN w s p n ds) : RN (w.setCell a v) s p n ds :=
  h.set (fun hn x hx e => by have := hU hn x hx; omega) v
theorem RN.lt {w : World} {s : Bool} {p : Option Addr} {n : Nat} {ds : List Int} (h : RN w s p n ds) : 0 < n → ∀ x, p = some x → x.block < w.heap.size := fun hn x hx => by
  obtain ⟨b, off, hp, hlt⟩ := h.rd.lt (by rw [h.len]; exact hn)
  rw [hp] at hx
  cases hx
  exact hlt
/-- A reference number with its value. -/
theorem From_ansF (s : Bool) (p : Option Addr) (n nc : Nat) (xs : List Int) (w : World) (hA : AI w p n nc xs) :
    Calls Tryz.prog 29 #[.agg #[.bool s, .slice p n nc]] w fun e w' => ∃ s' p' n' ds', e = .returned (.agg #[.bool s', .slice p' n' n']) ∧ RN w' s' p' n' ds' ∧ rval s' ds' = ival s xs ∧ n' ≤ 2 * n ∧ Go.Proofs.YtongkalfdgleaaaGreatDoor.From w.heap.size p' ∧ Below w.heap.size w w' := by
  refine (From_any s p n nc xs w hA).mono ?_
  rintro e w' ⟨s', q, nq, rfl, hR, rfl, hF, hb⟩
  refine ⟨_, q, nq, _, rfl, hR, by rw [rval_nsg s (u16_spl hA.u), rval_spl], ?_, hF, hb⟩
  have h1 := hR.nrm
  rw [tlen_tr] at h1
  have h2 := tlen_le (spl xs)
  rw [length_spl] at h2
  have := hA.len
  omega
theorem From_ans (s : Bool) (p : Option Addr) (n nc : Nat) (xs : List Int) (w : World) (hA : AI w p n nc xs) :
    Calls Tryz.prog 29 #[.agg #[.bool s, .slice p n nc]] w fun e w' => ∃ s' p' n' ds', e = .returned (.agg #[.bool s', .slice p' n' n']) ∧ RN w' s' p' n' ds' ∧ rval s' ds' = ival s xs ∧ n' ≤ 2 * n ∧ Below w.heap.size w w' := by
  refine (From_ansF s p n nc xs w hA).mono ?_
  rintro e w' ⟨s', p', n', ds', h1, h2, h3, h4, h5, h6⟩
  exact ⟨s', p', n', ds', h1, h2, h3, h4, h6⟩
end Go.Proofs.YtongkalfdgleaaaGreatDoor
/-
  Two numbers behind Cut, as the laws hold them.
-/
namespace Go.Proofs.YtongkalfdgleaaaGreatDoor
open Go.RowKit
set_option linter.unusedVariables false
set_option linter.unusedSimpArgs false

/-- Two numbers in variables of their own, behind Cut. -/
structure C2 (w wc : World) (sa sb : Bool) (pa pb : Option Addr) (na nac nb nbc : Nat) (xa xb : List Int) : Prop where
  a : Vr wc w.heap.size sa pa na nac (w.heap.size + 1 + 1) xa
  b : Vr wc (w.heap.size + 1) sb pb nb nbc (w.heap.size + 1 + 1) xb
  la : na ≤ 24
  lb : nb ≤ 24
  bel : Below w.heap.size w wc
theorem C2.later {w wc w' : World} {sa sb : Bool} {pa pb : Option Addr} {na nac nb nbc : Nat} {xa xb : List Int} (h : C2 w wc sa sb pa pb na nac nb nbc xa xb) (hb : Below wc.heap.size wc w') : C2 w w' sa sb pa pb na nac nb nbc xa xb :=
  ⟨h.a.later hb, h.b.later hb, h.la, h.lb, bnext h.bel (Nat.le_refl _) hb⟩


theorem keepc8 {w1 w2 : World} {a b c d e f g h : Addr} {u v x y z t r s : Value} (k : w1.cell? a = some u ∧ w1.cell? b = some v ∧ w1.cell? c = some x ∧ w1.cell? d = some y ∧ w1.cell? e = some z ∧ w1.cell? f = some t ∧ w1.cell? g = some r ∧ w1.cell? h = some s) (hb : Below w1.heap.size w1 w2) :
    w2.cell? a = some u ∧ w2.cell? b = some v ∧ w2.cell? c = some x ∧ w2.cell? d = some y ∧ w2.cell? e = some z ∧ w2.cell? f = some t ∧ w2.cell? g = some r ∧ w2.cell? h = some s :=
  ⟨cell_later hb k.1, cell_later hb k.2.1, cell_later hb k.2.2.1, cell_later hb k.2.2.2.1, cell_later hb k.2.2.2.2.1, cell_later hb k.2.2.2.2.2.1, cell_later hb k.2.2.2.2.2.2.1, cell_later hb k.2.2.2.2.2.2.2⟩
theorem unfr {W : World} {p : Option Addr} (h : Go.Proofs.YtongkalfdgleaaaGreatDoor.From W.drew.heap.size p) : Go.Proofs.YtongkalfdgleaaaGreatDoor.From W.heap.size p := h
theorem s4set {w : World} {b c g : Nat} {u v x y r s : Value} (h : w.cell? ⟨b, 0, none⟩ = some u ∧ w.cell? ⟨b, 1, none⟩ = some v ∧ w.cell? ⟨c, 0, none⟩ = some x ∧ w.cell? ⟨c, 1, none⟩ = some y) (h1 : b ≠ g) (h2 : c ≠ g) :
    ((w.setCell ⟨g, 0, none⟩ r).setCell ⟨g, 1, none⟩ s).cell? ⟨b, 0, none⟩ = some u ∧ ((w.setCell ⟨g, 0, none⟩ r).setCell ⟨g, 1, none⟩ s).cell? ⟨b, 1, none⟩ = some v ∧ ((w.setCell ⟨g, 0, none⟩ r).setCell ⟨g, 1, none⟩ s).cell? ⟨c, 0, none⟩ = some x ∧ ((w.setCell ⟨g, 0, none⟩ r).setCell ⟨g, 1, none⟩ s).cell? ⟨c, 1, none⟩ = some y := by
  obtain ⟨a1, a2, a3, a4⟩ := h
  refine ⟨?_, ?_, ?_, ?_⟩
  · rw [World.cell?_of_block (heap_setCell_other _ _ _ _ h1), World.cell?_of_block (heap_setCell_other _ _ _ _ h1)]; exact a1
  · rw [World.cell?_of_block (heap_setCell_other _ _ _ _ h1), World.cell?_of_block (heap_setCell_other _ _ _ _ h1)]; exact a2
  · rw [World.cell?_of_block (heap_setCell_other _ _ _ _ h2), World.cell?_of_block (heap_setCell_other _ _ _ _ h2)]; exact a3
  · rw [World.cell?_of_block (heap_setCell_other _ _ _ _ h2), World.cell?_of_block (heap_setCell_other _ _ _ _ h2)]; exact a4
/-- A reference number in a variable of its own, with its value. -/
structure Vx (w : World) (g : Nat) (s : Bool) (p : Option Addr) (n : Nat) (ds : List Int) (z : Int) : Prop where
  b : Bx w g (.bool s) (.slice p n n)
  r : RN w s p n ds
  v : rval s ds = z
  l : n ≤ 48
theorem Vx.later {w w' : World} {g : Nat} {s : Bool} {p : Option Addr} {n : Nat} {ds : List Int} {z : Int} (h : Vx w g s p n ds z) (hb : Below w.heap.size w w') : Vx w' g s p n ds z := ⟨h.b.later hb, h.r.below hb, h.v, h.l⟩
end Go.Proofs.YtongkalfdgleaaaGreatDoor
