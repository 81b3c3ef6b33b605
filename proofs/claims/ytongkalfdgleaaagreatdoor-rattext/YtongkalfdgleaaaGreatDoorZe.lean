/-
  rat.Mul, Cmp, and what the functions of two rationals share.
-/
import Derived.Test.YtongkalfdgleaaaGreatDoorZcZdZj
import Derived.Test.YtongkalfdgleaaaGreatDoorWiWjWo
import Derived.Test.YtongkalfdgleaaaGreatDoorXaWg
import Derived.Test.YtongkalfdgleaaaGreatDoorCuRaWh
namespace Go.Proofs.YtongkalfdgleaaaGreatDoor
open Go.RowKit
set_option linter.unusedVariables false
set_option linter.unusedSimpArgs false

/-- Two rationals in variables, both with a Den above 0. -/
structure U2 (w wc : World) (Ka Kb : Nat) (Qa Qb : Rat) (sa ta sb tb : Bool) (pa qa pb qb : Option Addr) (na nac ma mac nb nbc mb mbc : Nat) (xa ya xb yb : List Int) : Prop where
  a : Bq wc w.heap.size (.bool sa) (.slice pa na nac) (.bool ta) (.slice qa ma mac)
  b : Bq wc (w.heap.size + 1) (.bool sb) (.slice pb nb nbc) (.bool tb) (.slice qb mb mbc)
  an : AI wc pa na nac xa
  ad : AI wc qa ma mac ya
  bn : AI wc pb nb nbc xb
  bd : AI wc qb mb mbc yb
  ap : 0 < ival ta ya
  bp : 0 < ival tb yb
  va : Rat.divInt (ival sa xa) (ival ta ya) = Qa
  vb : Rat.divInt (ival sb xb) (ival tb yb) = Qb
  la : na ≤ Ka
  la' : ma ≤ Ka
  lb : nb ≤ Kb
  lb' : mb ≤ Kb
  bel : Below w.heap.size w wc
theorem U2.later {w wc w' : World} {Ka Kb : Nat} {Qa Qb : Rat} {sa ta sb tb : Bool} {pa qa pb qb : Option Addr} {na nac ma mac nb nbc mb mbc : Nat} {xa ya xb yb : List Int} (h : U2 w wc Ka Kb Qa Qb sa ta sb tb pa qa pb qb na nac ma mac nb nbc mb mbc xa ya xb yb) (hb : Below wc.heap.size wc w') : U2 w w' Ka Kb Qa Qb sa ta sb tb pa qa pb qb na nac ma mac nb nbc mb mbc xa ya xb yb :=
  ⟨h.a.later hb, h.b.later hb, h.an.below hb, h.ad.below hb, h.bn.below hb, h.bd.below hb, h.ap, h.bp, h.va, h.vb, h.la, h.la', h.lb, h.lb', bnext' h.bel hb⟩
theorem keepq {w1 w2 : World} {a b c d e f g h : Addr} {u v x y z t r s : Value} (k : w1.cell? a = some u ∧ w1.cell? b = some v ∧ w1.cell? c = some x ∧ w1.cell? d = some y ∧ w1.cell? e = some z ∧ w1.cell? f = some t ∧ w1.cell? g = some r ∧ w1.cell? h = some s) (hb : Below w1.heap.size w1 w2) :
    w2.cell? a = some u ∧ w2.cell? b = some v ∧ w2.cell? c = some x ∧ w2.cell? d = some y ∧ w2.cell? e = some z ∧ w2.cell? f = some t ∧ w2.cell? g = some r ∧ w2.cell? h = some s :=
  ⟨cell_later hb k.1, cell_later hb k.2.1, cell_later hb k.2.2.1, cell_later hb k.2.2.2.1, cell_later hb k.2.2.2.2.1, cell_later hb k.2.2.2.2.2.1, cell_later hb k.2.2.2.2.2.2.1, cell_later hb k.2.2.2.2.2.2.2⟩
theorem prod_bd {a b : Int} {i j : Nat} (h : (a.natAbs : Int) < pw i) (k : (b.natAbs : Int) < pw j) : ((a * b).natAbs : Int) < pw (i + j) := by
  rw [Int.natAbs_mul, pw_add]
  push_cast
  have h1 := pw_pos i
  have h2 := pw_pos j
  have h3 : (a.natAbs : Int) * (b.natAbs : Int) ≤ (a.natAbs : Int) * pw j := Int.mul_le_mul_of_nonneg_left (by omega) (by omega)
  have h4 : (a.natAbs : Int) * pw j < pw i * pw j := Int.mul_lt_mul_of_pos_right h h2
  omega
theorem icmp_mul {x y k : Int} (hk : 0 < k) : icmp (x * k) (y * k) = icmp x y := by
  unfold icmp
  simp only [Int.mul_lt_mul_right hk]
theorem icmp_cross {a b c d : Int} (hb : 0 < b) (hd : 0 < d) : icmp (a * d) (c * b) = icmp ((Rat.divInt a b).num * (Rat.divInt c d).den) ((Rat.divInt c d).num * (Rat.divInt a b).den) := by
  obtain ⟨g, hg, g0, h1, h2⟩ := rat_low a b (by omega)
  obtain ⟨h, hh, h0, h3, h4⟩ := rat_low c d (by omega)
  rw [if_neg (by omega)] at hg hh
  have hk : 0 < g * h := Int.mul_pos (by omega) (by omega)
  rw [← icmp_mul hk (x := (Rat.divInt a b).num * (Rat.divInt c d).den)]
  congr 1
  · conv => lhs; rw [h1, h4]
    simp only [Int.mul_assoc, Int.mul_comm, Int.mul_left_comm]
  · conv => lhs; rw [h3, h2]
    simp only [Int.mul_assoc, Int.mul_comm, Int.mul_left_comm]
theorem NR.of {B : Nat} {w : World} {r r' : Rat} {s : Bool} {p : Option Addr} {n : Nat} {xs : List Int} {t : Bool} {q : Option Addr} {m : Nat} {ys : List Int} (h : NR B w s p n xs t q m ys r) (e : r = r') : NR B w s p n xs t q m ys r' := e ▸ h
set_option maxRecDepth 100000 in
set_option maxHeartbeats 4000000 in
/-- rat.Mul. -/
theorem qMul_any (sa ta sb tb : Bool) (pa qa pb qb : Option Addr) (na nac ma mac nb nbc mb mbc : Nat) (xa ya xb yb : List Int) (w : World) (hA : AI w pa na nac xa) (hA' : AI w qa ma mac ya) (hB : AI w pb nb nbc xb) (hB' : AI w qb mb mbc yb) (Ka Kb : Nat) (hKa : 1 ≤ Ka) (hKb : 1 ≤ Kb) (hK : Ka + Kb + 1 ≤ 150) (la : na ≤ Ka) (la' : ma ≤ Ka) (lb : nb ≤ Kb) (lb' : mb ≤ Kb) :
    Calls Tryz.prog 14 #[.agg #[.bool sa, .slice pa na nac, .bool ta, .slice qa ma mac], .agg #[.bool sb, .slice pb nb nbc, .bool tb, .slice qb mb mbc]] w (NrPost (Rat.divInt (ival sa xa) (ival ta ya) * Rat.divInt (ival sb xb) (ival tb yb)) w) := by
  generalize hQa : Rat.divInt (ival sa xa) (ival ta ya) = Qa
  generalize hQb : Rat.divInt (ival sb xb) (ival tb yb) = Qb
  have HQa : Hid (Rat.divInt (ival sa xa) (ival ta ya) = Qa) := hQa
  have HQb : Hid (Rat.divInt (ival sb xb) (ival tb yb) = Qb) := hQb
  clear hQa hQb
  go_enter Tryz.func14, Tryz.ntmps14
  go_wp2_with fail
  have hA0 : Bq (((w.alloc (.cells #[.bool sa, .slice pa na nac, .bool ta, .slice qa ma mac] 26)).alloc (.cells #[.bool sb, .slice pb nb nbc, .bool tb, .slice qb mb mbc] 26)).alloc (.cells #[.bool false, .slice none 0 0, .bool false, .slice none 0 0] 26)) w.heap.size (.bool sa) (.slice pa na nac) (.bool ta) (.slice qa ma mac) := ((Bq.new _ _ _ _ _ rfl).alloc _).alloc _
  have hB0 : Bq (((w.alloc (.cells #[.bool sa, .slice pa na nac, .bool ta, .slice qa ma mac] 26)).alloc (.cells #[.bool sb, .slice pb nb nbc, .bool tb, .slice qb mb mbc] 26)).alloc (.cells #[.bool false, .slice none 0 0, .bool false, .slice none 0 0] 26)) (w.heap.size + 1) (.bool sb) (.slice pb nb nbc) (.bool tb) (.slice qb mb mbc) := (Bq.new _ _ _ _ _ (by simp)).alloc _
  have hR0 : Bq (((w.alloc (.cells #[.bool sa, .slice pa na nac, .bool ta, .slice qa ma mac] 26)).alloc (.cells #[.bool sb, .slice pb nb nbc, .bool tb, .slice qb mb mbc] 26)).alloc (.cells #[.bool false, .slice none 0 0, .bool false, .slice none 0 0] 26)) (w.heap.size + 1 + 1) (.bool false) (.slice none 0 0) (.bool false) (.slice none 0 0) := Bq.new _ _ _ _ _ (by simp)
  have hW : Below w.heap.size w (((w.alloc (.cells #[.bool sa, .slice pa na nac, .bool ta, .slice qa ma mac] 26)).alloc (.cells #[.bool sb, .slice pb nb nbc, .bool tb, .slice qb mb mbc] 26)).alloc (.cells #[.bool false, .slice none 0 0, .bool false, .slice none 0 0] 26)) := (((Below.refl _ _).alloc (Nat.le_refl _) _).alloc (by simp) _).alloc (by simp; omega) _
  generalize ((w.alloc (.cells #[.bool sa, .slice pa na nac, .bool ta, .slice qa ma mac] 26)).alloc (.cells #[.bool sb, .slice pb nb nbc, .bool tb, .slice qb mb mbc] 26)).alloc (.cells #[.bool false, .slice none 0 0, .bool false, .slice none 0 0] 26) = W at *
  go_cut [] (fun wc => ∃ sa' ta' sb' tb' pa' qa' pb' qb' na' nac' ma' mac' nb' nbc' mb' mbc' xa' ya' xb' yb', U2 w wc Ka Kb Qa Qb sa' ta' sb' tb' pa' qa' pb' qb' na' nac' ma' mac' nb' nbc' mb' mbc' xa' ya' xb' yb' ∧ Bq wc (w.heap.size + 1 + 1) (.bool false) (.slice none 0 0) (.bool false) (.slice none 0 0))
  case first =>
    have a0 := hA0.c0
    have a1 := hA0.c1
    have a2 := hA0.c2
    have a3 := hA0.c3
    have b0 := hB0.c0
    have b1 := hB0.c1
    have b2 := hB0.c2
    have b3 := hB0.c3
    go_region_with (first
      | (go_at_call_of 45 (Value.agg #[.bool sa, .slice pa na nac, .bool ta, .slice qa ma mac]); refine (upright_any sa ta pa qa na nac ma mac xa ya _ (hA.below hW).drew (hA'.below hW).drew Ka hKa la la').mono ?_; rintro e w1 ⟨sa', pa', na', nac', xa', ta', qa', ma', mac', ya', rfl, hX1, hX2, hp1, hv1, l1, l2, hof1, hb1⟩; have hA1 := hA0.later (undrew hb1); have hB1 := hB0.later (undrew hb1); have b10 := hB1.c0; have b11 := hB1.c1; have b12 := hB1.c2; have b13 := hB1.c3)
      | (go_at_call_of 45 (Value.agg #[.bool sb, .slice pb nb nbc, .bool tb, .slice qb mb mbc]); refine (upright_any sb tb pb qb nb nbc mb mbc xb yb _ ((hB.below hW).drew.below hb1) ((hB'.below hW).drew.below hb1) Kb hKb lb lb').mono ?_; rintro e w2 ⟨sb', pb', nb', nbc', xb', tb', qb', mb', mbc', yb', rfl, hY1, hY2, hp2, hv2, l3, l4, hof2, hb2⟩; have hA2 := hA1.later hb2; have hB2 := hB1.later hb2; obtain ⟨a20, a21, a22, a23, af0, af1, af2, af3⟩ := hA2; obtain ⟨b20, b21, b22, b23, bf0, bf1, bf2, bf3⟩ := hB2))
    all_goals (go_wp2_with fail; go_meet)
    all_goals
      have sA := hA0.lt
      have sB := hB0.lt
      have s1 : W.heap.size ≤ w1.heap.size := hb1.size
      have s2 := hb2.size
      have oa := hof1 w.heap.size sA (hA.off (Nat.le_refl _)) (hA'.off (Nat.le_refl _))
      have oa' := hof1 (w.heap.size + 1) sB (hA.off (Nat.le_succ _)) (hA'.off (Nat.le_succ _))
      have ob := hof2 w.heap.size (by omega) (hB.off (Nat.le_refl _)) (hB'.off (Nat.le_refl _))
      have ob' := hof2 (w.heap.size + 1) (by omega) (hB.off (Nat.le_succ _)) (hB'.off (Nat.le_succ _))
      refine ⟨sa', ta', sb', tb', pa', qa', pb', qb', na', nac', ma', mac', nb', nbc', mb', mbc', xa', ya', xb', yb', ⟨⟨?_, ?_, ?_, ?_, ?_, ?_, hp1, hp2, hv1.trans HQa.out, hv2.trans HQb.out, l1, l2, l3, l4, ?_⟩, ?_⟩⟩
      · exact Bq_oth (Bq_set ((hA0.later (undrew hb1)).later hb2)) (by omega)
      · exact Bq_set (Bq_oth ((hB0.later (undrew hb1)).later hb2) (by omega))
      · exact ((hX1.below hb2).set4 oa.1 _ _ _ _).set4 oa'.1 _ _ _ _
      · exact ((hX2.below hb2).set4 oa.2 _ _ _ _).set4 oa'.2 _ _ _ _
      · exact (hY1.set4 ob.1 _ _ _ _).set4 ob'.1 _ _ _ _
      · exact (hY2.set4 ob.2 _ _ _ _).set4 ob'.2 _ _ _ _
      · exact bset4 (bset4 (bnext' (bnext' hW (undrew hb1)) hb2) (by omega) _ _ _ _) (by omega) _ _ _ _
      · exact Bq_oth (Bq_oth ((hR0.later (undrew hb1)).later hb2) (by omega)) (by omega)
  case rest =>
    obtain ⟨sa', ta', sb', tb', pa', qa', pb', qb', na', nac', ma', mac', nb', nbc', mb', mbc', xa', ya', xb', yb', hU, hR⟩ := hcut
    clear hA0 hB0 hR0 hW la la' lb lb' hA hA' hB hB'
    have la := hU.la
    have la' := hU.la'
    have lb := hU.lb
    have lb' := hU.lb'
    have HVa : Hid (Rat.divInt (ival sa' xa') (ival ta' ya') = Qa ∧ 0 < ival ta' ya') := ⟨hU.va, hU.ap⟩
    have HVb : Hid (Rat.divInt (ival sb' xb') (ival tb' yb') = Qb ∧ 0 < ival tb' yb') := ⟨hU.vb, hU.bp⟩
    have a0 := hU.a.c0
    have a1 := hU.a.c1
    have a2 := hU.a.c2
    have a3 := hU.a.c3
    have b0 := hU.b.c0
    have b1 := hU.b.c1
    have b2 := hU.b.c2
    have b3 := hU.b.c3
    go_wp2_with fail
    go_region_held3 (fun w' => w'.cell? ⟨w.heap.size, 0, none⟩ = some (.bool sa') ∧ w'.cell? ⟨w.heap.size, 1, none⟩ = some (.slice pa' na' nac') ∧ w'.cell? ⟨w.heap.size, 2, none⟩ = some (.bool ta') ∧ w'.cell? ⟨w.heap.size, 3, none⟩ = some (.slice qa' ma' mac') ∧ w'.cell? ⟨w.heap.size + 1, 0, none⟩ = some (.bool sb') ∧ w'.cell? ⟨w.heap.size + 1, 1, none⟩ = some (.slice pb' nb' nbc') ∧ w'.cell? ⟨w.heap.size + 1, 2, none⟩ = some (.bool tb') ∧ w'.cell? ⟨w.heap.size + 1, 3, none⟩ = some (.slice qb' mb' mbc')) (first | with_reducible exact ⟨a0, a1, a2, a3, b0, b1, b2, b3⟩ | with_reducible exact keepq ⟨a0, a1, a2, a3, b0, b1, b2, b3⟩ (hV1) | with_reducible exact keepq ⟨a0, a1, a2, a3, b0, b1, b2, b3⟩ (hV2) | with_reducible exact keepq ⟨a0, a1, a2, a3, b0, b1, b2, b3⟩ (hV3) | (simp [go_sem, *]; done))
      (first
        | (go_at_call_of 47 (Value.agg #[.bool sa', .slice pa' na' nac']); go_at_call_of 47 (Value.agg #[.bool sb', .slice pb' nb' nbc']); refine (Mul_small sa' sb' pa' pb' na' nac' nb' nbc' xa' xb' _ hU.an.drew hU.bn.drew (by omega)).mono ?_; rintro e v1 ⟨s1, p1, n1, z1, rfl, hN1, hn1, hv1⟩; have hV1 := undrew hv1)
        | (go_at_call_of 47 (Value.agg #[.bool ta', .slice qa' ma' mac']); go_at_call_of 47 (Value.agg #[.bool tb', .slice qb' mb' mbc']); refine (Mul_small ta' tb' qa' qb' ma' mac' mb' mbc' ya' yb' _ (hU.ad.below hV1) (hU.bd.below hV1) (by omega)).mono ?_; rintro e v2 ⟨s2, p2, n2, z2, rfl, hN2, hn2, hv2⟩; have hV2 := bnext' hV1 hv2)
        | (go_at_call 46; refine (lowest_any s1 s2 p1 p2 n1 n1 n2 n2 z1 z2 _ ((hN1.below hv2).ai (by omega)) (hN2.ai (by omega)) (by rw [hN2.v]; have := Int.mul_pos HVa.out.2 HVb.out.2; omega) (by omega) (by omega)).mono ?_; rintro e v3 ⟨s3, p3, n3, x3, t3, q3, m3, y3, rfl, hN3, hv3⟩; have hV3 := bnext' hV2 hv3; have hR3 := (hR.later hV2).later hv3; obtain ⟨r0, r1, r2, r3, f0, f1, f2, f3⟩ := hR3))
    have HE : Rat.divInt (ival s1 z1) (ival s2 z2) = Qa * Qb := by
      rw [hN1.v, hN2.v, ← HVa.out.1, ← HVb.out.1, Rat.divInt_mul_divInt]
    clear a0 a1 a2 a3 b0 b1 b2 b3
    go_wp2
    exact bodyPost_ret (v := .agg #[.bool s3, .slice p3 n3 n3, .bool t3, .slice q3 m3 m3]) (by simp [results, Tryz.results14, go_sem, r0, r1, r2, r3]) rfl (end_nr (hU.bel.trans (hV2.mono hU.bel.size)) (by omega) (by have := hR.lt; have := hV2.size; omega) (hN3.of HE) hv3)
set_option maxRecDepth 100000 in
set_option maxHeartbeats 4000000 in
/-- rat.Cmp. -/
theorem qCmp_any (sa ta sb tb : Bool) (pa qa pb qb : Option Addr) (na nac ma mac nb nbc mb mbc : Nat) (xa ya xb yb : List Int) (w : World) (hA : AI w pa na nac xa) (hA' : AI w qa ma mac ya) (hB : AI w pb nb nbc xb) (hB' : AI w qb mb mbc yb) (Ka Kb : Nat) (hKa : 1 ≤ Ka) (hKb : 1 ≤ Kb) (hK : Ka < 80 ∧ Kb ≤ 1000) (la : na ≤ Ka) (la' : ma ≤ Ka) (lb : nb ≤ Kb) (lb' : mb ≤ Kb) :
    Calls Tryz.prog 17 #[.agg #[.bool sa, .slice pa na nac, .bool ta, .slice qa ma mac], .agg #[.bool sb, .slice pb nb nbc, .bool tb, .slice qb mb mbc]] w (fun e w' => e = .returned (.int .i64 (icmp ((Rat.divInt (ival sa xa) (ival ta ya)).num * (Rat.divInt (ival sb xb) (ival tb yb)).den) ((Rat.divInt (ival sb xb) (ival tb yb)).num * (Rat.divInt (ival sa xa) (ival ta ya)).den))) ∧ Below w.heap.size w w') := by
  generalize hQa : Rat.divInt (ival sa xa) (ival ta ya) = Qa
  generalize hQb : Rat.divInt (ival sb xb) (ival tb yb) = Qb
  have HQa : Hid (Rat.divInt (ival sa xa) (ival ta ya) = Qa) := hQa
  have HQb : Hid (Rat.divInt (ival sb xb) (ival tb yb) = Qb) := hQb
  clear hQa hQb
  go_enter Tryz.func17, Tryz.ntmps17
  go_wp2_with fail
  have hA0 : Bq ((w.alloc (.cells #[.bool sa, .slice pa na nac, .bool ta, .slice qa ma mac] 26)).alloc (.cells #[.bool sb, .slice pb nb nbc, .bool tb, .slice qb mb mbc] 26)) w.heap.size (.bool sa) (.slice pa na nac) (.bool ta) (.slice qa ma mac) := (Bq.new _ _ _ _ _ rfl).alloc _
  have hB0 : Bq ((w.alloc (.cells #[.bool sa, .slice pa na nac, .bool ta, .slice qa ma mac] 26)).alloc (.cells #[.bool sb, .slice pb nb nbc, .bool tb, .slice qb mb mbc] 26)) (w.heap.size + 1) (.bool sb) (.slice pb nb nbc) (.bool tb) (.slice qb mb mbc) := Bq.new _ _ _ _ _ (by simp)
  have hW : Below w.heap.size w ((w.alloc (.cells #[.bool sa, .slice pa na nac, .bool ta, .slice qa ma mac] 26)).alloc (.cells #[.bool sb, .slice pb nb nbc, .bool tb, .slice qb mb mbc] 26)) := ((Below.refl _ _).alloc (Nat.le_refl _) _).alloc (by simp) _
  generalize (w.alloc (.cells #[.bool sa, .slice pa na nac, .bool ta, .slice qa ma mac] 26)).alloc (.cells #[.bool sb, .slice pb nb nbc, .bool tb, .slice qb mb mbc] 26) = W at *
  go_cut [] (fun wc => ∃ sa' ta' sb' tb' pa' qa' pb' qb' na' nac' ma' mac' nb' nbc' mb' mbc' xa' ya' xb' yb', U2 w wc Ka Kb Qa Qb sa' ta' sb' tb' pa' qa' pb' qb' na' nac' ma' mac' nb' nbc' mb' mbc' xa' ya' xb' yb')
  case first =>
    have a0 := hA0.c0
    have a1 := hA0.c1
    have a2 := hA0.c2
    have a3 := hA0.c3
    have b0 := hB0.c0
    have b1 := hB0.c1
    have b2 := hB0.c2
    have b3 := hB0.c3
    go_region_with (first
      | (go_at_call_of 45 (Value.agg #[.bool sa, .slice pa na nac, .bool ta, .slice qa ma mac]); refine (upright_any sa ta pa qa na nac ma mac xa ya _ (hA.below hW).drew (hA'.below hW).drew Ka hKa la la').mono ?_; rintro e w1 ⟨sa', pa', na', nac', xa', ta', qa', ma', mac', ya', rfl, hX1, hX2, hp1, hv1, l1, l2, hof1, hb1⟩; have hA1 := hA0.later (undrew hb1); have hB1 := hB0.later (undrew hb1); have b10 := hB1.c0; have b11 := hB1.c1; have b12 := hB1.c2; have b13 := hB1.c3)
      | (go_at_call_of 45 (Value.agg #[.bool sb, .slice pb nb nbc, .bool tb, .slice qb mb mbc]); refine (upright_any sb tb pb qb nb nbc mb mbc xb yb _ ((hB.below hW).drew.below hb1) ((hB'.below hW).drew.below hb1) Kb hKb lb lb').mono ?_; rintro e w2 ⟨sb', pb', nb', nbc', xb', tb', qb', mb', mbc', yb', rfl, hY1, hY2, hp2, hv2, l3, l4, hof2, hb2⟩; have hA2 := hA1.later hb2; have hB2 := hB1.later hb2; obtain ⟨a20, a21, a22, a23, af0, af1, af2, af3⟩ := hA2; obtain ⟨b20, b21, b22, b23, bf0, bf1, bf2, bf3⟩ := hB2))
    all_goals (go_wp2_with fail; go_meet)
    all_goals
      have sA := hA0.lt
      have sB := hB0.lt
      have s1 : W.heap.size ≤ w1.heap.size := hb1.size
      have s2 := hb2.size
      have oa := hof1 w.heap.size sA (hA.off (Nat.le_refl _)) (hA'.off (Nat.le_refl _))
      have oa' := hof1 (w.heap.size + 1) sB (hA.off (Nat.le_succ _)) (hA'.off (Nat.le_succ _))
      have ob := hof2 w.heap.size (by omega) (hB.off (Nat.le_refl _)) (hB'.off (Nat.le_refl _))
      have ob' := hof2 (w.heap.size + 1) (by omega) (hB.off (Nat.le_succ _)) (hB'.off (Nat.le_succ _))
      refine ⟨sa', ta', sb', tb', pa', qa', pb', qb', na', nac', ma', mac', nb', nbc', mb', mbc', xa', ya', xb', yb', ⟨?_, ?_, ?_, ?_, ?_, ?_, hp1, hp2, hv1.trans HQa.out, hv2.trans HQb.out, l1, l2, l3, l4, ?_⟩⟩
      · exact Bq_oth (Bq_set ((hA0.later (undrew hb1)).later hb2)) (by omega)
      · exact Bq_set (Bq_oth ((hB0.later (undrew hb1)).later hb2) (by omega))
      · exact ((hX1.below hb2).set4 oa.1 _ _ _ _).set4 oa'.1 _ _ _ _
      · exact ((hX2.below hb2).set4 oa.2 _ _ _ _).set4 oa'.2 _ _ _ _
      · exact (hY1.set4 ob.1 _ _ _ _).set4 ob'.1 _ _ _ _
      · exact (hY2.set4 ob.2 _ _ _ _).set4 ob'.2 _ _ _ _
      · exact bset4 (bset4 (bnext' (bnext' hW (undrew hb1)) hb2) (by omega) _ _ _ _) (by omega) _ _ _ _
  case rest =>
    obtain ⟨sa', ta', sb', tb', pa', qa', pb', qb', na', nac', ma', mac', nb', nbc', mb', mbc', xa', ya', xb', yb', hU⟩ := hcut
    clear hA0 hB0 hW la la' lb lb' hA hA' hB hB'
    have la := hU.la
    have la' := hU.la'
    have lb := hU.lb
    have lb' := hU.lb'
    have HVa : Hid (Rat.divInt (ival sa' xa') (ival ta' ya') = Qa ∧ 0 < ival ta' ya') := ⟨hU.va, hU.ap⟩
    have HVb : Hid (Rat.divInt (ival sb' xb') (ival tb' yb') = Qb ∧ 0 < ival tb' yb') := ⟨hU.vb, hU.bp⟩
    have a0 := hU.a.c0
    have a1 := hU.a.c1
    have a2 := hU.a.c2
    have a3 := hU.a.c3
    have b0 := hU.b.c0
    have b1 := hU.b.c1
    have b2 := hU.b.c2
    have b3 := hU.b.c3
    go_wp2_with fail
    go_region_held3 (fun w' => w'.cell? ⟨w.heap.size, 0, none⟩ = some (.bool sa') ∧ w'.cell? ⟨w.heap.size, 1, none⟩ = some (.slice pa' na' nac') ∧ w'.cell? ⟨w.heap.size, 2, none⟩ = some (.bool ta') ∧ w'.cell? ⟨w.heap.size, 3, none⟩ = some (.slice qa' ma' mac') ∧ w'.cell? ⟨w.heap.size + 1, 0, none⟩ = some (.bool sb') ∧ w'.cell? ⟨w.heap.size + 1, 1, none⟩ = some (.slice pb' nb' nbc') ∧ w'.cell? ⟨w.heap.size + 1, 2, none⟩ = some (.bool tb') ∧ w'.cell? ⟨w.heap.size + 1, 3, none⟩ = some (.slice qb' mb' mbc')) (first | with_reducible exact ⟨a0, a1, a2, a3, b0, b1, b2, b3⟩ | with_reducible exact keepq ⟨a0, a1, a2, a3, b0, b1, b2, b3⟩ (hV1) | with_reducible exact keepq ⟨a0, a1, a2, a3, b0, b1, b2, b3⟩ (hV2) | with_reducible exact keepq ⟨a0, a1, a2, a3, b0, b1, b2, b3⟩ (hV3) | (simp [go_sem, *]; done))
      (first
        | (go_at_call_of 47 (Value.agg #[.bool sa', .slice pa' na' nac']); go_at_call_of 47 (Value.agg #[.bool tb', .slice qb' mb' mbc']); refine (Mul_small sa' tb' pa' qb' na' nac' mb' mbc' xa' yb' _ hU.an.drew hU.bd.drew (by omega)).mono ?_; rintro e v1 ⟨s1, p1, n1, z1, rfl, hN1, hn1, hv1⟩; have hV1 := undrew hv1)
        | (go_at_call_of 47 (Value.agg #[.bool sb', .slice pb' nb' nbc']); go_at_call_of 47 (Value.agg #[.bool ta', .slice qa' ma' mac']); refine (Mul_small sb' ta' pb' qa' nb' nbc' ma' mac' xb' ya' _ (hU.bn.below hV1) (hU.ad.below hV1) (by omega)).mono ?_; rintro e v2 ⟨s2, p2, n2, z2, rfl, hN2, hn2, hv2⟩; have hV2 := bnext' hV1 hv2)
        | (go_at_call 48; refine (Cmp_any s1 s2 p1 p2 n1 n1 n2 n2 z1 z2 _ ((hN1.below hv2).ai (by omega)) (hN2.ai (by omega))).mono ?_; rintro e v3 ⟨rfl, hv3⟩; have hV3 := bnext' hV2 hv3))
    have HE : icmp (ival s1 z1) (ival s2 z2) = icmp (Qa.num * Qb.den) (Qb.num * Qa.den) := by
      rw [hN1.v, hN2.v, ← HVa.out.1, ← HVb.out.1]
      exact icmp_cross HVa.out.2 HVb.out.2
    clear a0 a1 a2 a3 b0 b1 b2 b3
    rw [HE]
    go_wp2
    go_ret
    exact ⟨rfl, hU.bel.trans (hV3.mono hU.bel.size)⟩
end Go.Proofs.YtongkalfdgleaaaGreatDoor
