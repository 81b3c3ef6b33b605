/-
  ashlarlaw2.RatField: for all three rationals the law's answer is true.
-/
import Derived.Test.YtongkalfdgleaaaDoorZn
import Derived.Test.YtongkalfdgleaaaDoorZj
namespace Go.Proofs.YtongkalfdgleaaaDoor
open Go.RowKit
set_option linter.unusedVariables false
set_option linter.unusedSimpArgs false

abbrev S12 (w : World) (g k l : Nat) (a0 a1 a2 a3 b0 b1 b2 b3 c0 c1 c2 c3 : Value) : Prop :=
  w.cell? ⟨g, 0, none⟩ = some a0 ∧ w.cell? ⟨g, 1, none⟩ = some a1 ∧ w.cell? ⟨g, 2, none⟩ = some a2 ∧ w.cell? ⟨g, 3, none⟩ = some a3 ∧ w.cell? ⟨k, 0, none⟩ = some b0 ∧ w.cell? ⟨k, 1, none⟩ = some b1 ∧ w.cell? ⟨k, 2, none⟩ = some b2 ∧ w.cell? ⟨k, 3, none⟩ = some b3 ∧ w.cell? ⟨l, 0, none⟩ = some c0 ∧ w.cell? ⟨l, 1, none⟩ = some c1 ∧ w.cell? ⟨l, 2, none⟩ = some c2 ∧ w.cell? ⟨l, 3, none⟩ = some c3
/-- Three rationals in variables of their own, behind Cut. -/
structure C3q (w wc : World) (sa ta sb tb sc tc : Bool) (pa qa pb qb pc qc : Option Addr) (na nac ma mac nb nbc mb mbc nc ncc mc mcc : Nat) (ra rb rc : Rat) : Prop where
  a : Wq wc w.heap.size 24 sa pa na nac ta qa ma mac ra
  b : Wq wc (w.heap.size + 1) 24 sb pb nb nbc tb qb mb mbc rb
  c : Wq wc (w.heap.size + 1 + 1) 24 sc pc nc ncc tc qc mc mcc rc
  bel : Below w.heap.size w wc
theorem C3q.later {w wc w' : World} {sa ta sb tb sc tc : Bool} {pa qa pb qb pc qc : Option Addr} {na nac ma mac nb nbc mb mbc nc ncc mc mcc : Nat} {ra rb rc : Rat} (h : C3q w wc sa ta sb tb sc tc pa qa pb qb pc qc na nac ma mac nb nbc mb mbc nc ncc mc mcc ra rb rc) (hb : Below wc.heap.size wc w') : C3q w w' sa ta sb tb sc tc pa qa pb qb pc qc na nac ma mac nb nbc mb mbc nc ncc mc mcc ra rb rc :=
  ⟨h.a.later hb, h.b.later hb, h.c.later hb, bnext' h.bel hb⟩
theorem keep12 {w1 w2 : World} {g k l : Nat} {a0 a1 a2 a3 b0 b1 b2 b3 c0 c1 c2 c3 : Value} (h : S12 w1 g k l a0 a1 a2 a3 b0 b1 b2 b3 c0 c1 c2 c3) (hb : Below w1.heap.size w1 w2) : S12 w2 g k l a0 a1 a2 a3 b0 b1 b2 b3 c0 c1 c2 c3 := by
  obtain ⟨h0, h1, h2, h3, h4, h5, h6, h7, h8, h9, h10, h11⟩ := h
  exact ⟨cell_later hb h0, cell_later hb h1, cell_later hb h2, cell_later hb h3, cell_later hb h4, cell_later hb h5, cell_later hb h6, cell_later hb h7, cell_later hb h8, cell_later hb h9, cell_later hb h10, cell_later hb h11⟩
theorem keep12' {w1 w2 w3 : World} {g k l : Nat} {a0 a1 a2 a3 b0 b1 b2 b3 c0 c1 c2 c3 : Value} (h : S12 w1 g k l a0 a1 a2 a3 b0 b1 b2 b3 c0 c1 c2 c3) (hb : Below w1.heap.size w1 w2) (hc : Below w2.heap.size w2 w3) : S12 w3 g k l a0 a1 a2 a3 b0 b1 b2 b3 c0 c1 c2 c3 := keep12 (keep12 h hb) hc
theorem field1 (a b c : Rat) : a * (b + c) = a * b + a * c := Rat.mul_add _ _ _
theorem field2 (a b : Rat) (h : ¬ b = 0) : a / b * b = a := Rat.div_mul_cancel h
set_option maxRecDepth 100000 in
set_option maxHeartbeats 8000000 in
theorem RatField_walk (sa ta sb tb sc tc : Bool) (pa qa pb qb pc qc : Option Addr) (na nac ma mac nb nbc mb mbc nc ncc mc mcc : Nat) (xa ya xb yb xc yc : List Int) (w : World)
    (hla : xa.length = na) (hnca : na ≤ nac) (hba : nac ≤ maxLen) (hXa : Rd w pa .u32 xa) (hUa : U32 xa) (hpa : pa = none → nac = 0)
    (hma : ya.length = ma) (hmca : ma ≤ mac) (hca : mac ≤ maxLen) (hYa : Rd w qa .u32 ya) (hVa : U32 ya) (hqa : qa = none → mac = 0)
    (hlb : xb.length = nb) (hncb : nb ≤ nbc) (hbb : nbc ≤ maxLen) (hXb : Rd w pb .u32 xb) (hUb : U32 xb) (hpb : pb = none → nbc = 0)
    (hmb : yb.length = mb) (hmcb : mb ≤ mbc) (hcb : mbc ≤ maxLen) (hYb : Rd w qb .u32 yb) (hVb : U32 yb) (hqb : qb = none → mbc = 0)
    (hlc : xc.length = nc) (hncc : nc ≤ ncc) (hbc : ncc ≤ maxLen) (hXc : Rd w pc .u32 xc) (hUc : U32 xc) (hpc : pc = none → ncc = 0)
    (hmc : yc.length = mc) (hmcc : mc ≤ mcc) (hcc : mcc ≤ maxLen) (hYc : Rd w qc .u32 yc) (hVc : U32 yc) (hqc : qc = none → mcc = 0) :
    Calls Tryd.prog 3 #[.agg #[.bool sa, .slice pa na nac, .bool ta, .slice qa ma mac], .agg #[.bool sb, .slice pb nb nbc, .bool tb, .slice qb mb mbc], .agg #[.bool sc, .slice pc nc ncc, .bool tc, .slice qc mc mcc]] w fun e w' => e = .returned (.bool true) ∧ Below w.heap.size w w' := by
  go_enter Tryd.func3, Tryd.ntmps3
  go_wp2_with fail
  have hA0 : Bq ((((w).alloc (.cells #[.bool sa, .slice pa na nac, .bool ta, .slice qa ma mac] 26)).alloc (.cells #[.bool sb, .slice pb nb nbc, .bool tb, .slice qb mb mbc] 26)).alloc (.cells #[.bool sc, .slice pc nc ncc, .bool tc, .slice qc mc mcc] 26)) w.heap.size (.bool sa) (.slice pa na nac) (.bool ta) (.slice qa ma mac) := ((Bq.new _ _ _ _ _ rfl).alloc _).alloc _
  have hB0 : Bq ((((w).alloc (.cells #[.bool sa, .slice pa na nac, .bool ta, .slice qa ma mac] 26)).alloc (.cells #[.bool sb, .slice pb nb nbc, .bool tb, .slice qb mb mbc] 26)).alloc (.cells #[.bool sc, .slice pc nc ncc, .bool tc, .slice qc mc mcc] 26)) (w.heap.size + 1) (.bool sb) (.slice pb nb nbc) (.bool tb) (.slice qb mb mbc) := (Bq.new _ _ _ _ _ (by simp)).alloc _
  have hC0 : Bq ((((w).alloc (.cells #[.bool sa, .slice pa na nac, .bool ta, .slice qa ma mac] 26)).alloc (.cells #[.bool sb, .slice pb nb nbc, .bool tb, .slice qb mb mbc] 26)).alloc (.cells #[.bool sc, .slice pc nc ncc, .bool tc, .slice qc mc mcc] 26)) (w.heap.size + 1 + 1) (.bool sc) (.slice pc nc ncc) (.bool tc) (.slice qc mc mcc) := Bq.new _ _ _ _ _ (by simp)
  have hW0 : Below w.heap.size w ((((w).alloc (.cells #[.bool sa, .slice pa na nac, .bool ta, .slice qa ma mac] 26)).alloc (.cells #[.bool sb, .slice pb nb nbc, .bool tb, .slice qb mb mbc] 26)).alloc (.cells #[.bool sc, .slice pc nc ncc, .bool tc, .slice qc mc mcc] 26)) := (((Below.refl _ _).alloc (Nat.le_refl _) _).alloc (by simp) _).alloc (by simp; omega) _
  generalize (((w).alloc (.cells #[.bool sa, .slice pa na nac, .bool ta, .slice qa ma mac] 26)).alloc (.cells #[.bool sb, .slice pb nb nbc, .bool tb, .slice qb mb mbc] 26)).alloc (.cells #[.bool sc, .slice pc nc ncc, .bool tc, .slice qc mc mcc] 26) = W0 at *
  refine (qbegun_any _).mono ?_
  rintro e w1 ⟨rfl, hb1⟩
  have hA1 := hA0.later hb1
  have hB1 := hB0.later hb1
  have hC1 := hC0.later hb1
  have hW1 := bnext' hW0 hb1
  clear hA0 hB0 hC0 hW0 hb1
  go_upto_region 2 with fail
  go_cut [] (fun wc => ∃ pa' na' nac' qa' ma' mac' pb' nb' nbc' qb' mb' mbc' pc' nc' ncc' qc' mc' mcc', C3q w wc sa ta sb tb sc tc pa' qa' pb' qb' pc' qc' na' nac' ma' mac' nb' nbc' mb' mbc' nc' ncc' mc' mcc' (Rat.divInt (ival sa (xa.take 24)) (ival ta (ya.take 24))) (Rat.divInt (ival sb (xb.take 24)) (ival tb (yb.take 24))) (Rat.divInt (ival sc (xc.take 24)) (ival tc (yc.take 24))))
  case first =>
    have a0 := hA1.c0
    have a1 := hA1.c1
    have a2 := hA1.c2
    have a3 := hA1.c3
    have b0 := hB1.c0
    have b1 := hB1.c1
    have b2 := hB1.c2
    have b3 := hB1.c3
    have c0 := hC1.c0
    have c1 := hC1.c1
    have c2 := hC1.c2
    have c3 := hC1.c3
    go_region_with (first
      | (go_at_call_of 6 (Value.agg #[.bool sa, .slice pa na nac, .bool ta, .slice qa ma mac]); refine (qCut_any sa ta pa qa na nac ma mac xa ya _ hla hnca hba (hXa.below hW1).drew hUa hpa hma hmca hca (hYa.below hW1).drew hVa hqa).mono ?_; rintro e w2 ⟨pa', na', nac', qa', ma', mac', rfl, hA, hA', hna24, hma24, hFa, hFa', hb2⟩; have hB2 := hB1.later (undrew hb2); have hC2 := hC1.later (undrew hb2); have b20 := hB2.c0; have b21 := hB2.c1; have b22 := hB2.c2; have b23 := hB2.c3; have c20 := hC2.c0; have c21 := hC2.c1; have c22 := hC2.c2; have c23 := hC2.c3)
      | (go_at_call_of 6 (Value.agg #[.bool sb, .slice pb nb nbc, .bool tb, .slice qb mb mbc]); refine (qCut_any sb tb pb qb nb nbc mb mbc xb yb _ hlb hncb hbb ((hXb.below hW1).drew.below hb2) hUb hpb hmb hmcb hcb ((hYb.below hW1).drew.below hb2) hVb hqb).mono ?_; rintro e w3 ⟨pb', nb', nbc', qb', mb', mbc', rfl, hB, hB', hnb24, hmb24, hFb, hFb', hb3⟩; have hC3 := hC2.later hb3; have c30 := hC3.c0; have c31 := hC3.c1; have c32 := hC3.c2; have c33 := hC3.c3)
      | (go_at_call_of 6 (Value.agg #[.bool sc, .slice pc nc ncc, .bool tc, .slice qc mc mcc]); refine (qCut_any sc tc pc qc nc ncc mc mcc xc yc _ hlc hncc hbc (((hXc.below hW1).drew.below hb2).below hb3) hUc hpc hmc hmcc hcc (((hYc.below hW1).drew.below hb2).below hb3) hVc hqc).mono ?_; rintro e w4 ⟨pc', nc', ncc', qc', mc', mcc', rfl, hC, hC', hnc24, hmc24, hFc, hFc', hb4⟩; have hb24 := bnext' (bnext' (undrew hb2) hb3) hb4; have hA4 := hA1.later hb24; have hB4 := hB1.later hb24; have hC4 := hC1.later hb24; obtain ⟨a40, a41, a42, a43, fa0, fa1, fa2, fa3⟩ := hA4; obtain ⟨b40, b41, b42, b43, fb0, fb1, fb2, fb3⟩ := hB4; obtain ⟨c40, c41, c42, c43, fc0, fc1, fc2, fc3⟩ := hC4))
    all_goals (go_wp2_with fail; go_meet)
    all_goals
      have sA := hA1.lt
      have sB := hB1.lt
      have sC := hC1.lt
      have s2 : w1.heap.size ≤ w2.heap.size := hb2.size
      have s3 := hb3.size
      have hA4 := hA1.later hb24
      have hB4 := hB1.later hb24
      have hC4 := hC1.later hb24
      have qA : AQ w4 24 sa pa' na' nac' ta qa' ma' mac' (Rat.divInt (ival sa (xa.take 24)) (ival ta (ya.take 24))) := ⟨_, _, (hA.below hb3).below hb4, (hA'.below hb3).below hb4, hna24, hma24, rfl⟩
      have qB : AQ w4 24 sb pb' nb' nbc' tb qb' mb' mbc' (Rat.divInt (ival sb (xb.take 24)) (ival tb (yb.take 24))) := ⟨_, _, hB.below hb4, hB'.below hb4, hnb24, hmb24, rfl⟩
      have qC : AQ w4 24 sc pc' nc' ncc' tc qc' mc' mcc' (Rat.divInt (ival sc (xc.take 24)) (ival tc (yc.take 24))) := ⟨_, _, hC, hC', hnc24, hmc24, rfl⟩
      refine ⟨pa', na', nac', qa', ma', mac', pb', nb', nbc', qb', mb', mbc', pc', nc', ncc', qc', mc', mcc', ⟨?_, ?_⟩, ⟨?_, ?_⟩, ⟨?_, ?_⟩, ?_⟩
      · exact Bq_oth (Bq_oth (Bq_set hA4) (by omega)) (by omega)
      · exact ((qA.set4 (fun _ => off_from hFa sA) (fun _ => off_from hFa' sA) _ _ _ _).set4 (fun _ => off_from hFa sB) (fun _ => off_from hFa' sB) _ _ _ _).set4 (fun _ => off_from hFa sC) (fun _ => off_from hFa' sC) _ _ _ _
      · exact Bq_oth (Bq_set (Bq_oth hB4 (by omega))) (by omega)
      · exact ((qB.set4 (fun _ => off_from hFb (by omega)) (fun _ => off_from hFb' (by omega)) _ _ _ _).set4 (fun _ => off_from hFb (by omega)) (fun _ => off_from hFb' (by omega)) _ _ _ _).set4 (fun _ => off_from hFb (by omega)) (fun _ => off_from hFb' (by omega)) _ _ _ _
      · exact Bq_set (Bq_oth (Bq_oth hC4 (by omega)) (by omega))
      · exact ((qC.set4 (fun _ => off_from hFc (by omega)) (fun _ => off_from hFc' (by omega)) _ _ _ _).set4 (fun _ => off_from hFc (by omega)) (fun _ => off_from hFc' (by omega)) _ _ _ _).set4 (fun _ => off_from hFc (by omega)) (fun _ => off_from hFc' (by omega)) _ _ _ _
      · exact bset4 (bset4 (bset4 (bnext' hW1 hb24) (by omega) _ _ _ _) (by omega) _ _ _ _) (by omega) _ _ _ _
  case rest =>
    obtain ⟨pa', na', nac', qa', ma', mac', pb', nb', nbc', qb', mb', mbc', pc', nc', ncc', qc', mc', mcc', hG⟩ := hcut
    clear hA1 hB1 hC1 hW1
    generalize (Rat.divInt (ival sa (xa.take 24)) (ival ta (ya.take 24))) = ra at *
    generalize (Rat.divInt (ival sb (xb.take 24)) (ival tb (yb.take 24))) = rb at *
    generalize (Rat.divInt (ival sc (xc.take 24)) (ival tc (yc.take 24))) = rc at *
    have a0 := hG.a.b.c0
    have a1 := hG.a.b.c1
    have a2 := hG.a.b.c2
    have a3 := hG.a.b.c3
    have b0 := hG.b.b.c0
    have b1 := hG.b.b.c1
    have b2 := hG.b.b.c2
    have b3 := hG.b.b.c3
    have c0 := hG.c.b.c0
    have c1 := hG.c.b.c1
    have c2 := hG.c.b.c2
    have c3 := hG.c.b.c3
    go_upto_region 2 with fail
    go_region_held3 (fun w' => w'.cell? ⟨w.heap.size, 0, none⟩ = some (.bool sa) ∧ w'.cell? ⟨w.heap.size, 1, none⟩ = some (.slice pa' na' nac') ∧ w'.cell? ⟨w.heap.size, 2, none⟩ = some (.bool ta) ∧ w'.cell? ⟨w.heap.size, 3, none⟩ = some (.slice qa' ma' mac') ∧ w'.cell? ⟨w.heap.size + 1, 0, none⟩ = some (.bool sb) ∧ w'.cell? ⟨w.heap.size + 1, 1, none⟩ = some (.slice pb' nb' nbc') ∧ w'.cell? ⟨w.heap.size + 1, 2, none⟩ = some (.bool tb) ∧ w'.cell? ⟨w.heap.size + 1, 3, none⟩ = some (.slice qb' mb' mbc') ∧ w'.cell? ⟨w.heap.size + 1 + 1, 0, none⟩ = some (.bool sc) ∧ w'.cell? ⟨w.heap.size + 1 + 1, 1, none⟩ = some (.slice pc' nc' ncc') ∧ w'.cell? ⟨w.heap.size + 1 + 1, 2, none⟩ = some (.bool tc) ∧ w'.cell? ⟨w.heap.size + 1 + 1, 3, none⟩ = some (.slice qc' mc' mcc')) (first | with_reducible exact ⟨a0, a1, a2, a3, b0, b1, b2, b3, c0, c1, c2, c3⟩ | with_reducible exact keep12 ⟨a0, a1, a2, a3, b0, b1, b2, b3, c0, c1, c2, c3⟩ hV1 | with_reducible exact keep12 ⟨a0, a1, a2, a3, b0, b1, b2, b3, c0, c1, c2, c3⟩ hV2 | with_reducible exact keep12 ⟨a0, a1, a2, a3, b0, b1, b2, b3, c0, c1, c2, c3⟩ hV3 | with_reducible exact keep12 ⟨a0, a1, a2, a3, b0, b1, b2, b3, c0, c1, c2, c3⟩ hV4 | with_reducible exact keep12 ⟨a0, a1, a2, a3, b0, b1, b2, b3, c0, c1, c2, c3⟩ hV5 | with_reducible exact keep12 ⟨a0, a1, a2, a3, b0, b1, b2, b3, c0, c1, c2, c3⟩ hV6 | exact ⟨a0, a1, a2, a3, b0, b1, b2, b3, c0, c1, c2, c3⟩)
      (first
        | (go_at_call_of 9 (Value.agg #[.bool sb, .slice pb' nb' nbc', .bool tb, .slice qb' mb' mbc']); refine (qAdd_q hG.b.a.drew hG.c.a.drew (by decide) (by decide) (by decide)).mono ?_; rintro e v1 ⟨s1, p1, n1, t1, q1, m1, rfl, hN1, hv1⟩; have hV1 := undrew hv1)
        | (go_at_call_of 8 (Value.agg #[.bool s1, .slice p1 n1 n1, .bool t1, .slice q1 m1 m1]); refine (qMul_q (hG.a.a.below hV1) (hN1.aq (by decide)) (by decide) (by decide) (by decide)).mono ?_; rintro e v2 ⟨s2, p2, n2, t2, q2, m2, rfl, hN2, hv2⟩; have hV2 := bnext' hV1 hv2)
        | (go_at_call_of 8 (Value.agg #[.bool sb, .slice pb' nb' nbc', .bool tb, .slice qb' mb' mbc']); refine (qMul_q (hG.a.a.below hV2) (hG.b.a.below hV2) (by decide) (by decide) (by decide)).mono ?_; rintro e v3 ⟨s3, p3, n3, t3, q3, m3, rfl, hN3, hv3⟩; have hV3 := bnext' hV2 hv3)
        | (go_at_call_of 8 (Value.agg #[.bool sc, .slice pc' nc' ncc', .bool tc, .slice qc' mc' mcc']); refine (qMul_q (hG.a.a.below hV3) (hG.c.a.below hV3) (by decide) (by decide) (by decide)).mono ?_; rintro e v4 ⟨s4, p4, n4, t4, q4, m4, rfl, hN4, hv4⟩; have hV4 := bnext' hV3 hv4)
        | (go_at_call_of 9 (Value.agg #[.bool s3, .slice p3 n3 n3, .bool t3, .slice q3 m3 m3]); refine (qAdd_q ((hN3.below hv4).aq (by decide)) (hN4.aq (by decide)) (by decide) (by decide) (by decide)).mono ?_; rintro e v5 ⟨s5, p5, n5, t5, q5, m5, rfl, hN5, hv5⟩; have hV5 := bnext' hV4 hv5)
        | (go_at_call 7; refine (qCmp_same ((((hN2.below hv3).below hv4).below hv5).aq (by decide)) (hN5.aq (by decide)) (by decide) (by decide) (by decide) (field1 ra rb rc)).mono ?_; rintro e v6 ⟨rfl, hv6⟩; have hV6 := bnext' hV5 hv6))
    have hG1 := hG.later hV6
    clear hV1 hV2 hV3 hV4 hV5 hV6 hv1 hv2 hv3 hv4 hv5 hv6 hN1 hN2 hN3 hN4 hN5 hG
    clear a0 a1 a2 a3 b0 b1 b2 b3 c0 c1 c2 c3
    have a0 := hG1.a.b.c0
    have a1 := hG1.a.b.c1
    have a2 := hG1.a.b.c2
    have a3 := hG1.a.b.c3
    have b0 := hG1.b.b.c0
    have b1 := hG1.b.b.c1
    have b2 := hG1.b.b.c2
    have b3 := hG1.b.b.c3
    have c0 := hG1.c.b.c0
    have c1 := hG1.c.b.c1
    have c2 := hG1.c.b.c2
    have c3 := hG1.c.b.c3
    go_wp2_with fail
    have hcs : Hid (rb = 0 ∨ ¬ rb = 0) := Classical.em _
    have hq := qQuo_q hG1.a.a hG1.b.a (by decide) (by decide) (by decide)
    rcases hcs.out with hz | hz
    · rw [if_pos hz] at hq
      refine hq.mono ?_
      rintro e w2 ⟨s2, p2, n2, t2, q2, m2, rfl, hN2, hb2⟩
      have hG2 := hG1.later (bel_al (o := .cells #[.bool s2, .slice p2 n2 n2, .bool t2, .slice q2 m2 m2] 26) hb2)
      clear a0 a1 a2 a3 b0 b1 b2 b3 c0 c1 c2 c3
      clear hG1 hz hcs hq
      go_wp2
      go_ret
      exact ⟨rfl, hG2.bel⟩
    · rw [if_neg hz] at hq
      refine hq.mono ?_
      rintro e w2 ⟨s2, p2, n2, t2, q2, m2, rfl, hN2, hb2⟩
      have hal := bel_al (o := .cells #[.bool s2, .slice p2 n2 n2, .bool t2, .slice q2 m2 m2] 26) hb2
      have hG2 := hG1.later hal
      have hQ : Bq (w2.alloc (.cells #[.bool s2, .slice p2 n2 n2, .bool t2, .slice q2 m2 m2] 26)) w2.heap.size (.bool s2) (.slice p2 n2 n2) (.bool t2) (.slice q2 m2 m2) := Bq.new _ _ _ _ _ rfl
      have hN3 := hN2.below (bel_al (o := .cells #[.bool s2, .slice p2 n2 n2, .bool t2, .slice q2 m2 m2] 26) (Below.refl _ _))
      have HZ := (show Hid _ from hz)
      clear a0 a1 a2 a3 b0 b1 b2 b3 c0 c1 c2 c3
      clear hG1 hz hcs hq hal hN2 hb2
      go_upto_region 2 with fail
      generalize w2.alloc (.cells #[.bool s2, .slice p2 n2 n2, .bool t2, .slice q2 m2 m2] 26) = W2 at *
      generalize w2.heap.size = gq at *
      have a0 := hG2.a.b.c0
      have a1 := hG2.a.b.c1
      have a2 := hG2.a.b.c2
      have a3 := hG2.a.b.c3
      have b0 := hG2.b.b.c0
      have b1 := hG2.b.b.c1
      have b2 := hG2.b.b.c2
      have b3 := hG2.b.b.c3
      have c0 := hG2.c.b.c0
      have c1 := hG2.c.b.c1
      have c2 := hG2.c.b.c2
      have c3 := hG2.c.b.c3
      have d0 := hQ.c0
      have d1 := hQ.c1
      have d2 := hQ.c2
      have d3 := hQ.c3
      go_region_held3 (fun w' => S12 w' gq w.heap.size (w.heap.size + 1) (.bool s2) (.slice p2 n2 n2) (.bool t2) (.slice q2 m2 m2) (.bool sa) (.slice pa' na' nac') (.bool ta) (.slice qa' ma' mac') (.bool sb) (.slice pb' nb' nbc') (.bool tb) (.slice qb' mb' mbc')) (first | with_reducible exact ⟨d0, d1, d2, d3, a0, a1, a2, a3, b0, b1, b2, b3⟩ | with_reducible exact keep12 ⟨d0, d1, d2, d3, a0, a1, a2, a3, b0, b1, b2, b3⟩ hV1 | with_reducible exact keep12 ⟨d0, d1, d2, d3, a0, a1, a2, a3, b0, b1, b2, b3⟩ hV2 | exact ⟨d0, d1, d2, d3, a0, a1, a2, a3, b0, b1, b2, b3⟩)
        (first
          | (go_at_call 8; refine (qMul_q (hN3.aq (by decide)).drew hG2.b.a.drew (by decide) (by decide) (by decide)).mono ?_; rintro e v1 ⟨s4, p4, n4, t4, q4, m4, rfl, hN4, hv1⟩; have hV1 := undrew hv1)
          | (go_at_call 7; refine (qCmp_same (hN4.aq (by decide)) (hG2.a.a.below hV1) (by decide) (by decide) (by decide) (field2 ra rb HZ.out)).mono ?_; rintro e v2 ⟨rfl, hv2⟩; have hV2 := bnext' hV1 hv2))
      have hG3 := hG2.later hV2
      clear hV1 hV2 hv1 hv2 hN4 hN3 hG2 d0 d1 d2 d3 hQ HZ
      clear a0 a1 a2 a3 b0 b1 b2 b3 c0 c1 c2 c3
      go_wp2
      go_ret
      exact ⟨rfl, hG3.bel⟩
end Go.Proofs.YtongkalfdgleaaaDoor
