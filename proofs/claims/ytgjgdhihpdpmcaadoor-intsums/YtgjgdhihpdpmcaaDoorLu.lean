/-
  ashlarlaw1.IntSums: for all two numbers the law's answer is true.
-/
import Derived.Test.YtgjgdhihpdpmcaaDoorBh
import Derived.Test.YtgjgdhihpdpmcaaDoorRm
import Derived.Test.YtgjgdhihpdpmcaaDoorRn
import Derived.Test.YtgjgdhihpdpmcaaDoorRs
import Derived.Test.YtgjgdhihpdpmcaaDoorRt
import Derived.Test.YtgjgdhihpdpmcaaDoorCz
import Derived.Test.YtgjgdhihpdpmcaaDoorWf
namespace Go.Proofs.YtgjgdhihpdpmcaaDoor
open Go.RowKit
set_option linter.unusedVariables false
set_option linter.unusedSimpArgs false

set_option maxRecDepth 100000 in
set_option maxHeartbeats 16000000 in
theorem IntSums_walk (sa sb : Bool) (pa pb : Option Addr) (na nac nb nbc : Nat) (xa xb : List Int) (w : World)
    (hla : xa.length = na) (hnca : na ≤ nac) (hba : nac ≤ maxLen) (hXa : Rd w pa .u32 xa) (hUa : U32 xa) (hpa : pa = none → nac = 0)
    (hlb : xb.length = nb) (hncb : nb ≤ nbc) (hbb : nbc ≤ maxLen) (hXb : Rd w pb .u32 xb) (hUb : U32 xb) (hpb : pb = none → nbc = 0) :
    Calls Tryd.prog 3 #[.agg #[.bool sa, .slice pa na nac], .agg #[.bool sb, .slice pb nb nbc]] w fun e w' => e = .returned (.bool true) ∧ Below w.heap.size w w' := by
  go_enter Tryd.func3, Tryd.ntmps3
  go_upto_region 2 with (go_at_call 9; refine (begun_any _).mono ?_; rintro e w1 ⟨rfl, hb1⟩)
  have hA0 : Bx ((w.alloc (.cells #[.bool sa, .slice pa na nac] 24)).alloc (.cells #[.bool sb, .slice pb nb nbc] 24)) w.heap.size (.bool sa) (.slice pa na nac) := (Bx.new _ _ _ rfl).alloc _
  have hB0 : Bx ((w.alloc (.cells #[.bool sa, .slice pa na nac] 24)).alloc (.cells #[.bool sb, .slice pb nb nbc] 24)) (w.heap.size + 1) (.bool sb) (.slice pb nb nbc) := Bx.new _ _ _ (World.size_alloc ..).symm
  have hbw : Below w.heap.size w ((w.alloc (.cells #[.bool sa, .slice pa na nac] 24)).alloc (.cells #[.bool sb, .slice pb nb nbc] 24)) := ((Below.refl _ _).alloc (Nat.le_refl _) _).alloc (by simp) _
  have hsz : w.heap.size + 1 + 1 ≤ ((w.alloc (.cells #[.bool sa, .slice pa na nac] 24)).alloc (.cells #[.bool sb, .slice pb nb nbc] 24)).heap.size := by simp
  generalize ((w.alloc (.cells #[.bool sa, .slice pa na nac] 24)).alloc (.cells #[.bool sb, .slice pb nb nbc] 24)) = W0 at *
  have hA1 := hA0.later hb1
  have hB1 := hB0.later hb1
  have hbw1 := bnext hbw (Nat.le_refl _) hb1
  have hsz1 : w.heap.size + 1 + 1 ≤ w1.heap.size := Nat.le_trans hsz hb1.size
  clear hA0 hB0 hbw hsz hb1
  go_cut [] (fun wc => ∃ pa' na' nac' pb' nb' nbc', C2 w wc sa sb pa' pb' na' nac' nb' nbc' (xa.take 24) (xb.take 24))
  case first =>
    have a0 := hA1.c0
    have a1 := hA1.c1
    have b0 := hB1.c0
    have b1 := hB1.c1
    go_region_with (first
      | (go_at_call_of 10 (Value.agg #[.bool sa, .slice pa na nac]); refine (Cut_any sa pa na nac xa _ hla hnca hba (hXa.below hbw1).drew hUa hpa).mono ?_; rintro e w2 ⟨pa', na', nac', rfl, hA, hna24, hFa, hb2⟩; have hA2 := hA1.later (undrew hb2); have hB2 := hB1.later (undrew hb2); have b20 := hB2.c0; have b21 := hB2.c1)
      | (go_at_call_of 10 (Value.agg #[.bool sb, .slice pb nb nbc]); refine (Cut_any sb pb nb nbc xb _ hlb hncb hbb ((hXb.below hbw1).drew.below hb2) hUb hpb).mono ?_; rintro e w3 ⟨pb', nb', nbc', rfl, hB, hnb24, hFb, hb3⟩; have hA3 := hA2.later hb3; have hB3 := hB2.later hb3; have a40 := hA3.c0; have a41 := hA3.c1; have b40 := hB3.c0; have b41 := hB3.c1; have fa0 := hA3.f0; have fa1 := hA3.f1; have fb0 := hB3.f0; have fb1 := hB3.f1))
    all_goals (go_wp2_with fail; go_meet)
    all_goals
      have s2 := hb2.size
      have s3 := hb3.size
      have e1 : w1.drew.heap.size = w1.heap.size := rfl
      refine ⟨pa', na', nac', pb', nb', nbc', ⟨?_, ?_, ?_⟩, ⟨?_, ?_, ?_⟩, hna24, hnb24, ?_⟩
      · exact Bx_oth (Bx_set hA3) (by omega)
      · exact ((hA.below hb3).set2 hFa (by omega) _ _).set2 hFa (by omega) _ _
      · exact hFa.mono (by omega)
      · exact Bx_set (Bx_oth hB3 (by omega))
      · exact (hB.set2 hFb (by omega) _ _).set2 hFb (by omega) _ _
      · exact hFb.mono (by omega)
      · exact bset2 (bset2 (bnext (bnext hbw1 (Nat.le_refl _) (undrew hb2)) (Nat.le_refl _) hb3) (by omega) _ _) (by omega) _ _
  case rest =>
    obtain ⟨pa', na', nac', pb', nb', nbc', hG⟩ := hcut
    clear hA1 hB1 hbw1 hsz1
    have la := hG.la
    have lb := hG.lb
    have k0 := hG.a.b.c0
    have k1 := hG.a.b.c1
    have k2 := hG.b.b.c0
    have k3 := hG.b.b.c1
    go_wp2_with fail
    have hga : w.heap.size < wc.heap.size := block_lt_of_cell k0
    have hgb : w.heap.size + 1 < wc.heap.size := block_lt_of_cell k2
    go_cut [6, 7] (fun xv yv w3 => ∃ (g1 g2 : Nat) (s1 : Bool) (p1 : Option Addr) (n1 : Nat) (d1 : List Int) (s2 : Bool) (p2 : Option Addr) (n2 : Nat) (d2 : List Int), xv = .pointer (some ⟨g1, 0, none⟩) ∧ yv = .pointer (some ⟨g2, 0, none⟩) ∧ Vx w3 g1 s1 p1 n1 d1 (ival sa (xa.take 24)) ∧ Vx w3 g2 s2 p2 n2 d2 (ival sb (xb.take 24)) ∧ C2 w w3 sa sb pa' pb' na' nac' nb' nbc' (xa.take 24) (xb.take 24))
    case first =>
      go_region_held3 (fun w' => w'.cell? ⟨w.heap.size, 0, none⟩ = some (.bool sa) ∧ w'.cell? ⟨w.heap.size, 1, none⟩ = some (.slice pa' na' nac') ∧ w'.cell? ⟨w.heap.size + 1, 0, none⟩ = some (.bool sb) ∧ w'.cell? ⟨w.heap.size + 1, 1, none⟩ = some (.slice pb' nb' nbc')) (first | with_reducible exact keepc4 ⟨y0, y1, y2, y3⟩ (bel_al (bel_al (Below.refl _ _))) | with_reducible exact keepc4 ⟨y0, y1, y2, y3⟩ (bel_al (Below.refl _ _)) | with_reducible exact ⟨y0, y1, y2, y3⟩ | with_reducible exact s4set (keepc4 ⟨y0, y1, y2, y3⟩ (bel_al (Below.refl _ _))) (by omega) (by omega) | with_reducible exact s4set ⟨y0, y1, y2, y3⟩ (by omega) (by omega) | with_reducible exact s4set (s4set ⟨y0, y1, y2, y3⟩ (by omega) (by omega)) (by omega) (by omega) | with_reducible exact keepc4 ⟨q0, q1, q2, q3⟩ (bel_al (bel_al (Below.refl _ _))) | with_reducible exact keepc4 ⟨q0, q1, q2, q3⟩ (bel_al (Below.refl _ _)) | with_reducible exact ⟨q0, q1, q2, q3⟩ | with_reducible exact keepc4 ⟨k0, k1, k2, k3⟩ (Below.drew (Below.refl _ _)) | with_reducible exact keepc4 ⟨k0, k1, k2, k3⟩ (Below.drew (bel_al (Below.refl _ _))) | with_reducible exact keepc4 ⟨k0, k1, k2, k3⟩ (Below.drew (bel_al (bel_al (Below.refl _ _)))) | (simp [go_sem, *]; done))
        (first
          | (go_at_call_of 11 (Value.agg #[.bool sa, .slice pa' na' nac']); refine (From_ansF sa pa' na' nac' (xa.take 24) _ (hG.a.a.below (by first | exact (Below.refl _ _).drew | exact (bel_al (Below.refl _ _)).drew | exact (bel_al (bel_al (Below.refl _ _))).drew))).mono ?_; rintro e x1 ⟨s1, p1, n1, d1, rfl, hR1, hV1, hn1, hF1, hx1⟩; have HV1 : Hid (rval s1 d1 = ival sa (xa.take 24)) := hV1; clear hV1; have hF1' := unfr hF1; have hB1 := undrew hx1; have hW1 := comp (X2 := wc) (w2 := wc) (Below.refl _ _) (by (repeat apply bel_al); exact Below.refl _ _) hB1; obtain ⟨hc1, hf1, hz1, -, -⟩ := brules hB1; obtain ⟨o1, o2, o3, o4⟩ := bne hB1; have q0 := cell_later hW1 k0; have q1 := cell_later hW1 k1; have q2 := cell_later hW1 k2; have q3 := cell_later hW1 k3; have r1 := Nat.lt_of_lt_of_le hga hW1.size; have r2 := Nat.lt_of_lt_of_le hgb hW1.size; have t1 := hW1.size; have t1b := hB1.size; have hU1 := hR1.lt)
          | (go_at_call_of 11 (Value.agg #[.bool sb, .slice pb' nb' nbc']); refine (From_ansF sb pb' nb' nbc' (xb.take 24) _ (hG.b.a.below (by (repeat apply bel_al); exact hW1))).mono ?_; rintro e x2 ⟨s2, p2, n2, d2, rfl, hR2, hV2, hn2, hF2, hx2⟩; have HV2 : Hid (rval s2 d2 = ival sb (xb.take 24)) := hV2; clear hV2; have hb12 := comp hB1 (by (repeat apply bel_al); exact Below.refl _ _) hx2; have hW2 := comp hW1 (by (repeat apply bel_al); exact Below.refl _ _) hx2; have hR12 := hR1.below (comp (X2 := x1) (w2 := x1) (Below.refl _ _) (by (repeat apply bel_al); exact Below.refl _ _) hx2); obtain ⟨hc3, hf3, hz3, -, -⟩ := brules hx2; obtain ⟨hc4, hf4, hz4, -, -⟩ := brules hb12; obtain ⟨m1, m2, m3, m4⟩ := bne hx2; obtain ⟨m5, m6, m7, m8⟩ := bne hb12; have y0 := cell_later hW2 k0; have y1 := cell_later hW2 k1; have y2 := cell_later hW2 k2; have y3 := cell_later hW2 k3; have r3 := Nat.lt_of_lt_of_le hga hW2.size; have r4 := Nat.lt_of_lt_of_le hgb hW2.size; have t2 := hW2.size; have t2b := hx2.size))
      all_goals (go_wp2_with fail; go_meet)
      all_goals
        refine ⟨_, _, s1, p1, n1, d1, s2, p2, n2, d2, rfl, rfl, ⟨?_, ?_, HV1.out, by omega⟩, ⟨?_, ?_, HV2.out, by omega⟩, hG.later ?_⟩
        · (repeat (first | exact Bx_new (by simp; done) | refine Bx_set (u := .bool false) (v := .slice none 0 0) ?_ | refine Bx_oth ?_ (by have h1 := t1b; have h2 := t2b; have h3 := t1; have h4 := t2; (try simp only [World.size_alloc] at h1 h2); (try simp only [World.size_alloc]); (try dsimp only); omega) | apply Bx_al)); all_goals exact ⟨by simp [go_sem, *], by simp [go_sem, *], by simp [go_sem, *], by simp [go_sem, *]⟩
        · (repeat (first | exact hR12 | apply RN_al | refine RN_st3 hF1' (by have h1 := t1b; have h2 := t2b; have h3 := t1; have h4 := t2; (try simp only [World.size_alloc] at h1 h2); (try simp only [World.size_alloc]); (try dsimp only); omega) ?_ | refine RN_st2 hU1 (by have h1 := t1b; have h2 := t2b; have h3 := t1; have h4 := t2; (try simp only [World.size_alloc] at h1 h2); (try simp only [World.size_alloc]); (try dsimp only); omega) ?_))
        · (repeat (first | exact Bx_new (by simp; done) | refine Bx_set (u := .bool false) (v := .slice none 0 0) ?_ | refine Bx_oth ?_ (by have h1 := t1b; have h2 := t2b; have h3 := t1; have h4 := t2; (try simp only [World.size_alloc] at h1 h2); (try simp only [World.size_alloc]); (try dsimp only); omega) | apply Bx_al)); all_goals exact ⟨by simp [go_sem, *], by simp [go_sem, *], by simp [go_sem, *], by simp [go_sem, *]⟩
        · (repeat (first | exact hR2 | apply RN_al | refine RN_st3 hF2 (by have h1 := t1b; have h2 := t2b; have h3 := t1; have h4 := t2; (try simp only [World.size_alloc] at h1 h2); (try simp only [World.size_alloc]); (try dsimp only); omega) ?_ | refine RN_st2 hR2.lt (by have h1 := t1b; have h2 := t2b; have h3 := t1; have h4 := t2; (try simp only [World.size_alloc] at h1 h2); (try simp only [World.size_alloc]); (try dsimp only); omega) ?_))
        · (repeat (first | exact hW2 | refine Bel_al ?_ (Nat.le_refl _) | refine Bel_st ?_ (by have h1 := t1b; have h2 := t2b; have h3 := t1; have h4 := t2; (try simp only [World.size_alloc] at h1 h2); (try simp only [World.size_alloc]); (try dsimp only); omega)))
    case rest =>
      obtain ⟨g1, g2, s1, p1, n1, d1, s2, p2, n2, d2, rfl, rfl, hx, hy, hG1⟩ := hcut
      clear hG k0 k1 k2 k3 hga hgb
      have hx1 := hx
      have hy1 := hy
      clear hx hy
      have k0 := hG1.a.b.c0
      have k1 := hG1.a.b.c1
      have k2 := hG1.b.b.c0
      have k3 := hG1.b.b.c1
      have k4 := hx1.b.c0
      have k5 := hx1.b.c1
      have k6 := hy1.b.c0
      have k7 := hy1.b.c1
      go_upto_region 4 with fail
      go_region_held3 (fun w' => w'.cell? ⟨w.heap.size, 0, none⟩ = some (.bool sa) ∧ w'.cell? ⟨w.heap.size, 1, none⟩ = some (.slice pa' na' nac') ∧ w'.cell? ⟨w.heap.size + 1, 0, none⟩ = some (.bool sb) ∧ w'.cell? ⟨w.heap.size + 1, 1, none⟩ = some (.slice pb' nb' nbc') ∧ w'.cell? ⟨g1, 0, none⟩ = some (.bool s1) ∧ w'.cell? ⟨g1, 1, none⟩ = some (.slice p1 n1 n1) ∧ w'.cell? ⟨g2, 0, none⟩ = some (.bool s2) ∧ w'.cell? ⟨g2, 1, none⟩ = some (.slice p2 n2 n2)) (first | exact ⟨by assumption, by assumption, by assumption, by assumption, by assumption, by assumption, by assumption, by assumption⟩ | exact keepc8 (by assumption) (by assumption))
        (first
          | (go_at_call 13; refine (Add_any sa sb pa' pb' na' nac' nb' nbc' _ _ _ hG1.a.a.drew hG1.b.a.drew).mono ?_; rintro e v1 ⟨t1, q1, m1, z1, rfl, hN1, hm1, hv1⟩; have hV1 := undrew hv1)
          | (go_at_call 14; refine (rAdd_rn (hx1.r.below hV1) (hy1.r.below hV1) (by have := hx1.l; omega) (by have := hy1.l; omega)).mono ?_; rintro e v2 ⟨t2, q2, m2, z2, rfl, hR2, hv2', hm2, hF2, hv2⟩; have HV2 : Hid (rval t2 z2 = ival sa (xa.take 24) + ival sb (xb.take 24)) := (by show _ = _; rw [hv2', hx1.v, hy1.v]); clear hv2'; have hV2 := bnext' hV1 hv2)
          | (go_at_call 12; have h1 := hN1.below hv2; refine (rIs_rn h1 (by omega) hR2 (by have := hx1.l; have := hy1.l; omega) HV2.out).mono ?_; rintro e v3 ⟨rfl, hv3⟩; have hV3 := bnext' hV2 hv3))
      have hG2 := hG1.later hV3
      have hx2 := hx1.later hV3
      have hy2 := hy1.later hV3
      clear k0 k1 k2 k3 k4 k5 k6 k7 hV1 hV2 hV3 hv1 hv2 hv3 hN1 hm1 hR2 HV2 hm2 hF2 h1 hG1 hx1 hy1
      have k0 := hG2.a.b.c0
      have k1 := hG2.a.b.c1
      have k2 := hG2.b.b.c0
      have k3 := hG2.b.b.c1
      have k4 := hx2.b.c0
      have k5 := hx2.b.c1
      have k6 := hy2.b.c0
      have k7 := hy2.b.c1
      go_upto_region 5 with fail
      go_region_held3 (fun w' => w'.cell? ⟨w.heap.size, 0, none⟩ = some (.bool sa) ∧ w'.cell? ⟨w.heap.size, 1, none⟩ = some (.slice pa' na' nac') ∧ w'.cell? ⟨w.heap.size + 1, 0, none⟩ = some (.bool sb) ∧ w'.cell? ⟨w.heap.size + 1, 1, none⟩ = some (.slice pb' nb' nbc') ∧ w'.cell? ⟨g1, 0, none⟩ = some (.bool s1) ∧ w'.cell? ⟨g1, 1, none⟩ = some (.slice p1 n1 n1) ∧ w'.cell? ⟨g2, 0, none⟩ = some (.bool s2) ∧ w'.cell? ⟨g2, 1, none⟩ = some (.slice p2 n2 n2)) (first | exact ⟨by assumption, by assumption, by assumption, by assumption, by assumption, by assumption, by assumption, by assumption⟩ | exact keepc8 (by assumption) (by assumption))
        (first
          | (go_at_call 15; refine (Sub_any sa sb pa' pb' na' nac' nb' nbc' _ _ _ hG2.a.a.drew hG2.b.a.drew).mono ?_; rintro e v1 ⟨t1, q1, m1, z1, rfl, hN1, hm1, hv1⟩; have hV1 := undrew hv1)
          | (go_at_call 16; refine (rSub_rn (hx2.r.below hV1) (hy2.r.below hV1) (by have := hx2.l; omega) (by have := hy2.l; omega)).mono ?_; rintro e v2 ⟨t2, q2, m2, z2, rfl, hR2, hv2', hm2, hF2, hv2⟩; have HV2 : Hid (rval t2 z2 = ival sa (xa.take 24) - ival sb (xb.take 24)) := (by show _ = _; rw [hv2', hx2.v, hy2.v]); clear hv2'; have hV2 := bnext' hV1 hv2)
          | (go_at_call 12; have h1 := hN1.below hv2; refine (rIs_rn h1 (by omega) hR2 (by have := hx2.l; have := hy2.l; omega) HV2.out).mono ?_; rintro e v3 ⟨rfl, hv3⟩; have hV3 := bnext' hV2 hv3))
      have hG3 := hG2.later hV3
      have hx3 := hx2.later hV3
      have hy3 := hy2.later hV3
      clear k0 k1 k2 k3 k4 k5 k6 k7 hV1 hV2 hV3 hv1 hv2 hv3 hN1 hm1 hR2 HV2 hm2 hF2 h1 hG2 hx2 hy2
      have k0 := hG3.a.b.c0
      have k1 := hG3.a.b.c1
      have k2 := hG3.b.b.c0
      have k3 := hG3.b.b.c1
      have k4 := hx3.b.c0
      have k5 := hx3.b.c1
      have k6 := hy3.b.c0
      have k7 := hy3.b.c1
      go_upto_region 6 with fail
      go_region_held3 (fun w' => w'.cell? ⟨w.heap.size, 0, none⟩ = some (.bool sa) ∧ w'.cell? ⟨w.heap.size, 1, none⟩ = some (.slice pa' na' nac') ∧ w'.cell? ⟨w.heap.size + 1, 0, none⟩ = some (.bool sb) ∧ w'.cell? ⟨w.heap.size + 1, 1, none⟩ = some (.slice pb' nb' nbc') ∧ w'.cell? ⟨g1, 0, none⟩ = some (.bool s1) ∧ w'.cell? ⟨g1, 1, none⟩ = some (.slice p1 n1 n1) ∧ w'.cell? ⟨g2, 0, none⟩ = some (.bool s2) ∧ w'.cell? ⟨g2, 1, none⟩ = some (.slice p2 n2 n2)) (first | exact ⟨by assumption, by assumption, by assumption, by assumption, by assumption, by assumption, by assumption, by assumption⟩ | exact keepc8 (by assumption) (by assumption))
        (first
          | (go_at_call 17; refine (Mul_small sa sb pa' pb' na' nac' nb' nbc' _ _ _ hG3.a.a.drew hG3.b.a.drew (.inl (by omega))).mono ?_; rintro e v1 ⟨t1, q1, m1, z1, rfl, hN1, hm1, hv1⟩; have hV1 := undrew hv1)
          | (go_at_call 18; refine (rMul_rn (hx3.r.below hV1) (hy3.r.below hV1) (by have := hx3.l; omega) (by have := hy3.l; omega)).mono ?_; rintro e v2 ⟨t2, q2, m2, z2, rfl, hR2, hv2', hm2, hF2, hv2⟩; have HV2 : Hid (rval t2 z2 = ival sa (xa.take 24) * ival sb (xb.take 24)) := (by show _ = _; rw [hv2', hx3.v, hy3.v]); clear hv2'; have hV2 := bnext' hV1 hv2)
          | (go_at_call 12; have h1 := hN1.below hv2; refine (rIs_rn h1 (by omega) hR2 (by have := hx3.l; have := hy3.l; omega) HV2.out).mono ?_; rintro e v3 ⟨rfl, hv3⟩; have hV3 := bnext' hV2 hv3))
      have hG4 := hG3.later hV3
      have hx4 := hx3.later hV3
      have hy4 := hy3.later hV3
      clear k0 k1 k2 k3 k4 k5 k6 k7 hV1 hV2 hV3 hv1 hv2 hv3 hN1 hm1 hR2 HV2 hm2 hF2 h1 hG3 hx3 hy3
      have k0 := hG4.a.b.c0
      have k1 := hG4.a.b.c1
      have k2 := hG4.b.b.c0
      have k3 := hG4.b.b.c1
      have k4 := hx4.b.c0
      have k5 := hx4.b.c1
      have k6 := hy4.b.c0
      have k7 := hy4.b.c1
      go_upto_region 7 with fail
      go_region_held3 (fun w' => w'.cell? ⟨w.heap.size, 0, none⟩ = some (.bool sa) ∧ w'.cell? ⟨w.heap.size, 1, none⟩ = some (.slice pa' na' nac') ∧ w'.cell? ⟨w.heap.size + 1, 0, none⟩ = some (.bool sb) ∧ w'.cell? ⟨w.heap.size + 1, 1, none⟩ = some (.slice pb' nb' nbc') ∧ w'.cell? ⟨g1, 0, none⟩ = some (.bool s1) ∧ w'.cell? ⟨g1, 1, none⟩ = some (.slice p1 n1 n1) ∧ w'.cell? ⟨g2, 0, none⟩ = some (.bool s2) ∧ w'.cell? ⟨g2, 1, none⟩ = some (.slice p2 n2 n2)) (first | exact ⟨by assumption, by assumption, by assumption, by assumption, by assumption, by assumption, by assumption, by assumption⟩ | exact keepc8 (by assumption) (by assumption))
        (first
          | (go_at_call 19; refine (Neg_any sa pa' na' nac' _ _ hG4.a.a.drew).mono ?_; rintro e v1 ⟨t1, q1, m1, z1, rfl, hN1, hm1, hv1⟩; have hV1 := undrew hv1)
          | (go_at_call 20; refine (rNeg_rn (hx4.r.below hV1)).mono ?_; rintro e v2 ⟨t2, rfl, hR2, HV0, hv2⟩; have HV2 : Hid (rval t2 d1 = ival (!sa) (xa.take 24)) := (by show _ = _; rw [HV0.out, hx4.v, ival_not]); have hV2 := bnext' hV1 hv2)
          | (go_at_call 12; have h1 := hN1.below hv2; refine (rIs_rn h1 (by omega) hR2 (by have := hx4.l; omega) HV2.out).mono ?_; rintro e v3 ⟨rfl, hv3⟩; have hV3 := bnext' hV2 hv3))
      have hG5 := hG4.later hV3
      have hx5 := hx4.later hV3
      have hy5 := hy4.later hV3
      clear k0 k1 k2 k3 k4 k5 k6 k7 hV1 hV2 hV3 hv1 hv2 hv3 hN1 hm1 hR2 HV2 HV0 h1 hG4 hx4 hy4
      have k0 := hG5.a.b.c0
      have k1 := hG5.a.b.c1
      have k2 := hG5.b.b.c0
      have k3 := hG5.b.b.c1
      have k4 := hx5.b.c0
      have k5 := hx5.b.c1
      have k6 := hy5.b.c0
      have k7 := hy5.b.c1
      go_wp2_with fail
      go_region_held3 (fun w' => w'.cell? ⟨w.heap.size, 0, none⟩ = some (.bool sa) ∧ w'.cell? ⟨w.heap.size, 1, none⟩ = some (.slice pa' na' nac') ∧ w'.cell? ⟨w.heap.size + 1, 0, none⟩ = some (.bool sb) ∧ w'.cell? ⟨w.heap.size + 1, 1, none⟩ = some (.slice pb' nb' nbc') ∧ w'.cell? ⟨g1, 0, none⟩ = some (.bool s1) ∧ w'.cell? ⟨g1, 1, none⟩ = some (.slice p1 n1 n1) ∧ w'.cell? ⟨g2, 0, none⟩ = some (.bool s2) ∧ w'.cell? ⟨g2, 1, none⟩ = some (.slice p2 n2 n2)) (first | exact ⟨by assumption, by assumption, by assumption, by assumption, by assumption, by assumption, by assumption, by assumption⟩ | exact keepc8 (by assumption) (by assumption))
        (first
          | (go_at_call 21; refine (Cmp_any sa sb pa' pb' na' nac' nb' nbc' _ _ _ hG5.a.a.drew hG5.b.a.drew).mono ?_; rintro e v1 ⟨rfl, hv1⟩; have hV1 := undrew hv1)
          | (go_at_call 22; have hc := rCmp_rn (hx5.r.below hV1) (hy5.r.below hV1); rw [hx5.v, hy5.v] at hc; refine hc.mono ?_; clear hc; rintro e v2 ⟨rfl, hv2⟩; have hV2 := bnext' hV1 hv2; have hq1 : (icmp (ival sa (xa.take 24)) (ival sb (xb.take 24)) == icmp (ival sa (xa.take 24)) (ival sb (xb.take 24))) = true := (by simp))
          | (go_at_call 23; refine (Sign_any sa pa' na' nac' _ _ (hG5.a.a.below hV2)).mono ?_; rintro e v3 ⟨rfl, hv3⟩; have hV3 := bnext' hV2 hv3)
          | (go_at_call 24; have hc := rSign_any s1 p1 n1 n1 d1 v3 hx5.r.u hx5.r.nrm; rw [hx5.v] at hc; refine hc.mono ?_; clear hc; rintro e v4 ⟨rfl, hv4⟩; have hV4 := bnext' hV3 hv4; have hq2 : (isgn (ival sa (xa.take 24)) == isgn (ival sa (xa.take 24))) = true := (by simp))
          | (go_at_call 25; refine (Bits_any sa pa' na' nac' _ _ (hG5.a.a.below hV4)).mono ?_; rintro e v5 ⟨rfl, hv5⟩; have hV5 := bnext' hV4 hv5)
          | (go_at_call 26; refine (rBits_any s1 p1 n1 n1 d1 _ hx5.r.len (by have := hx5.l; omega) hx5.r.nrm (hx5.r.rd.below hV5) hx5.r.u).mono ?_; rintro e v6 ⟨bb, rfl, HIB, hv6⟩; have hV6 := bnext' hV5 hv6; have hq3 : (nbits (xa.take 24) == (bb : Int)) = true := (by rw [bits_same hG5.a.a.u (vd_val hx5.v hx5.r.u hG5.a.a.u) HIB.out]; simp)))
      have hG6 := hG5.later hV6
      go_wp2
      go_ret
      exact ⟨rfl, hG6.bel⟩
end Go.Proofs.YtgjgdhihpdpmcaaDoor
