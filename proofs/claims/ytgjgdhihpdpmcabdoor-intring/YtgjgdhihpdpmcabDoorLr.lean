/-
  ashlarlaw1.IntRing: for all three numbers the law's answer is true.
-/
import Derived.Test.YtgjgdhihpdpmcabDoorBh
import Derived.Test.YtgjgdhihpdpmcabDoorCx
namespace Go.Proofs.YtgjgdhihpdpmcabDoor
open Go.RowKit
set_option linter.unusedVariables false
set_option linter.unusedSimpArgs false

/-- Three numbers in variables of their own, behind Cut. -/
structure C3 (w wc : World) (sa sb sc : Bool) (pa pb pc : Option Addr) (na nac nb nbc nc ncc : Nat) (xa xb xc : List Int) : Prop where
  a : Vr wc w.heap.size sa pa na nac (w.heap.size + 1 + 1 + 1) xa
  b : Vr wc (w.heap.size + 1) sb pb nb nbc (w.heap.size + 1 + 1 + 1) xb
  c : Vr wc (w.heap.size + 1 + 1) sc pc nc ncc (w.heap.size + 1 + 1 + 1) xc
  la : na ≤ 24
  lb : nb ≤ 24
  lc : nc ≤ 24
  bel : Below w.heap.size w wc
theorem C3.later {w wc w' : World} {sa sb sc : Bool} {pa pb pc : Option Addr} {na nac nb nbc nc ncc : Nat} {xa xb xc : List Int} (h : C3 w wc sa sb sc pa pb pc na nac nb nbc nc ncc xa xb xc) (hb : Below wc.heap.size wc w') : C3 w w' sa sb sc pa pb pc na nac nb nbc nc ncc xa xb xc :=
  ⟨h.a.later hb, h.b.later hb, h.c.later hb, h.la, h.lb, h.lc, bnext h.bel (Nat.le_refl _) hb⟩

set_option maxHeartbeats 4000000 in
theorem IntRing_walk (sa sb sc : Bool) (pa pb pc : Option Addr) (na nac nb nbc nc ncc : Nat) (xa xb xc : List Int) (w : World)
    (hla : xa.length = na) (hnca : na ≤ nac) (hba : nac ≤ maxLen) (hXa : Rd w pa .u32 xa) (hUa : U32 xa) (hpa : pa = none → nac = 0)
    (hlb : xb.length = nb) (hncb : nb ≤ nbc) (hbb : nbc ≤ maxLen) (hXb : Rd w pb .u32 xb) (hUb : U32 xb) (hpb : pb = none → nbc = 0)
    (hlc : xc.length = nc) (hncc : nc ≤ ncc) (hbc : ncc ≤ maxLen) (hXc : Rd w pc .u32 xc) (hUc : U32 xc) (hpc : pc = none → ncc = 0) :
    Calls Tryd.prog 4 #[.agg #[.bool sa, .slice pa na nac], .agg #[.bool sb, .slice pb nb nbc], .agg #[.bool sc, .slice pc nc ncc]] w fun e w' => e = .returned (.bool true) ∧ Below w.heap.size w w' := by
  go_enter Tryd.func4, Tryd.ntmps4
  go_upto_region 2 with (go_at_call 6; refine (begun_any _).mono ?_; rintro e w1 ⟨rfl, hb1⟩)
  have hA0 : Bx (((w.alloc (.cells #[.bool sa, .slice pa na nac] 24)).alloc (.cells #[.bool sb, .slice pb nb nbc] 24)).alloc (.cells #[.bool sc, .slice pc nc ncc] 24)) w.heap.size (.bool sa) (.slice pa na nac) := ((Bx.new _ _ _ rfl).alloc _).alloc _
  have hB0 : Bx (((w.alloc (.cells #[.bool sa, .slice pa na nac] 24)).alloc (.cells #[.bool sb, .slice pb nb nbc] 24)).alloc (.cells #[.bool sc, .slice pc nc ncc] 24)) (w.heap.size + 1) (.bool sb) (.slice pb nb nbc) := (Bx.new _ _ _ (World.size_alloc ..).symm).alloc _
  have hC0 : Bx (((w.alloc (.cells #[.bool sa, .slice pa na nac] 24)).alloc (.cells #[.bool sb, .slice pb nb nbc] 24)).alloc (.cells #[.bool sc, .slice pc nc ncc] 24)) (w.heap.size + 1 + 1) (.bool sc) (.slice pc nc ncc) := Bx.new _ _ _ (by rw [World.size_alloc, World.size_alloc])
  have hbw : Below w.heap.size w (((w.alloc (.cells #[.bool sa, .slice pa na nac] 24)).alloc (.cells #[.bool sb, .slice pb nb nbc] 24)).alloc (.cells #[.bool sc, .slice pc nc ncc] 24)) := (((Below.refl _ _).alloc (Nat.le_refl _) _).alloc (by simp) _).alloc (by simp; omega) _
  have hsz : w.heap.size + 1 + 1 + 1 ≤ (((w.alloc (.cells #[.bool sa, .slice pa na nac] 24)).alloc (.cells #[.bool sb, .slice pb nb nbc] 24)).alloc (.cells #[.bool sc, .slice pc nc ncc] 24)).heap.size := by simp
  generalize (((w.alloc (.cells #[.bool sa, .slice pa na nac] 24)).alloc (.cells #[.bool sb, .slice pb nb nbc] 24)).alloc (.cells #[.bool sc, .slice pc nc ncc] 24)) = W0 at *
  have hA1 := hA0.later hb1
  have hB1 := hB0.later hb1
  have hC1 := hC0.later hb1
  have hbw1 := bnext hbw (Nat.le_refl _) hb1
  have hsz1 : w.heap.size + 1 + 1 + 1 ≤ w1.heap.size := Nat.le_trans hsz hb1.size
  clear hA0 hB0 hC0 hbw hsz hb1
  go_cut [] (fun wc => ∃ pa' na' nac' pb' nb' nbc' pc' nc' ncc', C3 w wc sa sb sc pa' pb' pc' na' nac' nb' nbc' nc' ncc' (xa.take 24) (xb.take 24) (xc.take 24))
  case first =>
    have a0 := hA1.c0
    have a1 := hA1.c1
    have b0 := hB1.c0
    have b1 := hB1.c1
    have c0 := hC1.c0
    have c1 := hC1.c1
    go_region_with (first
      | (go_at_call_of 7 (Value.agg #[.bool sa, .slice pa na nac]); refine (Cut_any sa pa na nac xa _ hla hnca hba (hXa.below hbw1).drew hUa hpa).mono ?_; rintro e w2 ⟨pa', na', nac', rfl, hA, hna24, hFa, hb2⟩; have hA2 := hA1.later (undrew hb2); have hB2 := hB1.later (undrew hb2); have hC2 := hC1.later (undrew hb2); have b20 := hB2.c0; have b21 := hB2.c1; have c20 := hC2.c0; have c21 := hC2.c1)
      | (go_at_call_of 7 (Value.agg #[.bool sb, .slice pb nb nbc]); refine (Cut_any sb pb nb nbc xb _ hlb hncb hbb ((hXb.below hbw1).drew.below hb2) hUb hpb).mono ?_; rintro e w3 ⟨pb', nb', nbc', rfl, hB, hnb24, hFb, hb3⟩; have hA3 := hA2.later hb3; have hB3 := hB2.later hb3; have hC3 := hC2.later hb3; have c30 := hC3.c0; have c31 := hC3.c1)
      | (go_at_call_of 7 (Value.agg #[.bool sc, .slice pc nc ncc]); refine (Cut_any sc pc nc ncc xc _ hlc hncc hbc (((hXc.below hbw1).drew.below hb2).below hb3) hUc hpc).mono ?_; rintro e w4 ⟨pc', nc', ncc', rfl, hC, hnc24, hFc, hb4⟩; have hA4 := hA3.later hb4; have hB4 := hB3.later hb4; have hC4 := hC3.later hb4; have a40 := hA4.c0; have a41 := hA4.c1; have b40 := hB4.c0; have b41 := hB4.c1; have c40 := hC4.c0; have c41 := hC4.c1; have fa0 := hA4.f0; have fa1 := hA4.f1; have fb0 := hB4.f0; have fb1 := hB4.f1; have fc0 := hC4.f0; have fc1 := hC4.f1))
    all_goals (go_wp2_with fail; go_meet)
    all_goals
      have s2 := hb2.size
      have s3 := hb3.size
      have s4 := hb4.size
      have e1 : w1.drew.heap.size = w1.heap.size := rfl
      refine ⟨pa', na', nac', pb', nb', nbc', pc', nc', ncc', ⟨?_, ?_, ?_⟩, ⟨?_, ?_, ?_⟩, ⟨?_, ?_, ?_⟩, hna24, hnb24, hnc24, ?_⟩
      · exact Bx_oth (Bx_oth (Bx_set hA4) (by omega)) (by omega)
      · exact ((((hA.below hb3).below hb4).set2 hFa (by omega) _ _).set2 hFa (by omega) _ _).set2 hFa (by omega) _ _
      · exact hFa.mono (by omega)
      · exact Bx_oth (Bx_set (Bx_oth hB4 (by omega))) (by omega)
      · exact (((hB.below hb4).set2 hFb (by omega) _ _).set2 hFb (by omega) _ _).set2 hFb (by omega) _ _
      · exact hFb.mono (by omega)
      · exact Bx_set (Bx_oth (Bx_oth hC4 (by omega)) (by omega))
      · exact ((hC.set2 hFc (by omega) _ _).set2 hFc (by omega) _ _).set2 hFc (by omega) _ _
      · exact hFc.mono (by omega)
      · exact bset2 (bset2 (bset2 (bnext (bnext (bnext hbw1 (Nat.le_refl _) (undrew hb2)) (Nat.le_refl _) hb3) (Nat.le_refl _) hb4) (by omega) _ _) (by omega) _ _) (by omega) _ _
  case rest =>
    obtain ⟨pa', na', nac', pb', nb', nbc', pc', nc', ncc', hG⟩ := hcut
    clear hA1 hB1 hC1 hbw1 hsz1
    have la := hG.la
    have lb := hG.lb
    have lc := hG.lc
    have k0 := hG.a.b.c0
    have k1 := hG.a.b.c1
    have k2 := hG.b.b.c0
    have k3 := hG.b.b.c1
    have k4 := hG.c.b.c0
    have k5 := hG.c.b.c1
    go_upto_region 3 with fail
    go_region_held3 (fun w' => w'.cell? ⟨w.heap.size, 0, none⟩ = some (.bool sa) ∧ w'.cell? ⟨w.heap.size, 1, none⟩ = some (.slice pa' na' nac') ∧ w'.cell? ⟨w.heap.size + 1, 0, none⟩ = some (.bool sb) ∧ w'.cell? ⟨w.heap.size + 1, 1, none⟩ = some (.slice pb' nb' nbc') ∧ w'.cell? ⟨w.heap.size + 1 + 1, 0, none⟩ = some (.bool sc) ∧ w'.cell? ⟨w.heap.size + 1 + 1, 1, none⟩ = some (.slice pc' nc' ncc')) (first | exact ⟨by assumption, by assumption, by assumption, by assumption, by assumption, by assumption⟩ | exact keepc6 (by assumption) (by assumption))
      (first
        | (go_at_call_of 16 (Value.agg #[.bool sb, .slice pb' nb' nbc']); refine (Add_any sb sc pb' pc' nb' nbc' nc' ncc' _ _ _ hG.b.a.drew hG.c.a.drew).mono ?_; rintro e v1 ⟨s1, p1, n1, z1, rfl, hN1, hn1, hv1⟩; have hV1 := undrew hv1)
        | (go_at_call_of 15 (Value.agg #[.bool s1, .slice p1 n1 n1]); refine (Mul_small sa s1 pa' p1 na' nac' n1 n1 _ _ _ (hG.a.a.below hV1) (hN1.ai (by omega)) (.inl (by omega))).mono ?_; rintro e v2 ⟨s2, p2, n2, z2, rfl, hN2, hn2, hv2⟩; have hV2 := bnext' hV1 hv2)
        | (go_at_call_of 15 (Value.agg #[.bool sb, .slice pb' nb' nbc']); refine (Mul_small sa sb pa' pb' na' nac' nb' nbc' _ _ _ (hG.a.a.below hV2) (hG.b.a.below hV2) (.inl (by omega))).mono ?_; rintro e v3 ⟨s3, p3, n3, z3, rfl, hN3, hn3, hv3⟩; have hV3 := bnext' hV2 hv3)
        | (go_at_call_of 15 (Value.agg #[.bool sc, .slice pc' nc' ncc']); refine (Mul_small sa sc pa' pc' na' nac' nc' ncc' _ _ _ (hG.a.a.below hV3) (hG.c.a.below hV3) (.inl (by omega))).mono ?_; rintro e v4 ⟨s4, p4, n4, z4, rfl, hN4, hn4, hv4⟩; have hV4 := bnext' hV3 hv4)
        | (go_at_call_of 16 (Value.agg #[.bool s3, .slice p3 n3 n3]); refine (Add_any s3 s4 p3 p4 n3 n3 n4 n4 _ _ _ ((hN3.below hv4).ai (by omega)) (hN4.ai (by omega))).mono ?_; rintro e v5 ⟨s5, p5, n5, z5, rfl, hN5, hn5, hv5⟩; have hV5 := bnext' hV4 hv5)
        | (go_at_call 14; refine (rEq_ni (z := ival sa (xa.take 24) * (ival sb (xb.take 24) + ival sc (xc.take 24))) (by have := ((hN2.below hv3).below hv4).below hv5; rwa [hN1.v] at this) (by have := hN5; rwa [hN3.v, hN4.v, ← Int.mul_add] at this) (by omega)).mono ?_; rintro e v6 ⟨rfl, hv6⟩; have hV6 := bnext' hV5 hv6))
    have hG1 := hG.later hV6
    clear k0 k1 k2 k3 k4 k5 hV1 hV2 hV3 hV4 hV5 hV6 hv1 hv2 hv3 hv4 hv5 hv6 hN1 hN2 hN3 hN4 hN5 hn1 hn2 hn3 hn4 hn5 hG
    have k0 := hG1.a.b.c0
    have k1 := hG1.a.b.c1
    have k2 := hG1.b.b.c0
    have k3 := hG1.b.b.c1
    have k4 := hG1.c.b.c0
    have k5 := hG1.c.b.c1
    go_upto_region 4 with fail
    go_region_held3 (fun w' => w'.cell? ⟨w.heap.size, 0, none⟩ = some (.bool sa) ∧ w'.cell? ⟨w.heap.size, 1, none⟩ = some (.slice pa' na' nac') ∧ w'.cell? ⟨w.heap.size + 1, 0, none⟩ = some (.bool sb) ∧ w'.cell? ⟨w.heap.size + 1, 1, none⟩ = some (.slice pb' nb' nbc') ∧ w'.cell? ⟨w.heap.size + 1 + 1, 0, none⟩ = some (.bool sc) ∧ w'.cell? ⟨w.heap.size + 1 + 1, 1, none⟩ = some (.slice pc' nc' ncc')) (first | exact ⟨by assumption, by assumption, by assumption, by assumption, by assumption, by assumption⟩ | exact keepc6 (by assumption) (by assumption))
      (first
        | (go_at_call_of 15 (Value.agg #[.bool sa, .slice pa' na' nac']); go_at_call_of 15 (Value.agg #[.bool sb, .slice pb' nb' nbc']); refine (Mul_small sa sb pa' pb' na' nac' nb' nbc' _ _ _ hG1.a.a.drew hG1.b.a.drew (.inl (by omega))).mono ?_; rintro e v1 ⟨s1, p1, n1, z1, rfl, hN1, hn1, hv1⟩; have hV1 := undrew hv1)
        | (go_at_call_of 15 (Value.agg #[.bool s1, .slice p1 n1 n1]); refine (Mul_small s1 sc p1 pc' n1 n1 nc' ncc' _ _ _ (hN1.ai (by omega)) (hG1.c.a.below hV1) (.inl (by omega))).mono ?_; rintro e v2 ⟨s2, p2, n2, z2, rfl, hN2, hn2, hv2⟩; have hV2 := bnext' hV1 hv2)
        | (go_at_call_of 15 (Value.agg #[.bool sb, .slice pb' nb' nbc']); refine (Mul_small sb sc pb' pc' nb' nbc' nc' ncc' _ _ _ (hG1.b.a.below hV2) (hG1.c.a.below hV2) (.inl (by omega))).mono ?_; rintro e v3 ⟨s3, p3, n3, z3, rfl, hN3, hn3, hv3⟩; have hV3 := bnext' hV2 hv3)
        | (go_at_call_of 15 (Value.agg #[.bool s3, .slice p3 n3 n3]); refine (Mul_small sa s3 pa' p3 na' nac' n3 n3 _ _ _ (hG1.a.a.below hV3) (hN3.ai (by omega)) (.inl (by omega))).mono ?_; rintro e v4 ⟨s4, p4, n4, z4, rfl, hN4, hn4, hv4⟩; have hV4 := bnext' hV3 hv4)
        | (go_at_call 14; refine (rEq_ni (z := ival sa (xa.take 24) * (ival sb (xb.take 24) * ival sc (xc.take 24))) (by have := (hN2.below hv3).below hv4; rwa [hN1.v, Int.mul_assoc] at this) (by have := hN4; rwa [hN3.v] at this) (by omega)).mono ?_; rintro e v6 ⟨rfl, hv6⟩; have hV6 := bnext' hV4 hv6))
    have hG2 := hG1.later hV6
    clear k0 k1 k2 k3 k4 k5 hV1 hV2 hV3 hV4 hV6 hv1 hv2 hv3 hv4 hv6 hN1 hN2 hN3 hN4 hn1 hn2 hn3 hn4 hG1
    have k0 := hG2.a.b.c0
    have k1 := hG2.a.b.c1
    have k2 := hG2.b.b.c0
    have k3 := hG2.b.b.c1
    have k4 := hG2.c.b.c0
    have k5 := hG2.c.b.c1
    go_upto_region 5 with fail
    go_region_held3 (fun w' => w'.cell? ⟨w.heap.size, 0, none⟩ = some (.bool sa) ∧ w'.cell? ⟨w.heap.size, 1, none⟩ = some (.slice pa' na' nac') ∧ w'.cell? ⟨w.heap.size + 1, 0, none⟩ = some (.bool sb) ∧ w'.cell? ⟨w.heap.size + 1, 1, none⟩ = some (.slice pb' nb' nbc') ∧ w'.cell? ⟨w.heap.size + 1 + 1, 0, none⟩ = some (.bool sc) ∧ w'.cell? ⟨w.heap.size + 1 + 1, 1, none⟩ = some (.slice pc' nc' ncc')) (first | exact ⟨by assumption, by assumption, by assumption, by assumption, by assumption, by assumption⟩ | exact keepc6 (by assumption) (by assumption))
      (first
        | (go_at_call_of 16 (Value.agg #[.bool sa, .slice pa' na' nac']); go_at_call_of 16 (Value.agg #[.bool sb, .slice pb' nb' nbc']); refine (Add_any sa sb pa' pb' na' nac' nb' nbc' _ _ _ hG2.a.a.drew hG2.b.a.drew).mono ?_; rintro e v1 ⟨s1, p1, n1, z1, rfl, hN1, hn1, hv1⟩; have hV1 := undrew hv1)
        | (go_at_call 17; refine (Sub_any s1 sb p1 pb' n1 n1 nb' nbc' _ _ _ (hN1.ai (by omega)) (hG2.b.a.below hV1)).mono ?_; rintro e v2 ⟨s2, p2, n2, z2, rfl, hN2, hn2, hv2⟩; have hV2 := bnext' hV1 hv2)
        | (go_at_call 18; refine (Of_any 0 _ (by decide) (by decide)).mono ?_; rintro e v3 ⟨s3, p3, n3, z3, rfl, hN3, hn3, hv3⟩; have hV3 := bnext' hV2 hv3)
        | (go_at_call_of 16 (Value.agg #[.bool s3, .slice p3 n3 n3]); refine (Add_any sa s3 pa' p3 na' nac' n3 n3 _ _ _ (hG2.a.a.below hV3) (hN3.ai (by omega))).mono ?_; rintro e v4 ⟨s4, p4, n4, z4, rfl, hN4, hn4, hv4⟩; have hV4 := bnext' hV3 hv4)
        | (go_at_call 14; refine (rEq_ni (z := ival sa (xa.take 24)) (by have := (hN2.below hv3).below hv4; rwa [hN1.v, show ival sa (xa.take 24) + ival sb (xb.take 24) - ival sb (xb.take 24) = ival sa (xa.take 24) by omega] at this) (by have := hN4; rwa [hN3.v, Int.add_zero] at this) (by omega)).mono ?_; rintro e v6 ⟨rfl, hv6⟩; have hV6 := bnext' hV4 hv6))
    have hG3 := hG2.later hV6
    go_wp2
    go_ret
    exact ⟨rfl, hG3.bel⟩
end Go.Proofs.YtgjgdhihpdpmcabDoor
