/-
  ashlarlaw1.IntQuo: for all two numbers the law's answer is true.
-/
import Derived.Test.YtgjgdhihpdpmcaaDoorBh
import Derived.Test.YtgjgdhihpdpmcaaDoorRm
import Derived.Test.YtgjgdhihpdpmcaaDoorRs
import Derived.Test.YtgjgdhihpdpmcaaDoorCz
import Derived.Test.YtgjgdhihpdpmcaaDoorRv
import Derived.Test.YtgjgdhihpdpmcaaDoorQh
namespace Go.Proofs.YtgjgdhihpdpmcaaDoor
open Go.RowKit
set_option linter.unusedVariables false
set_option linter.unusedSimpArgs false

/-- A longer reference number in a variable of its own, with its value. -/
structure Vw (w : World) (g : Nat) (s : Bool) (p : Option Addr) (n : Nat) (ds : List Int) (z : Int) : Prop where
  b : Bx w g (.bool s) (.slice p n n)
  r : RN w s p n ds
  v : rval s ds = z
  l : n ≤ 120
theorem Vw.later {w w' : World} {g : Nat} {s : Bool} {p : Option Addr} {n : Nat} {ds : List Int} {z : Int} (h : Vw w g s p n ds z) (hb : Below w.heap.size w w') : Vw w' g s p n ds z := ⟨h.b.later hb, h.r.below hb, h.v, h.l⟩
/-- A number in a variable of its own, with its value. -/
structure Nx (w : World) (g : Nat) (s : Bool) (p : Option Addr) (n : Nat) (xs : List Int) (z : Int) : Prop where
  b : Bx w g (.bool s) (.slice p n n)
  i : NI 0 w s p n xs z
  l : n ≤ 60
theorem Nx.later {w w' : World} {g : Nat} {s : Bool} {p : Option Addr} {n : Nat} {xs : List Int} {z : Int} (h : Nx w g s p n xs z) (hb : Below w.heap.size w w') : Nx w' g s p n xs z := ⟨h.b.later hb, h.i.below hb, h.l⟩

set_option maxRecDepth 100000 in
set_option maxHeartbeats 16000000 in
theorem IntQuo_walk (sa sb : Bool) (pa pb : Option Addr) (na nac nb nbc : Nat) (xa xb : List Int) (w : World)
    (hla : xa.length = na) (hnca : na ≤ nac) (hba : nac ≤ maxLen) (hXa : Rd w pa .u32 xa) (hUa : U32 xa) (hpa : pa = none → nac = 0)
    (hlb : xb.length = nb) (hncb : nb ≤ nbc) (hbb : nbc ≤ maxLen) (hXb : Rd w pb .u32 xb) (hUb : U32 xb) (hpb : pb = none → nbc = 0) :
    Calls Tryd.prog 4 #[.agg #[.bool sa, .slice pa na nac], .agg #[.bool sb, .slice pb nb nbc]] w fun e w' => e = .returned (.bool true) ∧ Below w.heap.size w w' := by
  go_enter Tryd.func4, Tryd.ntmps4
  go_upto_region 2 with (go_at_call 9; refine (begun_any _).mono ?_; rintro e w1 ⟨rfl, hb1⟩)
  have hA0 : Bx ((w.alloc (.cells #[.bool sa, .slice pa na nac] 24)).alloc (.cells #[.bool sb, .slice pb nb nbc] 24)) w.heap.size (.bool sa) (.slice pa na nac) := (Bx.new _ _ _ rfl).alloc _
  have hB0 : Bx ((w.alloc (.cells #[.bool sa, .slice pa na nac] 24)).alloc (.cells #[.bool sb, .slice pb nb nbc] 24)) (w.heap.size + 1) (.bool sb) (.slice pb nb nbc) := Bx.new _ _ _ (World.size_alloc ..).symm
  have hbw : Below w.heap.size w ((w.alloc (.cells #[.bool sa, .slice pa na nac] 24)).alloc (.cells #[.bool sb, .slice pb nb nbc] 24)) := ((Below.refl _ _).alloc (Nat.le_refl _) _).alloc (by simp) _
  have hsz : w.heap.size + 1 + 1 ≤ ((w.alloc (.cells #[.bool sa, .slice pa na nac] 24)).alloc (.cells #[.bool sb, .slice pb nb nbc] 24)).heap.size := by simp
  generalize ((w.alloc (.cells #[.bool sa, .slice pa na nac] 24)).alloc (.cells #[.bool sb, .slice pb nb nbc] 24)) = W0 at *
  have hA1 := hA0.later hb1
  have hB1 := hB0.later hb1
  have hbw1 := bnext hbw (Nat.le_refl _) hb1
  have hsz1 : w.heap.size + 1 + 1 ≤ w1.heap.size := Nat.le_trans hsz hb1.size
  clear hA0 hB0 hbw hsz hb1
  go_cut [] (fun wc => ∃ pa' na' nac' pb' nb' nbc', C2 w wc sa sb pa' pb' na' nac' nb' nbc' (xa.take 24) (xb.take 24))
  case first =>
    have a0 := hA1.c0
    have a1 := hA1.c1
    have b0 := hB1.c0
    have b1 := hB1.c1
    go_region_with (first
      | (go_at_call_of 10 (Value.agg #[.bool sa, .slice pa na nac]); refine (Cut_any sa pa na nac xa _ hla hnca hba (hXa.below hbw1).drew hUa hpa).mono ?_; rintro e w2 ⟨pa', na', nac', rfl, hA, hna24, hFa, hb2⟩; have hA2 := hA1.later (undrew hb2); have hB2 := hB1.later (undrew hb2); have b20 := hB2.c0; have b21 := hB2.c1)
      | (go_at_call_of 10 (Value.agg #[.bool sb, .slice pb nb nbc]); refine (Cut_any sb pb nb nbc xb _ hlb hncb hbb ((hXb.below hbw1).drew.below hb2) hUb hpb).mono ?_; rintro e w3 ⟨pb', nb', nbc', rfl, hB, hnb24, hFb, hb3⟩; have hA3 := hA2.later hb3; have hB3 := hB2.later hb3; have a40 := hA3.c0; have a41 := hA3.c1; have b40 := hB3.c0; have b41 := hB3.c1; have fa0 := hA3.f0; have fa1 := hA3.f1; have fb0 := hB3.f0; have fb1 := hB3.f1))
    all_goals (go_wp2_with fail; go_meet)
    all_goals
      have s2 := hb2.size
      have s3 := hb3.size
      have e1 : w1.drew.heap.size = w1.heap.size := rfl
      refine ⟨pa', na', nac', pb', nb', nbc', ⟨?_, ?_, ?_⟩, ⟨?_, ?_, ?_⟩, hna24, hnb24, ?_⟩
      · exact Bx_oth (Bx_set hA3) (by omega)
      · exact ((hA.below hb3).set2 hFa (by omega) _ _).set2 hFa (by omega) _ _
      · exact hFa.mono (by omega)
      · exact Bx_set (Bx_oth hB3 (by omega))
      · exact (hB.set2 hFb (by omega) _ _).set2 hFb (by omega) _ _
      · exact hFb.mono (by omega)
      · exact bset2 (bset2 (bnext (bnext hbw1 (Nat.le_refl _) (undrew hb2)) (Nat.le_refl _) hb3) (by omega) _ _) (by omega) _ _
  case rest =>
    obtain ⟨pa', na', nac', pb', nb', nbc', hG⟩ := hcut
    clear hA1 hB1 hbw1 hsz1
    have la := hG.la
    have lb := hG.lb
    have k0 := hG.a.b.c0
    have k1 := hG.a.b.c1
    have k2 := hG.b.b.c0
    have k3 := hG.b.b.c1
    go_wp2_with fail
    have hga : w.heap.size < wc.heap.size := block_lt_of_cell k0
    have hgb : w.heap.size + 1 < wc.heap.size := block_lt_of_cell k2
    go_cut [6, 7] (fun xv yv w3 => ∃ (g1 g2 : Nat) (s1 : Bool) (p1 : Option Addr) (n1 : Nat) (d1 : List Int) (s2 : Bool) (p2 : Option Addr) (n2 : Nat) (d2 : List Int), xv = .pointer (some ⟨g1, 0, none⟩) ∧ yv = .pointer (some ⟨g2, 0, none⟩) ∧ Vx w3 g1 s1 p1 n1 d1 (ival sa (xa.take 24)) ∧ Vx w3 g2 s2 p2 n2 d2 (ival sb (xb.take 24)) ∧ C2 w w3 sa sb pa' pb' na' nac' nb' nbc' (xa.take 24) (xb.take 24))
    case first =>
      go_region_held3 (fun w' => w'.cell? ⟨w.heap.size, 0, none⟩ = some (.bool sa) ∧ w'.cell? ⟨w.heap.size, 1, none⟩ = some (.slice pa' na' nac') ∧ w'.cell? ⟨w.heap.size + 1, 0, none⟩ = some (.bool sb) ∧ w'.cell? ⟨w.heap.size + 1, 1, none⟩ = some (.slice pb' nb' nbc')) (first | with_reducible exact keepc4 ⟨y0, y1, y2, y3⟩ (bel_al (bel_al (Below.refl _ _))) | with_reducible exact keepc4 ⟨y0, y1, y2, y3⟩ (bel_al (Below.refl _ _)) | with_reducible exact ⟨y0, y1, y2, y3⟩ | with_reducible exact s4set (keepc4 ⟨y0, y1, y2, y3⟩ (bel_al (Below.refl _ _))) (by omega) (by omega) | with_reducible exact s4set ⟨y0, y1, y2, y3⟩ (by omega) (by omega) | with_reducible exact s4set (s4set ⟨y0, y1, y2, y3⟩ (by omega) (by omega)) (by omega) (by omega) | with_reducible exact keepc4 ⟨q0, q1, q2, q3⟩ (bel_al (bel_al (Below.refl _ _))) | with_reducible exact keepc4 ⟨q0, q1, q2, q3⟩ (bel_al (Below.refl _ _)) | with_reducible exact ⟨q0, q1, q2, q3⟩ | with_reducible exact keepc4 ⟨k0, k1, k2, k3⟩ (Below.drew (Below.refl _ _)) | with_reducible exact keepc4 ⟨k0, k1, k2, k3⟩ (Below.drew (bel_al (Below.refl _ _))) | with_reducible exact keepc4 ⟨k0, k1, k2, k3⟩ (Below.drew (bel_al (bel_al (Below.refl _ _)))) | (simp [go_sem, *]; done))
        (first
          | (go_at_call_of 11 (Value.agg #[.bool sa, .slice pa' na' nac']); refine (From_ansF sa pa' na' nac' (xa.take 24) _ (hG.a.a.below (by first | exact (Below.refl _ _).drew | exact (bel_al (Below.refl _ _)).drew | exact (bel_al (bel_al (Below.refl _ _))).drew))).mono ?_; rintro e x1 ⟨s1, p1, n1, d1, rfl, hR1, hV1, hn1, hF1, hx1⟩; have HV1 : Hid (rval s1 d1 = ival sa (xa.take 24)) := hV1; clear hV1; have hF1' := unfr hF1; have hB1 := undrew hx1; have hW1 := comp (X2 := wc) (w2 := wc) (Below.refl _ _) (by (repeat apply bel_al); exact Below.refl _ _) hB1; obtain ⟨hc1, hf1, hz1, -, -⟩ := brules hB1; obtain ⟨o1, o2, o3, o4⟩ := bne hB1; have q0 := cell_later hW1 k0; have q1 := cell_later hW1 k1; have q2 := cell_later hW1 k2; have q3 := cell_later hW1 k3; have r1 := Nat.lt_of_lt_of_le hga hW1.size; have r2 := Nat.lt_of_lt_of_le hgb hW1.size; have t1 := hW1.size; have t1b := hB1.size; have hU1 := hR1.lt)
          | (go_at_call_of 11 (Value.agg #[.bool sb, .slice pb' nb' nbc']); refine (From_ansF sb pb' nb' nbc' (xb.take 24) _ (hG.b.a.below (by (repeat apply bel_al); exact hW1))).mono ?_; rintro e x2 ⟨s2, p2, n2, d2, rfl, hR2, hV2, hn2, hF2, hx2⟩; have HV2 : Hid (rval s2 d2 = ival sb (xb.take 24)) := hV2; clear hV2; have hb12 := comp hB1 (by (repeat apply bel_al); exact Below.refl _ _) hx2; have hW2 := comp hW1 (by (repeat apply bel_al); exact Below.refl _ _) hx2; have hR12 := hR1.below (comp (X2 := x1) (w2 := x1) (Below.refl _ _) (by (repeat apply bel_al); exact Below.refl _ _) hx2); obtain ⟨hc3, hf3, hz3, -, -⟩ := brules hx2; obtain ⟨hc4, hf4, hz4, -, -⟩ := brules hb12; obtain ⟨m1, m2, m3, m4⟩ := bne hx2; obtain ⟨m5, m6, m7, m8⟩ := bne hb12; have y0 := cell_later hW2 k0; have y1 := cell_later hW2 k1; have y2 := cell_later hW2 k2; have y3 := cell_later hW2 k3; have r3 := Nat.lt_of_lt_of_le hga hW2.size; have r4 := Nat.lt_of_lt_of_le hgb hW2.size; have t2 := hW2.size; have t2b := hx2.size))
      all_goals (go_wp2_with fail; go_meet)
      all_goals
        refine ⟨_, _, s1, p1, n1, d1, s2, p2, n2, d2, rfl, rfl, ⟨?_, ?_, HV1.out, by omega⟩, ⟨?_, ?_, HV2.out, by omega⟩, hG.later ?_⟩
        · (repeat (first | exact Bx_new (by simp; done) | refine Bx_set (u := .bool false) (v := .slice none 0 0) ?_ | refine Bx_oth ?_ (by have h1 := t1b; have h2 := t2b; have h3 := t1; have h4 := t2; (try simp only [World.size_alloc] at h1 h2); (try simp only [World.size_alloc]); (try dsimp only); omega) | apply Bx_al)); all_goals exact ⟨by simp [go_sem, *], by simp [go_sem, *], by simp [go_sem, *], by simp [go_sem, *]⟩
        · (repeat (first | exact hR12 | apply RN_al | refine RN_st3 hF1' (by have h1 := t1b; have h2 := t2b; have h3 := t1; have h4 := t2; (try simp only [World.size_alloc] at h1 h2); (try simp only [World.size_alloc]); (try dsimp only); omega) ?_ | refine RN_st2 hU1 (by have h1 := t1b; have h2 := t2b; have h3 := t1; have h4 := t2; (try simp only [World.size_alloc] at h1 h2); (try simp only [World.size_alloc]); (try dsimp only); omega) ?_))
        · (repeat (first | exact Bx_new (by simp; done) | refine Bx_set (u := .bool false) (v := .slice none 0 0) ?_ | refine Bx_oth ?_ (by have h1 := t1b; have h2 := t2b; have h3 := t1; have h4 := t2; (try simp only [World.size_alloc] at h1 h2); (try simp only [World.size_alloc]); (try dsimp only); omega) | apply Bx_al)); all_goals exact ⟨by simp [go_sem, *], by simp [go_sem, *], by simp [go_sem, *], by simp [go_sem, *]⟩
        · (repeat (first | exact hR2 | apply RN_al | refine RN_st3 hF2 (by have h1 := t1b; have h2 := t2b; have h3 := t1; have h4 := t2; (try simp only [World.size_alloc] at h1 h2); (try simp only [World.size_alloc]); (try dsimp only); omega) ?_ | refine RN_st2 hR2.lt (by have h1 := t1b; have h2 := t2b; have h3 := t1; have h4 := t2; (try simp only [World.size_alloc] at h1 h2); (try simp only [World.size_alloc]); (try dsimp only); omega) ?_))
        · (repeat (first | exact hW2 | refine Bel_al ?_ (Nat.le_refl _) | refine Bel_st ?_ (by have h1 := t1b; have h2 := t2b; have h3 := t1; have h4 := t2; (try simp only [World.size_alloc] at h1 h2); (try simp only [World.size_alloc]); (try dsimp only); omega)))
    case rest =>
      obtain ⟨g1, g2, s1, p1, n1, d1, s2, p2, n2, d2, rfl, rfl, hx, hy, hG1⟩ := hcut
      clear hG k0 k1 k2 k3 hga hgb
      have hx1 := hx
      have hy1 := hy
      clear hx hy
      have k0 := hG1.a.b.c0
      have k1 := hG1.a.b.c1
      have k2 := hG1.b.b.c0
      have k3 := hG1.b.b.c1
      have hga : w.heap.size < wc.heap.size := block_lt_of_cell k0
      have hgb : w.heap.size + 1 < wc.heap.size := block_lt_of_cell k2
      by_cases hz : val (xb.take 24) = 0
      · go_wp2_with fail
        refine (Quo_zero sa sb pa' pb' na' nac' nb' nbc' _ _ _ hG1.a.a hG1.b.a hz).mono ?_
        rintro e x1 ⟨rfl, hq1⟩
        have hy2 := hy1.later hq1
        have hG2 := hG1.later hq1
        have c0 := ((hy2.b.alloc (.cells #[.bool false, .slice none 0 0] 24)).alloc (.cells #[.bool false, .slice none 0 0] 24)).c0
        have c1 := ((hy2.b.alloc (.cells #[.bool false, .slice none 0 0] 24)).alloc (.cells #[.bool false, .slice none 0 0] 24)).c1
        clear k0 k1 k2 k3
        go_wp2_with fail
        have hsg := rSign_any s2 p2 n2 n2 d2 ((x1.alloc (.cells #[.bool false, .slice none 0 0] 24)).alloc (.cells #[.bool false, .slice none 0 0] 24)) hy2.r.u hy2.r.nrm
        have hv0 : ival sb (xb.take 24) = 0 := by cases sb <;> simp [ival, hz]
        rw [hy2.v, hv0, show isgn 0 = 0 from rfl] at hsg
        refine hsg.mono ?_
        clear hsg
        rintro e x2 ⟨rfl, hx2⟩
        have hal : Below x1.heap.size x1 ((x1.alloc (.cells #[.bool false, .slice none 0 0] 24)).alloc (.cells #[.bool false, .slice none 0 0] 24)) := bel_al (bel_al (Below.refl _ _))
        have bq := (((Bx.new (w := x1) (.bool false) (.slice none 0 0) 24 rfl).alloc (.cells #[.bool false, .slice none 0 0] 24))).later hx2
        have br := (Bx.new (w := x1.alloc (.cells #[.bool false, .slice none 0 0] 24)) (r := x1.heap.size + 1) (.bool false) (.slice none 0 0) 24 (World.size_alloc ..).symm).later hx2
        have hG3 := (hG2.later hal).later hx2
        have e0 := bq.c0
        have e1 := bq.c1
        have e2 := br.c0
        have e3 := br.c1
        clear c0 c1
        go_wp2
        go_ret
        exact ⟨rfl, hG3.bel⟩
      · go_wp2_with fail
        refine (Quo_small sa sb pa' pb' na' nac' nb' nbc' _ _ _ hG1.a.a hG1.b.a (by omega) (by omega) hz).mono ?_
        rintro e x1 ⟨s3, p3, n3, z3, s4, p4, n4, z4, Qi, Ri, rfl, hN3, hN4, e1, e2, e3, hn3, hn4, hq1⟩
        have HQ : Hid (Qi * ival sb (xb.take 24) + Ri = ival sa (xa.take 24) ∧ 0 ≤ Ri ∧ Ri < ((ival sb (xb.take 24)).natAbs : Int)) := ⟨e1, e2, e3⟩
        clear e1 e2 e3
        have hal : Below x1.heap.size x1 ((x1.alloc (.cells #[.bool s3, .slice p3 n3 n3] 24)).alloc (.cells #[.bool s4, .slice p4 n4 n4] 24)) := bel_al (bel_al (Below.refl _ _))
        have hy2 := (hy1.later hq1).later hal
        have hx2 := (hx1.later hq1).later hal
        have hG2 := (hG1.later hq1).later hal
        have hq2 : Nx ((x1.alloc (.cells #[.bool s3, .slice p3 n3 n3] 24)).alloc (.cells #[.bool s4, .slice p4 n4 n4] 24)) x1.heap.size s3 p3 n3 z3 Qi := ⟨(Bx.new _ _ _ rfl).alloc _, (hN3.below hal).mono (Nat.zero_le _), by omega⟩
        have hr2 : Nx ((x1.alloc (.cells #[.bool s3, .slice p3 n3 n3] 24)).alloc (.cells #[.bool s4, .slice p4 n4 n4] 24)) (x1.heap.size + 1) s4 p4 n4 z4 Ri := ⟨Bx.new _ _ _ (World.size_alloc ..).symm, (hN4.below hal).mono (Nat.zero_le _), by omega⟩
        have c0 := hy2.b.c0
        have c1 := hy2.b.c1
        clear k0 k1 k2 k3 hga hgb hal hN3 hN4 hG1 hx1 hy1 hq1
        go_wp2_with fail
        generalize hX2 : ((x1.alloc (.cells #[.bool s3, .slice p3 n3 n3] 24)).alloc (.cells #[.bool s4, .slice p4 n4 n4] 24)) = X2 at *
        clear hX2
        have hsg := rSign_any s2 p2 n2 n2 d2 X2 hy2.r.u hy2.r.nrm
        rw [hy2.v] at hsg
        have hsn : (isgn (ival sb (xb.take 24)) == 0) = false := by
          have h1 := val_nonneg hG2.b.a.u
          have h2 : ival sb (xb.take 24) ≠ 0 := by cases sb <;> simp [ival] <;> omega
          rcases isgn_cases (ival sb (xb.take 24)) with h | h | h
          · exact absurd h.1 h2
          · rw [h.2]; rfl
          · rw [h.2]; rfl
        refine hsg.mono ?_
        clear hsg
        rintro e X3 ⟨rfl, hx3⟩
        have hy3 := hy2.later hx3
        have hxx3 := hx2.later hx3
        have hG3 := hG2.later hx3
        have hq3 := hq2.later hx3
        have hr3 := hr2.later hx3
        clear c0 c1 hx3 hy2 hx2 hG2 hq2 hr2
        have k0 := hq3.b.c0
        have k1 := hq3.b.c1
        have k2 := hr3.b.c0
        have k3 := hr3.b.c1
        have hga : x1.heap.size < X3.heap.size := block_lt_of_cell k0
        have hgb : x1.heap.size + 1 < X3.heap.size := block_lt_of_cell k2
        generalize x1.heap.size = gq at *
        have hl3 := hq3.l
        have hl4 := hr3.l
        go_wp2_with fail
        go_cut [11, 12] (fun uv vv w5 => ∃ (g5 g6 : Nat) (s5 : Bool) (p5 : Option Addr) (n5 : Nat) (d5 : List Int) (s6 : Bool) (p6 : Option Addr) (n6 : Nat) (d6 : List Int), uv = .pointer (some ⟨g5, 0, none⟩) ∧ vv = .pointer (some ⟨g6, 0, none⟩) ∧ Vw w5 g5 s5 p5 n5 d5 Qi ∧ Vw w5 g6 s6 p6 n6 d6 Ri ∧ Below X3.heap.size X3 w5)
        case first =>
          have hAq := hq3.i.ai (by omega)
          have hAr := hr3.i.ai (by omega)
          have hvq := hq3.i.v
          have hvr := hr3.i.v
          have HVQ : Hid (ival s3 z3 = Qi ∧ ival s4 z4 = Ri) := ⟨hvq, hvr⟩
          clear hvq hvr
          go_region_held3 (fun w' => w'.cell? ⟨gq, 0, none⟩ = some (.bool s3) ∧ w'.cell? ⟨gq, 1, none⟩ = some (.slice p3 n3 n3) ∧ w'.cell? ⟨gq + 1, 0, none⟩ = some (.bool s4) ∧ w'.cell? ⟨gq + 1, 1, none⟩ = some (.slice p4 n4 n4)) (first | with_reducible exact keepc4 ⟨y0, y1, y2, y3⟩ (bel_al (bel_al (Below.refl _ _))) | with_reducible exact keepc4 ⟨y0, y1, y2, y3⟩ (bel_al (Below.refl _ _)) | with_reducible exact ⟨y0, y1, y2, y3⟩ | with_reducible exact s4set (keepc4 ⟨y0, y1, y2, y3⟩ (bel_al (Below.refl _ _))) (by omega) (by omega) | with_reducible exact s4set ⟨y0, y1, y2, y3⟩ (by omega) (by omega) | with_reducible exact s4set (s4set ⟨y0, y1, y2, y3⟩ (by omega) (by omega)) (by omega) (by omega) | with_reducible exact keepc4 ⟨q0, q1, q2, q3⟩ (bel_al (bel_al (Below.refl _ _))) | with_reducible exact keepc4 ⟨q0, q1, q2, q3⟩ (bel_al (Below.refl _ _)) | with_reducible exact ⟨q0, q1, q2, q3⟩ | with_reducible exact keepc4 ⟨k0, k1, k2, k3⟩ (Below.drew (Below.refl _ _)) | with_reducible exact keepc4 ⟨k0, k1, k2, k3⟩ (Below.drew (bel_al (Below.refl _ _))) | with_reducible exact keepc4 ⟨k0, k1, k2, k3⟩ (Below.drew (bel_al (bel_al (Below.refl _ _)))) | (simp [go_sem, *]; done))
            (first
              | (go_at_call_of 11 (Value.agg #[.bool s3, .slice p3 n3 n3]); refine (From_ansF s3 p3 n3 n3 z3 _ (hAq.below (by first | exact (Below.refl _ _).drew | exact (bel_al (Below.refl _ _)).drew | exact (bel_al (bel_al (Below.refl _ _))).drew))).mono ?_; rintro e v1 ⟨s5, p5, n5, d5, rfl, hR1, hV1, hn1, hF1, hx1⟩; have HV1 : Hid (rval s5 d5 = ival s3 z3) := hV1; clear hV1; have hF1' := unfr hF1; have hB1 := undrew hx1; have hW1 := comp (X2 := X3) (w2 := X3) (Below.refl _ _) (by (repeat apply bel_al); exact Below.refl _ _) hB1; obtain ⟨hc1, hf1, hz1, -, -⟩ := brules hB1; obtain ⟨o1, o2, o3, o4⟩ := bne hB1; have q0 := cell_later hW1 k0; have q1 := cell_later hW1 k1; have q2 := cell_later hW1 k2; have q3 := cell_later hW1 k3; have r1 := Nat.lt_of_lt_of_le hga hW1.size; have r2 := Nat.lt_of_lt_of_le hgb hW1.size; have t1 := hW1.size; have t1b := hB1.size; have hU1 := hR1.lt)
              | (go_at_call_of 11 (Value.agg #[.bool s4, .slice p4 n4 n4]); refine (From_ansF s4 p4 n4 n4 z4 _ (hAr.below (by (repeat apply bel_al); exact hW1))).mono ?_; rintro e v2 ⟨s6, p6, n6, d6, rfl, hR2, hV2, hn2, hF2, hx2⟩; have HV2 : Hid (rval s6 d6 = ival s4 z4) := hV2; clear hV2; have hb12 := comp hB1 (by (repeat apply bel_al); exact Below.refl _ _) hx2; have hW2 := comp hW1 (by (repeat apply bel_al); exact Below.refl _ _) hx2; have hR12 := hR1.below (comp (X2 := v1) (w2 := v1) (Below.refl _ _) (by (repeat apply bel_al); exact Below.refl _ _) hx2); obtain ⟨hc3, hf3, hz3, -, -⟩ := brules hx2; obtain ⟨hc4, hf4, hz4, -, -⟩ := brules hb12; obtain ⟨m1, m2, m3, m4⟩ := bne hx2; obtain ⟨m5, m6, m7, m8⟩ := bne hb12; have y0 := cell_later hW2 k0; have y1 := cell_later hW2 k1; have y2 := cell_later hW2 k2; have y3 := cell_later hW2 k3; have r3 := Nat.lt_of_lt_of_le hga hW2.size; have r4 := Nat.lt_of_lt_of_le hgb hW2.size; have t2 := hW2.size; have t2b := hx2.size))
          all_goals (go_wp2_with fail; go_meet)
          all_goals
            refine ⟨_, _, s5, p5, n5, d5, s6, p6, n6, d6, rfl, rfl, ⟨?_, ?_, HV1.out.trans HVQ.out.1, by omega⟩, ⟨?_, ?_, HV2.out.trans HVQ.out.2, by omega⟩, ?_⟩
            · (repeat (first | exact Bx_new (by simp; done) | refine Bx_set (u := .bool false) (v := .slice none 0 0) ?_ | refine Bx_oth ?_ (by have h1 := t1b; have h2 := t2b; have h3 := t1; have h4 := t2; (try simp only [World.size_alloc] at h1 h2); (try simp only [World.size_alloc]); (try dsimp only); omega) | apply Bx_al)); all_goals exact ⟨by simp [go_sem, *], by simp [go_sem, *], by simp [go_sem, *], by simp [go_sem, *]⟩
            · (repeat (first | exact hR12 | apply RN_al | refine RN_st3 hF1' (by have h1 := t1b; have h2 := t2b; have h3 := t1; have h4 := t2; (try simp only [World.size_alloc] at h1 h2); (try simp only [World.size_alloc]); (try dsimp only); omega) ?_ | refine RN_st2 hU1 (by have h1 := t1b; have h2 := t2b; have h3 := t1; have h4 := t2; (try simp only [World.size_alloc] at h1 h2); (try simp only [World.size_alloc]); (try dsimp only); omega) ?_))
            · (repeat (first | exact Bx_new (by simp; done) | refine Bx_set (u := .bool false) (v := .slice none 0 0) ?_ | refine Bx_oth ?_ (by have h1 := t1b; have h2 := t2b; have h3 := t1; have h4 := t2; (try simp only [World.size_alloc] at h1 h2); (try simp only [World.size_alloc]); (try dsimp only); omega) | apply Bx_al)); all_goals exact ⟨by simp [go_sem, *], by simp [go_sem, *], by simp [go_sem, *], by simp [go_sem, *]⟩
            · (repeat (first | exact hR2 | apply RN_al | refine RN_st3 hF2 (by have h1 := t1b; have h2 := t2b; have h3 := t1; have h4 := t2; (try simp only [World.size_alloc] at h1 h2); (try simp only [World.size_alloc]); (try dsimp only); omega) ?_ | refine RN_st2 hR2.lt (by have h1 := t1b; have h2 := t2b; have h3 := t1; have h4 := t2; (try simp only [World.size_alloc] at h1 h2); (try simp only [World.size_alloc]); (try dsimp only); omega) ?_))
            · (repeat (first | exact hW2 | refine Bel_al ?_ (Nat.le_refl _) | refine Bel_st ?_ (by have h1 := t1b; have h2 := t2b; have h3 := t1; have h4 := t2; (try simp only [World.size_alloc] at h1 h2); (try simp only [World.size_alloc]); (try dsimp only); omega)))
        case rest =>
          obtain ⟨g5, g6, s5, p5, n5, d5, s6, p6, n6, d6, rfl, rfl, hu, hv, hW⟩ := hcut
          have hy4 := hy3.later hW
          have hx4 := hxx3.later hW
          have hG4 := hG3.later hW
          have hq4 := hq3.later hW
          have hr4 := hr3.later hW
          clear hy3 hxx3 hG3 hq3 hr3 hW k0 k1 k2 k3 hga hgb
          have lu := hu.l
          have lv := hv.l
          have lx := hx4.l
          have ly := hy4.l
          have k0 := hu.b.c0
          have k1 := hu.b.c1
          have k2 := hy4.b.c0
          have k3 := hy4.b.c1
          have k4 := hv.b.c0
          have k5 := hv.b.c1
          have k6 := hx4.b.c0
          have k7 := hx4.b.c1
          go_wp2_with fail
          go_region_held3 (fun w' => w'.cell? ⟨g5, 0, none⟩ = some (.bool s5) ∧ w'.cell? ⟨g5, 1, none⟩ = some (.slice p5 n5 n5) ∧ w'.cell? ⟨g2, 0, none⟩ = some (.bool s2) ∧ w'.cell? ⟨g2, 1, none⟩ = some (.slice p2 n2 n2) ∧ w'.cell? ⟨g6, 0, none⟩ = some (.bool s6) ∧ w'.cell? ⟨g6, 1, none⟩ = some (.slice p6 n6 n6) ∧ w'.cell? ⟨g1, 0, none⟩ = some (.bool s1) ∧ w'.cell? ⟨g1, 1, none⟩ = some (.slice p1 n1 n1)) (first | exact ⟨by assumption, by assumption, by assumption, by assumption, by assumption, by assumption, by assumption, by assumption⟩ | exact keepc8 (by assumption) (by assumption))
            (first
              | (go_at_call 18; refine (rMul_rn hu.r.drew hy4.r.drew (by omega) (by omega)).mono ?_; rintro e v1 ⟨t1, q1, m1, z1, rfl, hR1, hv1', hm1, hF1, hv1⟩; have HV1 : Hid (rval t1 z1 = Qi * ival sb (xb.take 24)) := (by show _ = _; rw [hv1', hu.v, hy4.v]); clear hv1'; have hV1 := undrew hv1)
              | (go_at_call 14; refine (rAdd_rn hR1 (hv.r.below hV1) (by omega) (by omega)).mono ?_; rintro e v2 ⟨t2, q2, m2, z2, rfl, hR2, hv2', hm2, hF2, hv2⟩; have HV2 : Hid (rval t2 z2 = ival sa (xa.take 24)) := (by show _ = _; rw [hv2', HV1.out, hv.v]; exact HQ.out.1); clear hv2'; have hV2 := bnext' hV1 hv2)
              | (go_at_call 22; have hc := rCmp_rn hR2 (hx4.r.below hV2); rw [HV2.out, hx4.v, icmp_eq] at hc; refine hc.mono ?_; clear hc; rintro e v3 ⟨rfl, hv3⟩; have hV3 := bnext' hV2 hv3))
          have hu5 := hu.later hV3
          have hv5 := hv.later hV3
          have hy5 := hy4.later hV3
          have hG5 := hG4.later hV3
          have hq5 := hq4.later hV3
          have hr5 := hr4.later hV3
          clear k0 k1 k2 k3 k4 k5 k6 k7 hV1 hV2 hV3 hv1 hv2 hv3 hR1 hR2 HV1 HV2 hm1 hm2 hF1 hF2 hu hv hy4 hx4 hG4 hq4 hr4
          have k0 := hq5.b.c0
          have k1 := hq5.b.c1
          have k2 := hu5.b.c0
          have k3 := hu5.b.c1
          have k4 := hr5.b.c0
          have k5 := hr5.b.c1
          have k6 := hv5.b.c0
          have k7 := hv5.b.c1
          go_wp2_with fail
          refine (rIs_rn hq5.i (by have := hq5.l; omega) hu5.r (by omega) hu5.v).mono ?_
          rintro e v4 ⟨rfl, hv4⟩
          have hv6 := hv5.later hv4
          have hy6 := hy5.later hv4
          have hG6 := hG5.later hv4
          have hr6 := hr5.later hv4
          clear k0 k1 k2 k3 k4 k5 k6 k7 hv4 hu5 hv5 hy5 hG5 hq5 hr5
          have k0 := hr6.b.c0
          have k1 := hr6.b.c1
          have k2 := hv6.b.c0
          have k3 := hv6.b.c1
          go_wp2_with fail
          refine (rIs_rn hr6.i (by have := hr6.l; omega) hv6.r (by omega) hv6.v).mono ?_
          rintro e v5 ⟨rfl, hv5'⟩
          have hv7 := hv6.later hv5'
          have hy7 := hy6.later hv5'
          have hG7 := hG6.later hv5'
          clear k0 k1 k2 k3 hv5' hv6 hy6 hG6 hr6
          have k0 := hv7.b.c0
          have k1 := hv7.b.c1
          have k2 := hy7.b.c0
          have k3 := hy7.b.c1
          have hsR : Hid (0 ≤ isgn Ri) := by
            have h1 := HQ.out.2.1
            show _ ≤ _
            rcases isgn_cases Ri with h | h | h <;> omega
          have hsRd : decide (0 ≤ isgn Ri) = true := decide_eq_true hsR.out
          have hsRi : 0 ≤ isgn Ri := hsR.out
          have habs : Hid (rval false d2 = ((ival sb (xb.take 24)).natAbs : Int)) := by
            show _ = _
            have h1 := vd_nonneg hy7.r.u
            have h2 := hy7.v
            rw [rval, if_neg (by decide), ← h2, rval]
            split <;> omega
          go_wp2_with fail
          go_region_held3 (fun w' => w'.cell? ⟨g6, 0, none⟩ = some (.bool s6) ∧ w'.cell? ⟨g6, 1, none⟩ = some (.slice p6 n6 n6) ∧ w'.cell? ⟨g2, 0, none⟩ = some (.bool s2) ∧ w'.cell? ⟨g2, 1, none⟩ = some (.slice p2 n2 n2)) (first | exact ⟨by assumption, by assumption, by assumption, by assumption⟩ | exact keepc4 (by assumption) (by assumption))
            (first
              | (go_at_call 24; have hc := rSign_any s6 p6 n6 n6 d6 v5.drew hv7.r.u hv7.r.nrm; rw [hv7.v] at hc; refine hc.mono ?_; clear hc; rintro e x5 ⟨rfl, hx5⟩; have hX5 := undrew hx5)
              | (go_at_call 28; refine (rAbs_rn (hy7.r.below hX5)).mono ?_; rintro e x6 ⟨rfl, hR6, hx6⟩; have hX6 := bnext' hX5 hx6)
              | (go_at_call 22; have hc := rCmp_rn (hv7.r.below hX6) hR6; rw [hv7.v, habs.out, icmp_lt HQ.out.2.2] at hc; refine hc.mono ?_; clear hc; rintro e x7 ⟨rfl, hx7⟩; have hX7 := bnext' hX6 hx7))
          have hG8 := hG7.later hX7
          go_wp2
          go_ret
          exact ⟨rfl, hG8.bel⟩
end Go.Proofs.YtgjgdhihpdpmcaaDoor
