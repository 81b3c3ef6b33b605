/-
  ashlarlaw2.RatSums: for all rationals the law's answer is true.
-/
import Derived.Test.YtongkalfdgleaaaGreatDoorZi
import Derived.Test.YtongkalfdgleaaaGreatDoorZjZn
import Derived.Test.YtongkalfdgleaaaGreatDoorZpTaTbTcRg
import Derived.Test.YtongkalfdgleaaaGreatDoorYeYf
import Derived.Test.YtongkalfdgleaaaGreatDoorRsYgRzCwYhRt
import Derived.Test.YtongkalfdgleaaaGreatDoorYiYl
namespace Go.Proofs.YtongkalfdgleaaaGreatDoor
open Go.RowKit
set_option linter.unusedVariables false
set_option linter.unusedSimpArgs false

/-- Two rationals in variables of their own, behind Cut. -/
structure C2q (w wc : World) (sa ta sb tb : Bool) (pa qa pb qb : Option Addr) (na nac ma mac nb nbc mb mbc : Nat) (ra rb : Rat) : Prop where
  a : Wq wc w.heap.size 24 sa pa na nac ta qa ma mac ra
  b : Wq wc (w.heap.size + 1) 24 sb pb nb nbc tb qb mb mbc rb
  bel : Below w.heap.size w wc
theorem C2q.later {w wc w' : World} {sa ta sb tb : Bool} {pa qa pb qb : Option Addr} {na nac ma mac nb nbc mb mbc : Nat} {ra rb : Rat} (h : C2q w wc sa ta sb tb pa qa pb qb na nac ma mac nb nbc mb mbc ra rb) (hb : Below wc.heap.size wc w') : C2q w w' sa ta sb tb pa qa pb qb na nac ma mac nb nbc mb mbc ra rb :=
  ⟨h.a.later hb, h.b.later hb, bnext' h.bel hb⟩
/-- Two rationals and their reference rationals, in variables of their own. -/
structure D4 (w wd : World) (sa ta sb tb : Bool) (pa qa pb qb : Option Addr) (na nac ma mac nb nbc mb mbc : Nat) (ra rb : Rat) (y1 y2 : QW) (g1 g2 : Nat) : Prop where
  c : C2q w wd sa ta sb tb pa qa pb qb na nac ma mac nb nbc mb mbc ra rb
  x : Mx wd g1 24 y1 ra
  y : Mx wd g2 24 y2 rb
theorem D4.later {w wd w' : World} {sa ta sb tb : Bool} {pa qa pb qb : Option Addr} {na nac ma mac nb nbc mb mbc : Nat} {ra rb : Rat} {y1 y2 : QW} {g1 g2 : Nat} (h : D4 w wd sa ta sb tb pa qa pb qb na nac ma mac nb nbc mb mbc ra rb y1 y2 g1 g2) (hb : Below wd.heap.size wd w') : D4 w w' sa ta sb tb pa qa pb qb na nac ma mac nb nbc mb mbc ra rb y1 y2 g1 g2 := ⟨h.c.later hb, h.x.later hb, h.y.later hb⟩
theorem keep16 {w1 w2 : World} {a b c d : Nat} {a0 a1 a2 a3 b0 b1 b2 b3 c0 c1 c2 c3 d0 d1 d2 d3 : Value} (k : w1.cell? ⟨a, 0, none⟩ = some a0 ∧ w1.cell? ⟨a, 1, none⟩ = some a1 ∧ w1.cell? ⟨a, 2, none⟩ = some a2 ∧ w1.cell? ⟨a, 3, none⟩ = some a3 ∧ w1.cell? ⟨b, 0, none⟩ = some b0 ∧ w1.cell? ⟨b, 1, none⟩ = some b1 ∧ w1.cell? ⟨b, 2, none⟩ = some b2 ∧ w1.cell? ⟨b, 3, none⟩ = some b3 ∧ w1.cell? ⟨c, 0, none⟩ = some c0 ∧ w1.cell? ⟨c, 1, none⟩ = some c1 ∧ w1.cell? ⟨c, 2, none⟩ = some c2 ∧ w1.cell? ⟨c, 3, none⟩ = some c3 ∧ w1.cell? ⟨d, 0, none⟩ = some d0 ∧ w1.cell? ⟨d, 1, none⟩ = some d1 ∧ w1.cell? ⟨d, 2, none⟩ = some d2 ∧ w1.cell? ⟨d, 3, none⟩ = some d3) (hb : Below w1.heap.size w1 w2) : w2.cell? ⟨a, 0, none⟩ = some a0 ∧ w2.cell? ⟨a, 1, none⟩ = some a1 ∧ w2.cell? ⟨a, 2, none⟩ = some a2 ∧ w2.cell? ⟨a, 3, none⟩ = some a3 ∧ w2.cell? ⟨b, 0, none⟩ = some b0 ∧ w2.cell? ⟨b, 1, none⟩ = some b1 ∧ w2.cell? ⟨b, 2, none⟩ = some b2 ∧ w2.cell? ⟨b, 3, none⟩ = some b3 ∧ w2.cell? ⟨c, 0, none⟩ = some c0 ∧ w2.cell? ⟨c, 1, none⟩ = some c1 ∧ w2.cell? ⟨c, 2, none⟩ = some c2 ∧ w2.cell? ⟨c, 3, none⟩ = some c3 ∧ w2.cell? ⟨d, 0, none⟩ = some d0 ∧ w2.cell? ⟨d, 1, none⟩ = some d1 ∧ w2.cell? ⟨d, 2, none⟩ = some d2 ∧ w2.cell? ⟨d, 3, none⟩ = some d3 := by
  obtain ⟨h0, h1, h2, h3, h4, h5, h6, h7, h8, h9, h10, h11, h12, h13, h14, h15⟩ := k
  exact ⟨cell_later hb h0, cell_later hb h1, cell_later hb h2, cell_later hb h3, cell_later hb h4, cell_later hb h5, cell_later hb h6, cell_later hb h7, cell_later hb h8, cell_later hb h9, cell_later hb h10, cell_later hb h11, cell_later hb h12, cell_later hb h13, cell_later hb h14, cell_later hb h15⟩
set_option maxRecDepth 100000 in
set_option maxHeartbeats 8000000 in
theorem RatSums_walk (sa ta sb tb : Bool) (pa qa pb qb : Option Addr) (na nac ma mac nb nbc mb mbc : Nat) (xa ya xb yb : List Int) (w : World)
    (hla : xa.length = na) (hnca : na ≤ nac) (hba : nac ≤ maxLen) (hXa : Rd w pa .u32 xa) (hUa : U32 xa) (hpa : pa = none → nac = 0)
    (hma : ya.length = ma) (hmca : ma ≤ mac) (hca : mac ≤ maxLen) (hYa : Rd w qa .u32 ya) (hVa : U32 ya) (hqa : qa = none → mac = 0)
    (hlb : xb.length = nb) (hncb : nb ≤ nbc) (hbb : nbc ≤ maxLen) (hXb : Rd w pb .u32 xb) (hUb : U32 xb) (hpb : pb = none → nbc = 0)
    (hmb : yb.length = mb) (hmcb : mb ≤ mbc) (hcb : mbc ≤ maxLen) (hYb : Rd w qb .u32 yb) (hVb : U32 yb) (hqb : qb = none → mbc = 0) :
    Calls Tryz.prog 3 #[.agg #[.bool sa, .slice pa na nac, .bool ta, .slice qa ma mac], .agg #[.bool sb, .slice pb nb nbc, .bool tb, .slice qb mb mbc]] w fun e w' => e = .returned (.bool true) ∧ Below w.heap.size w w' := by
  go_enter Tryz.func3, Tryz.ntmps3
  go_wp2_with fail
  have hA0 : Bq (((w).alloc (.cells #[.bool sa, .slice pa na nac, .bool ta, .slice qa ma mac] 26)).alloc (.cells #[.bool sb, .slice pb nb nbc, .bool tb, .slice qb mb mbc] 26)) w.heap.size (.bool sa) (.slice pa na nac) (.bool ta) (.slice qa ma mac) := (Bq.new _ _ _ _ _ rfl).alloc _
  have hB0 : Bq (((w).alloc (.cells #[.bool sa, .slice pa na nac, .bool ta, .slice qa ma mac] 26)).alloc (.cells #[.bool sb, .slice pb nb nbc, .bool tb, .slice qb mb mbc] 26)) (w.heap.size + 1) (.bool sb) (.slice pb nb nbc) (.bool tb) (.slice qb mb mbc) := Bq.new _ _ _ _ _ (by simp)
  have hW0 : Below w.heap.size w (((w).alloc (.cells #[.bool sa, .slice pa na nac, .bool ta, .slice qa ma mac] 26)).alloc (.cells #[.bool sb, .slice pb nb nbc, .bool tb, .slice qb mb mbc] 26)) := ((Below.refl _ _).alloc (Nat.le_refl _) _).alloc (by simp) _
  generalize ((w).alloc (.cells #[.bool sa, .slice pa na nac, .bool ta, .slice qa ma mac] 26)).alloc (.cells #[.bool sb, .slice pb nb nbc, .bool tb, .slice qb mb mbc] 26) = W0 at *
  refine (qbegun_any _).mono ?_
  rintro e w1 ⟨rfl, hb1⟩
  have hA1 := hA0.later hb1
  have hB1 := hB0.later hb1
  have hW1 := bnext' hW0 hb1
  clear hA0 hB0 hW0 hb1
  go_upto_region 2 with fail
  go_cut [] (fun wc => ∃ pa' na' nac' qa' ma' mac' pb' nb' nbc' qb' mb' mbc', C2q w wc sa ta sb tb pa' qa' pb' qb' na' nac' ma' mac' nb' nbc' mb' mbc' (Rat.divInt (ival sa (xa.take 24)) (ival ta (ya.take 24))) (Rat.divInt (ival sb (xb.take 24)) (ival tb (yb.take 24))))
  case first =>
    have a0 := hA1.c0
    have a1 := hA1.c1
    have a2 := hA1.c2
    have a3 := hA1.c3
    have b0 := hB1.c0
    have b1 := hB1.c1
    have b2 := hB1.c2
    have b3 := hB1.c3
    go_region_with (first
      | (go_at_call_of 7 (Value.agg #[.bool sa, .slice pa na nac, .bool ta, .slice qa ma mac]); refine (qCut_any sa ta pa qa na nac ma mac xa ya _ hla hnca hba (hXa.below hW1).drew hUa hpa hma hmca hca (hYa.below hW1).drew hVa hqa).mono ?_; rintro e w2 ⟨pa', na', nac', qa', ma', mac', rfl, hA, hA', hna24, hma24, hFa, hFa', hb2⟩; have hB2 := hB1.later (undrew hb2); have b20 := hB2.c0; have b21 := hB2.c1; have b22 := hB2.c2; have b23 := hB2.c3)
      | (go_at_call_of 7 (Value.agg #[.bool sb, .slice pb nb nbc, .bool tb, .slice qb mb mbc]); refine (qCut_any sb tb pb qb nb nbc mb mbc xb yb _ hlb hncb hbb ((hXb.below hW1).drew.below hb2) hUb hpb hmb hmcb hcb ((hYb.below hW1).drew.below hb2) hVb hqb).mono ?_; rintro e w3 ⟨pb', nb', nbc', qb', mb', mbc', rfl, hB, hB', hnb24, hmb24, hFb, hFb', hb3⟩; have hb24 := bnext' (undrew hb2) hb3; have hA4 := hA1.later hb24; have hB4 := hB1.later hb24; obtain ⟨a40, a41, a42, a43, fa0, fa1, fa2, fa3⟩ := hA4; obtain ⟨b40, b41, b42, b43, fb0, fb1, fb2, fb3⟩ := hB4))
    all_goals (go_wp2_with fail; go_meet)
    all_goals
      have sA := hA1.lt
      have sB := hB1.lt
      have s2 : w1.heap.size ≤ w2.heap.size := hb2.size
      have s3 := hb3.size
      have hA4 := hA1.later hb24
      have hB4 := hB1.later hb24
      have qA : AQ w3 24 sa pa' na' nac' ta qa' ma' mac' (Rat.divInt (ival sa (xa.take 24)) (ival ta (ya.take 24))) := ⟨_, _, hA.below hb3, hA'.below hb3, hna24, hma24, rfl⟩
      have qB : AQ w3 24 sb pb' nb' nbc' tb qb' mb' mbc' (Rat.divInt (ival sb (xb.take 24)) (ival tb (yb.take 24))) := ⟨_, _, hB, hB', hnb24, hmb24, rfl⟩
      refine ⟨pa', na', nac', qa', ma', mac', pb', nb', nbc', qb', mb', mbc', ⟨?_, ?_⟩, ⟨?_, ?_⟩, ?_⟩
      · exact Bq_oth (Bq_set hA4) (by omega)
      · exact (qA.set4 (fun _ => off_from hFa sA) (fun _ => off_from hFa' sA) _ _ _ _).set4 (fun _ => off_from hFa sB) (fun _ => off_from hFa' sB) _ _ _ _
      · exact Bq_set (Bq_oth hB4 (by omega))
      · exact (qB.set4 (fun _ => off_from hFb (by omega)) (fun _ => off_from hFb' (by omega)) _ _ _ _).set4 (fun _ => off_from hFb (by omega)) (fun _ => off_from hFb' (by omega)) _ _ _ _
      · exact bset4 (bset4 (bnext' hW1 hb24) (by omega) _ _ _ _) (by omega) _ _ _ _
  case rest =>
    obtain ⟨pa', na', nac', qa', ma', mac', pb', nb', nbc', qb', mb', mbc', hG⟩ := hcut
    clear hA1 hB1 hW1
    generalize (Rat.divInt (ival sa (xa.take 24)) (ival ta (ya.take 24))) = ra at *
    generalize (Rat.divInt (ival sb (xb.take 24)) (ival tb (yb.take 24))) = rb at *
    go_upto_region 3 with fail
    go_cut [6, 7] (fun xv yv w3 => ∃ (y1 y2 : QW) (g1 g2 : Nat), xv = .pointer (some ⟨g1, 0, none⟩) ∧ yv = .pointer (some ⟨g2, 0, none⟩) ∧ Hid (G2q wc w3 ra rb true true true true true true y1.v y2.v xv yv y1 y2 g1 g2))
    case first =>
      refine region_inv (by kernel_rfl) (fun listed a w' => ∃ (l1 c1 l2 c2 a1 a2 s1 s2 : Bool) (v1 v2 r1 r2 x1 x2 : Value) (y1 y2 : QW) (g1 g2 : Nat), listed = #[l1, c1, l2, c2, a1, a2, s1, s2] ∧ a = ({ tmps := ((.agg #[.bool sa, .slice pa na nac, .bool ta, .slice qa ma mac]) :: (.agg #[.bool sb, .slice pb nb nbc, .bool tb, .slice qb mb mbc]) :: (.pointer (some ⟨w.heap.size, 0, none⟩)) :: (.pointer (some ⟨w.heap.size + 1, 0, none⟩)) :: (.bool false) :: (.bool true) :: (x1) :: (x2) :: (undef) :: (undef) :: (undef) :: (undef) :: (u12) :: (u13) :: (u14) :: (u15) :: (u16) :: (v1) :: (r1) :: (v2) :: (r2) :: (u21) :: (u22) :: (u23) :: (u24) :: (u25) :: (u26) :: (u27) :: (u28) :: (u29) :: (u30) :: (u31) :: (u32) :: (u33) :: (u34) :: (u35) :: (u36) :: (u37) :: (u38) :: (u39) :: (u40) :: (u41) :: (u42) :: (u43) :: (u44) :: (u45) :: (u46) :: (u47) :: (u48) :: (u49) :: (u50) :: (u51) :: (u52) :: (u53) :: (u54) :: (u55) :: (u56) :: (u57) :: (u58) :: (u59) :: (u60) :: (u61) :: (u62) :: (u63) :: (u64) :: (u65) :: (u66) :: (u67) :: (u68) :: (u69) :: (u70) :: (u71) :: (u72) :: (u73) :: (u74) :: (u75) :: ([] : List Value)).toArray, defers := [] } : Act) ∧ (l1 = true → v1 = .agg #[.bool sa, .slice pa' na' nac', .bool ta, .slice qa' ma' mac']) ∧ (l2 = true → v2 = .agg #[.bool sb, .slice pb' nb' nbc', .bool tb, .slice qb' mb' mbc']) ∧ Hid (G2q wc w' ra rb c1 c2 a1 a2 s1 s2 r1 r2 x1 x2 y1 y2 g1 g2)) (by kernel_rfl) ?_ ?_ ?_
      · rintro listed a w' ⟨l1, c1, l2, c2, a1, a2, s1, s2, v1, v2, r1, r2, x1, x2, y1, y2, g1, g2, rfl, rfl, hv1, hv2, H⟩ hall
        obtain rfl : l1 = true := by simpa using hall 0 (by decide)
        obtain rfl : c1 = true := by simpa using hall 1 (by decide)
        obtain rfl : l2 = true := by simpa using hall 2 (by decide)
        obtain rfl : c2 = true := by simpa using hall 3 (by decide)
        obtain rfl : a1 = true := by simpa using hall 4 (by decide)
        obtain rfl : a2 = true := by simpa using hall 5 (by decide)
        obtain rfl : s1 = true := by simpa using hall 6 (by decide)
        obtain rfl : s2 = true := by simpa using hall 7 (by decide)
        clear hall
        obtain rfl := (H.out.X1 rfl).1
        obtain rfl := (H.out.X2 rfl).1
        obtain rfl := (H.out.R1 rfl).1
        obtain rfl := (H.out.R2 rfl).1
        go_wp2_with fail
        go_meet
        exact ⟨y1, y2, g1, g2, rfl, rfl, H⟩
      · rintro listed a w' ⟨l1, c1, l2, c2, a1, a2, s1, s2, v1, v2, r1, r2, x1, x2, y1, y2, g1, g2, rfl, rfl, hv1, hv2, H⟩ i o hio h0 hd
        have hi : i < 8 := (Array.getElem?_eq_some_iff.1 hio).1
        rcases i with _ | _ | _ | _ | _ | _ | _ | _ | i
        · obtain rfl := (Option.some.inj hio)
          replace h0 : l1 = false := by simpa using h0
          clear hd
          refine wpOp_step rfl (fun K' hK0 => ?_)
          have hK := (show Hid _ from hK0)
          clear hK0
          have hC := hG.later H.out.bel
          have z0 := hC.a.b.c0
          have z1 := hC.a.b.c1
          have z2 := hC.a.b.c2
          have z3 := hC.a.b.c3
          go_wp2
          exact hK.out _ _ ⟨true, c1, l2, c2, a1, a2, s1, s2, .agg #[.bool sa, .slice pa' na' nac', .bool ta, .slice qa' ma' mac'], v2, r1, r2, x1, x2, y1, y2, g1, g2, rfl, rfl, fun _ => rfl, hv2, H.out⟩
        · obtain rfl := (Option.some.inj hio)
          replace h0 : c1 = false := by simpa using h0
          have hd0 : l1 = true := by simpa [Region.binds] using hd ⟨0, .data⟩ (by simp)
          clear hd
          refine wpOp_step rfl (fun K' hK0 => ?_)
          have hK := (show Hid _ from hK0)
          clear hK0
          obtain rfl := hv1 hd0
          have hC := hG.later H.out.bel
          have hfr := rFrom_q hC.a.a (by decide) (by decide)
          go_wp2_with fail
          refine hfr.mono ?_
          rintro e w'' ⟨s, p, n, t, q, m, rfl, q1, q2, q3, q4⟩
          have H2 := H.out.call1 (by rw [h0]; decide) (y := ⟨s, p, n, t, q, m⟩) q4 q1 q2 q3
          clear hfr
          go_wp2
          exact hK.out _ _ ⟨l1, true, l2, c2, a1, a2, s1, s2, _, v2, (⟨s, p, n, t, q, m⟩ : QW).v, r2, x1, x2, ⟨s, p, n, t, q, m⟩, y2, g1, g2, rfl, rfl, fun _ => rfl, hv2, H2⟩
        · obtain rfl := (Option.some.inj hio)
          replace h0 : l2 = false := by simpa using h0
          clear hd
          refine wpOp_step rfl (fun K' hK0 => ?_)
          have hK := (show Hid _ from hK0)
          clear hK0
          have hC := hG.later H.out.bel
          have z0 := hC.b.b.c0
          have z1 := hC.b.b.c1
          have z2 := hC.b.b.c2
          have z3 := hC.b.b.c3
          go_wp2
          exact hK.out _ _ ⟨l1, c1, true, c2, a1, a2, s1, s2, v1, .agg #[.bool sb, .slice pb' nb' nbc', .bool tb, .slice qb' mb' mbc'], r1, r2, x1, x2, y1, y2, g1, g2, rfl, rfl, hv1, fun _ => rfl, H.out⟩
        · obtain rfl := (Option.some.inj hio)
          replace h0 : c2 = false := by simpa using h0
          have hd0 : l2 = true := by simpa [Region.binds] using hd ⟨2, .data⟩ (by simp)
          clear hd
          refine wpOp_step rfl (fun K' hK0 => ?_)
          have hK := (show Hid _ from hK0)
          clear hK0
          obtain rfl := hv2 hd0
          have hC := hG.later H.out.bel
          have hfr := rFrom_q hC.b.a (by decide) (by decide)
          go_wp2_with fail
          refine hfr.mono ?_
          rintro e w'' ⟨s, p, n, t, q, m, rfl, q1, q2, q3, q4⟩
          have H2 := H.out.call2 (by rw [h0]; decide) (y := ⟨s, p, n, t, q, m⟩) q4 q1 q2 q3
          clear hfr
          go_wp2
          exact hK.out _ _ ⟨l1, c1, l2, true, a1, a2, s1, s2, v1, _, r1, (⟨s, p, n, t, q, m⟩ : QW).v, x1, x2, y1, ⟨s, p, n, t, q, m⟩, g1, g2, rfl, rfl, hv1, fun _ => rfl, H2⟩
        · obtain rfl := (Option.some.inj hio)
          replace h0 : a1 = false := by simpa using h0
          clear hd
          refine wpOp_step rfl (fun K' hK0 => ?_)
          have hK := (show Hid _ from hK0)
          clear hK0
          have H2 := H.out.alloc1 (by rw [h0]; decide) (.bool false) (.slice none 0 0) (.bool false) (.slice none 0 0) 33
          go_wp2
          exact hK.out _ _ ⟨l1, c1, l2, c2, true, a2, s1, s2, v1, v2, r1, r2, (.pointer (some ⟨w'.heap.size, 0, none⟩)), x2, y1, y2, w'.heap.size, g2, rfl, rfl, hv1, hv2, H2⟩
        · obtain rfl := (Option.some.inj hio)
          replace h0 : a2 = false := by simpa using h0
          clear hd
          refine wpOp_step rfl (fun K' hK0 => ?_)
          have hK := (show Hid _ from hK0)
          clear hK0
          have H2 := H.out.alloc2 (by rw [h0]; decide) (.bool false) (.slice none 0 0) (.bool false) (.slice none 0 0) 33
          go_wp2
          exact hK.out _ _ ⟨l1, c1, l2, c2, a1, true, s1, s2, v1, v2, r1, r2, x1, (.pointer (some ⟨w'.heap.size, 0, none⟩)), y1, y2, g1, w'.heap.size, rfl, rfl, hv1, hv2, H2⟩
        · obtain rfl := (Option.some.inj hio)
          replace h0 : s1 = false := by simpa using h0
          have hd0 : a1 = true := by simpa [Region.binds] using hd ⟨4, .data⟩ (by simp)
          have hd1 : c1 = true := by simpa [Region.binds] using hd ⟨1, .data⟩ (by simp)
          clear hd
          refine wpOp_step rfl (fun K' hK0 => ?_)
          have hK := (show Hid _ from hK0)
          clear hK0
          have H2 := H.out.store1 hd0 hd1
          obtain ⟨rfl, -⟩ := H.out.R1 hd1
          obtain ⟨rfl, z2, u0, u1, u2, u3, z3, z4⟩ := H.out.X1 hd0
          have z30 := z3.c0
          have z31 := z3.c1
          have z32 := z3.c2
          have z33 := z3.c3
          have z34 := z3.f0
          have z35 := z3.f1
          have z36 := z3.f2
          have z37 := z3.f3
          go_wp2
          exact hK.out _ _ ⟨l1, c1, l2, c2, a1, a2, true, s2, v1, v2, _, r2, _, x2, y1, y2, g1, g2, rfl, rfl, hv1, hv2, H2⟩
        · obtain rfl := (Option.some.inj hio)
          replace h0 : s2 = false := by simpa using h0
          have hd0 : a2 = true := by simpa [Region.binds] using hd ⟨5, .data⟩ (by simp)
          have hd1 : c2 = true := by simpa [Region.binds] using hd ⟨3, .data⟩ (by simp)
          clear hd
          refine wpOp_step rfl (fun K' hK0 => ?_)
          have hK := (show Hid _ from hK0)
          clear hK0
          have H2 := H.out.store2 hd0 hd1
          obtain ⟨rfl, -⟩ := H.out.R2 hd1
          obtain ⟨rfl, z2, u0, u1, u2, u3, z3, z4⟩ := H.out.X2 hd0
          have z30 := z3.c0
          have z31 := z3.c1
          have z32 := z3.c2
          have z33 := z3.c3
          have z34 := z3.f0
          have z35 := z3.f1
          have z36 := z3.f2
          have z37 := z3.f3
          go_wp2
          exact hK.out _ _ ⟨l1, c1, l2, c2, a1, a2, s1, true, v1, v2, r1, _, x1, _, y1, y2, g1, g2, rfl, rfl, hv1, hv2, H2⟩
        · exact absurd hi (by omega)
      · exact ⟨false, false, false, false, false, false, false, false, u17, u19, u18, u20, undef, undef, ⟨false, none, 0, false, none, 0⟩, ⟨false, none, 0, false, none, 0⟩, 0, 0, rfl, rfl, nofun, nofun, ⟨(Below.refl _ _).drew, nofun, nofun, nofun, nofun, nofun, nofun, nofun, nofun, nofun, nofun, nofun, nofun, nofun⟩⟩
    case rest =>
      obtain ⟨y1, y2, g1, g2, rfl, rfl, H3⟩ := hcut
      have hD0 : D4 w _ sa ta sb tb pa' qa' pb' qb' na' nac' ma' mac' nb' nbc' mb' mbc' ra rb y1 y2 g1 g2 := ⟨hG.later H3.out.bel, (H3.out.X1 rfl).mx (H3.out.R1 rfl), (H3.out.X2 rfl).mx (H3.out.R2 rfl)⟩
      clear hG H3
      have a0 := hD0.c.a.b.c0
      have a1 := hD0.c.a.b.c1
      have a2 := hD0.c.a.b.c2
      have a3 := hD0.c.a.b.c3
      have b0 := hD0.c.b.b.c0
      have b1 := hD0.c.b.b.c1
      have b2 := hD0.c.b.b.c2
      have b3 := hD0.c.b.b.c3
      have i0 := hD0.x.b.c0
      have i1 := hD0.x.b.c1
      have i2 := hD0.x.b.c2
      have i3 := hD0.x.b.c3
      have j0 := hD0.y.b.c0
      have j1 := hD0.y.b.c1
      have j2 := hD0.y.b.c2
      have j3 := hD0.y.b.c3
      go_upto_region 4 with fail
      go_region_held3 (fun w' => w'.cell? ⟨w.heap.size, 0, none⟩ = some (.bool sa) ∧ w'.cell? ⟨w.heap.size, 1, none⟩ = some (.slice pa' na' nac') ∧ w'.cell? ⟨w.heap.size, 2, none⟩ = some (.bool ta) ∧ w'.cell? ⟨w.heap.size, 3, none⟩ = some (.slice qa' ma' mac') ∧ w'.cell? ⟨w.heap.size + 1, 0, none⟩ = some (.bool sb) ∧ w'.cell? ⟨w.heap.size + 1, 1, none⟩ = some (.slice pb' nb' nbc') ∧ w'.cell? ⟨w.heap.size + 1, 2, none⟩ = some (.bool tb) ∧ w'.cell? ⟨w.heap.size + 1, 3, none⟩ = some (.slice qb' mb' mbc') ∧ w'.cell? ⟨g1, 0, none⟩ = some (.bool y1.s) ∧ w'.cell? ⟨g1, 1, none⟩ = some (.slice y1.p y1.n y1.n) ∧ w'.cell? ⟨g1, 2, none⟩ = some (.bool y1.t) ∧ w'.cell? ⟨g1, 3, none⟩ = some (.slice y1.q y1.m y1.m) ∧ w'.cell? ⟨g2, 0, none⟩ = some (.bool y2.s) ∧ w'.cell? ⟨g2, 1, none⟩ = some (.slice y2.p y2.n y2.n) ∧ w'.cell? ⟨g2, 2, none⟩ = some (.bool y2.t) ∧ w'.cell? ⟨g2, 3, none⟩ = some (.slice y2.q y2.m y2.m)) (first | with_reducible exact ⟨a0, a1, a2, a3, b0, b1, b2, b3, i0, i1, i2, i3, j0, j1, j2, j3⟩ | with_reducible exact keep16 ⟨a0, a1, a2, a3, b0, b1, b2, b3, i0, i1, i2, i3, j0, j1, j2, j3⟩ hV1 | with_reducible exact keep16 ⟨a0, a1, a2, a3, b0, b1, b2, b3, i0, i1, i2, i3, j0, j1, j2, j3⟩ hV2 | with_reducible exact keep16 ⟨a0, a1, a2, a3, b0, b1, b2, b3, i0, i1, i2, i3, j0, j1, j2, j3⟩ hV3 | with_reducible exact keep16 ⟨a0, a1, a2, a3, b0, b1, b2, b3, i0, i1, i2, i3, j0, j1, j2, j3⟩ hV4 | exact ⟨a0, a1, a2, a3, b0, b1, b2, b3, i0, i1, i2, i3, j0, j1, j2, j3⟩)
        (first
          | (go_at_call 10; refine (qAdd_q hD0.c.a.a.drew hD0.c.b.a.drew (by decide) (by decide) (by decide)).mono ?_; rintro e v1 ⟨s1, p1, n1, t1, q1, m1, rfl, hN1, hv1⟩; have hV1 := undrew hv1)
          | (go_at_call 11; refine (rAdd_q (hD0.x.m.below hV1) (hD0.y.m.below hV1) (by decide) (by decide) (by decide)).mono ?_; rintro e v2 ⟨s2, p2, n2, t2, q2, m2, rfl, hM2, hF2, hF2', hv2⟩; have hV2 := bnext' hV1 hv2)
          | (go_at_call 9; refine (rIs_q (hN1.below hv2) hM2 (by decide) (by decide)).mono ?_; rintro e v3 ⟨rfl, hv3⟩; have hV3 := bnext' hV2 hv3))
      have hD1 := hD0.later hV3
      clear hD0 hV1 hv1 hV2 hv2 hV3 hv3
      clear a0 a1 a2 a3 b0 b1 b2 b3 i0 i1 i2 i3 j0 j1 j2 j3
      clear hN1 hM2 hF2 hF2'
      have a0 := hD1.c.a.b.c0
      have a1 := hD1.c.a.b.c1
      have a2 := hD1.c.a.b.c2
      have a3 := hD1.c.a.b.c3
      have b0 := hD1.c.b.b.c0
      have b1 := hD1.c.b.b.c1
      have b2 := hD1.c.b.b.c2
      have b3 := hD1.c.b.b.c3
      have i0 := hD1.x.b.c0
      have i1 := hD1.x.b.c1
      have i2 := hD1.x.b.c2
      have i3 := hD1.x.b.c3
      have j0 := hD1.y.b.c0
      have j1 := hD1.y.b.c1
      have j2 := hD1.y.b.c2
      have j3 := hD1.y.b.c3
      go_upto_region 5 with fail
      go_region_held3 (fun w' => w'.cell? ⟨w.heap.size, 0, none⟩ = some (.bool sa) ∧ w'.cell? ⟨w.heap.size, 1, none⟩ = some (.slice pa' na' nac') ∧ w'.cell? ⟨w.heap.size, 2, none⟩ = some (.bool ta) ∧ w'.cell? ⟨w.heap.size, 3, none⟩ = some (.slice qa' ma' mac') ∧ w'.cell? ⟨w.heap.size + 1, 0, none⟩ = some (.bool sb) ∧ w'.cell? ⟨w.heap.size + 1, 1, none⟩ = some (.slice pb' nb' nbc') ∧ w'.cell? ⟨w.heap.size + 1, 2, none⟩ = some (.bool tb) ∧ w'.cell? ⟨w.heap.size + 1, 3, none⟩ = some (.slice qb' mb' mbc') ∧ w'.cell? ⟨g1, 0, none⟩ = some (.bool y1.s) ∧ w'.cell? ⟨g1, 1, none⟩ = some (.slice y1.p y1.n y1.n) ∧ w'.cell? ⟨g1, 2, none⟩ = some (.bool y1.t) ∧ w'.cell? ⟨g1, 3, none⟩ = some (.slice y1.q y1.m y1.m) ∧ w'.cell? ⟨g2, 0, none⟩ = some (.bool y2.s) ∧ w'.cell? ⟨g2, 1, none⟩ = some (.slice y2.p y2.n y2.n) ∧ w'.cell? ⟨g2, 2, none⟩ = some (.bool y2.t) ∧ w'.cell? ⟨g2, 3, none⟩ = some (.slice y2.q y2.m y2.m)) (first | with_reducible exact ⟨a0, a1, a2, a3, b0, b1, b2, b3, i0, i1, i2, i3, j0, j1, j2, j3⟩ | with_reducible exact keep16 ⟨a0, a1, a2, a3, b0, b1, b2, b3, i0, i1, i2, i3, j0, j1, j2, j3⟩ hV1 | with_reducible exact keep16 ⟨a0, a1, a2, a3, b0, b1, b2, b3, i0, i1, i2, i3, j0, j1, j2, j3⟩ hV2 | with_reducible exact keep16 ⟨a0, a1, a2, a3, b0, b1, b2, b3, i0, i1, i2, i3, j0, j1, j2, j3⟩ hV3 | with_reducible exact keep16 ⟨a0, a1, a2, a3, b0, b1, b2, b3, i0, i1, i2, i3, j0, j1, j2, j3⟩ hV4 | exact ⟨a0, a1, a2, a3, b0, b1, b2, b3, i0, i1, i2, i3, j0, j1, j2, j3⟩)
        (first
          | (go_at_call 12; refine (qSub_q hD1.c.a.a.drew hD1.c.b.a.drew (by decide) (by decide) (by decide)).mono ?_; rintro e v1 ⟨s1, p1, n1, t1, q1, m1, rfl, hN1, hv1⟩; have hV1 := undrew hv1)
          | (go_at_call 13; refine (rNeg_q (hD1.y.m.below hV1)).mono ?_; rintro e v2 ⟨s2, p2, n2, t2, q2, m2, rfl, hM2, hv2⟩; have hV2 := bnext' hV1 hv2)
          | (go_at_call 11; refine (rAdd_q (hD1.x.m.below hV2) hM2 (by decide) (by decide) (by decide)).mono ?_; rintro e v3 ⟨s3, p3, n3, t3, q3, m3, rfl, hM3, hF3, hF3', hv3⟩; have hV3 := bnext' hV2 hv3)
          | (go_at_call 9; refine (rIs_q ((hN1.below hv2).below hv3) hM3 (by decide) (by decide)).mono ?_; rintro e v4 ⟨rfl, hv4⟩; have hV4 := bnext' hV3 hv4))
      have hD2 := hD1.later hV4
      clear hD1 hV1 hv1 hV2 hv2 hV3 hv3 hV4 hv4
      clear a0 a1 a2 a3 b0 b1 b2 b3 i0 i1 i2 i3 j0 j1 j2 j3
      clear hN1 hM2 hM3 hF3 hF3'
      have a0 := hD2.c.a.b.c0
      have a1 := hD2.c.a.b.c1
      have a2 := hD2.c.a.b.c2
      have a3 := hD2.c.a.b.c3
      have b0 := hD2.c.b.b.c0
      have b1 := hD2.c.b.b.c1
      have b2 := hD2.c.b.b.c2
      have b3 := hD2.c.b.b.c3
      have i0 := hD2.x.b.c0
      have i1 := hD2.x.b.c1
      have i2 := hD2.x.b.c2
      have i3 := hD2.x.b.c3
      have j0 := hD2.y.b.c0
      have j1 := hD2.y.b.c1
      have j2 := hD2.y.b.c2
      have j3 := hD2.y.b.c3
      go_upto_region 6 with fail
      go_region_held3 (fun w' => w'.cell? ⟨w.heap.size, 0, none⟩ = some (.bool sa) ∧ w'.cell? ⟨w.heap.size, 1, none⟩ = some (.slice pa' na' nac') ∧ w'.cell? ⟨w.heap.size, 2, none⟩ = some (.bool ta) ∧ w'.cell? ⟨w.heap.size, 3, none⟩ = some (.slice qa' ma' mac') ∧ w'.cell? ⟨w.heap.size + 1, 0, none⟩ = some (.bool sb) ∧ w'.cell? ⟨w.heap.size + 1, 1, none⟩ = some (.slice pb' nb' nbc') ∧ w'.cell? ⟨w.heap.size + 1, 2, none⟩ = some (.bool tb) ∧ w'.cell? ⟨w.heap.size + 1, 3, none⟩ = some (.slice qb' mb' mbc') ∧ w'.cell? ⟨g1, 0, none⟩ = some (.bool y1.s) ∧ w'.cell? ⟨g1, 1, none⟩ = some (.slice y1.p y1.n y1.n) ∧ w'.cell? ⟨g1, 2, none⟩ = some (.bool y1.t) ∧ w'.cell? ⟨g1, 3, none⟩ = some (.slice y1.q y1.m y1.m) ∧ w'.cell? ⟨g2, 0, none⟩ = some (.bool y2.s) ∧ w'.cell? ⟨g2, 1, none⟩ = some (.slice y2.p y2.n y2.n) ∧ w'.cell? ⟨g2, 2, none⟩ = some (.bool y2.t) ∧ w'.cell? ⟨g2, 3, none⟩ = some (.slice y2.q y2.m y2.m)) (first | with_reducible exact ⟨a0, a1, a2, a3, b0, b1, b2, b3, i0, i1, i2, i3, j0, j1, j2, j3⟩ | with_reducible exact keep16 ⟨a0, a1, a2, a3, b0, b1, b2, b3, i0, i1, i2, i3, j0, j1, j2, j3⟩ hV1 | with_reducible exact keep16 ⟨a0, a1, a2, a3, b0, b1, b2, b3, i0, i1, i2, i3, j0, j1, j2, j3⟩ hV2 | with_reducible exact keep16 ⟨a0, a1, a2, a3, b0, b1, b2, b3, i0, i1, i2, i3, j0, j1, j2, j3⟩ hV3 | with_reducible exact keep16 ⟨a0, a1, a2, a3, b0, b1, b2, b3, i0, i1, i2, i3, j0, j1, j2, j3⟩ hV4 | exact ⟨a0, a1, a2, a3, b0, b1, b2, b3, i0, i1, i2, i3, j0, j1, j2, j3⟩)
        (first
          | (go_at_call 14; refine (qMul_q hD2.c.a.a.drew hD2.c.b.a.drew (by decide) (by decide) (by decide)).mono ?_; rintro e v1 ⟨s1, p1, n1, t1, q1, m1, rfl, hN1, hv1⟩; have hV1 := undrew hv1)
          | (go_at_call 15; refine (rMul_q (hD2.x.m.below hV1) (hD2.y.m.below hV1) (by decide) (by decide) (by decide)).mono ?_; rintro e v2 ⟨s2, p2, n2, t2, q2, m2, rfl, hM2, hF2, hF2', hv2⟩; have hV2 := bnext' hV1 hv2)
          | (go_at_call 9; refine (rIs_q (hN1.below hv2) hM2 (by decide) (by decide)).mono ?_; rintro e v3 ⟨rfl, hv3⟩; have hV3 := bnext' hV2 hv3))
      have hD3 := hD2.later hV3
      clear hD2 hV1 hv1 hV2 hv2 hV3 hv3
      clear a0 a1 a2 a3 b0 b1 b2 b3 i0 i1 i2 i3 j0 j1 j2 j3
      clear hN1 hM2 hF2 hF2'
      have a0 := hD3.c.a.b.c0
      have a1 := hD3.c.a.b.c1
      have a2 := hD3.c.a.b.c2
      have a3 := hD3.c.a.b.c3
      have b0 := hD3.c.b.b.c0
      have b1 := hD3.c.b.b.c1
      have b2 := hD3.c.b.b.c2
      have b3 := hD3.c.b.b.c3
      have i0 := hD3.x.b.c0
      have i1 := hD3.x.b.c1
      have i2 := hD3.x.b.c2
      have i3 := hD3.x.b.c3
      have j0 := hD3.y.b.c0
      have j1 := hD3.y.b.c1
      have j2 := hD3.y.b.c2
      have j3 := hD3.y.b.c3
      go_upto_region 7 with fail
      go_region_held3 (fun w' => w'.cell? ⟨w.heap.size, 0, none⟩ = some (.bool sa) ∧ w'.cell? ⟨w.heap.size, 1, none⟩ = some (.slice pa' na' nac') ∧ w'.cell? ⟨w.heap.size, 2, none⟩ = some (.bool ta) ∧ w'.cell? ⟨w.heap.size, 3, none⟩ = some (.slice qa' ma' mac') ∧ w'.cell? ⟨w.heap.size + 1, 0, none⟩ = some (.bool sb) ∧ w'.cell? ⟨w.heap.size + 1, 1, none⟩ = some (.slice pb' nb' nbc') ∧ w'.cell? ⟨w.heap.size + 1, 2, none⟩ = some (.bool tb) ∧ w'.cell? ⟨w.heap.size + 1, 3, none⟩ = some (.slice qb' mb' mbc') ∧ w'.cell? ⟨g1, 0, none⟩ = some (.bool y1.s) ∧ w'.cell? ⟨g1, 1, none⟩ = some (.slice y1.p y1.n y1.n) ∧ w'.cell? ⟨g1, 2, none⟩ = some (.bool y1.t) ∧ w'.cell? ⟨g1, 3, none⟩ = some (.slice y1.q y1.m y1.m) ∧ w'.cell? ⟨g2, 0, none⟩ = some (.bool y2.s) ∧ w'.cell? ⟨g2, 1, none⟩ = some (.slice y2.p y2.n y2.n) ∧ w'.cell? ⟨g2, 2, none⟩ = some (.bool y2.t) ∧ w'.cell? ⟨g2, 3, none⟩ = some (.slice y2.q y2.m y2.m)) (first | with_reducible exact ⟨a0, a1, a2, a3, b0, b1, b2, b3, i0, i1, i2, i3, j0, j1, j2, j3⟩ | with_reducible exact keep16 ⟨a0, a1, a2, a3, b0, b1, b2, b3, i0, i1, i2, i3, j0, j1, j2, j3⟩ hV1 | with_reducible exact keep16 ⟨a0, a1, a2, a3, b0, b1, b2, b3, i0, i1, i2, i3, j0, j1, j2, j3⟩ hV2 | with_reducible exact keep16 ⟨a0, a1, a2, a3, b0, b1, b2, b3, i0, i1, i2, i3, j0, j1, j2, j3⟩ hV3 | with_reducible exact keep16 ⟨a0, a1, a2, a3, b0, b1, b2, b3, i0, i1, i2, i3, j0, j1, j2, j3⟩ hV4 | exact ⟨a0, a1, a2, a3, b0, b1, b2, b3, i0, i1, i2, i3, j0, j1, j2, j3⟩)
        (first
          | (go_at_call 16; refine (qNorm_q hD3.c.a.a.drew (by decide) (by decide)).mono ?_; rintro e v1 ⟨s1, p1, n1, t1, q1, m1, rfl, hN1, hv1⟩; have hV1 := undrew hv1)
          | (go_at_call 9; refine (rIs_q hN1 (hD3.x.m.below hV1) (by decide) (by decide)).mono ?_; rintro e v2 ⟨rfl, hv2⟩; have hV2 := bnext' hV1 hv2))
      have hD4 := hD3.later hV2
      clear hD3 hV1 hv1 hV2 hv2
      clear a0 a1 a2 a3 b0 b1 b2 b3 i0 i1 i2 i3 j0 j1 j2 j3
      clear hN1
      have a0 := hD4.c.a.b.c0
      have a1 := hD4.c.a.b.c1
      have a2 := hD4.c.a.b.c2
      have a3 := hD4.c.a.b.c3
      have b0 := hD4.c.b.b.c0
      have b1 := hD4.c.b.b.c1
      have b2 := hD4.c.b.b.c2
      have b3 := hD4.c.b.b.c3
      have i0 := hD4.x.b.c0
      have i1 := hD4.x.b.c1
      have i2 := hD4.x.b.c2
      have i3 := hD4.x.b.c3
      have j0 := hD4.y.b.c0
      have j1 := hD4.y.b.c1
      have j2 := hD4.y.b.c2
      have j3 := hD4.y.b.c3
      go_upto_region 8 with fail
      go_region_held3 (fun w' => w'.cell? ⟨w.heap.size, 0, none⟩ = some (.bool sa) ∧ w'.cell? ⟨w.heap.size, 1, none⟩ = some (.slice pa' na' nac') ∧ w'.cell? ⟨w.heap.size, 2, none⟩ = some (.bool ta) ∧ w'.cell? ⟨w.heap.size, 3, none⟩ = some (.slice qa' ma' mac') ∧ w'.cell? ⟨w.heap.size + 1, 0, none⟩ = some (.bool sb) ∧ w'.cell? ⟨w.heap.size + 1, 1, none⟩ = some (.slice pb' nb' nbc') ∧ w'.cell? ⟨w.heap.size + 1, 2, none⟩ = some (.bool tb) ∧ w'.cell? ⟨w.heap.size + 1, 3, none⟩ = some (.slice qb' mb' mbc') ∧ w'.cell? ⟨g1, 0, none⟩ = some (.bool y1.s) ∧ w'.cell? ⟨g1, 1, none⟩ = some (.slice y1.p y1.n y1.n) ∧ w'.cell? ⟨g1, 2, none⟩ = some (.bool y1.t) ∧ w'.cell? ⟨g1, 3, none⟩ = some (.slice y1.q y1.m y1.m) ∧ w'.cell? ⟨g2, 0, none⟩ = some (.bool y2.s) ∧ w'.cell? ⟨g2, 1, none⟩ = some (.slice y2.p y2.n y2.n) ∧ w'.cell? ⟨g2, 2, none⟩ = some (.bool y2.t) ∧ w'.cell? ⟨g2, 3, none⟩ = some (.slice y2.q y2.m y2.m)) (first | with_reducible exact ⟨a0, a1, a2, a3, b0, b1, b2, b3, i0, i1, i2, i3, j0, j1, j2, j3⟩ | with_reducible exact keep16 ⟨a0, a1, a2, a3, b0, b1, b2, b3, i0, i1, i2, i3, j0, j1, j2, j3⟩ hV1 | with_reducible exact keep16 ⟨a0, a1, a2, a3, b0, b1, b2, b3, i0, i1, i2, i3, j0, j1, j2, j3⟩ hV2 | with_reducible exact keep16 ⟨a0, a1, a2, a3, b0, b1, b2, b3, i0, i1, i2, i3, j0, j1, j2, j3⟩ hV3 | with_reducible exact keep16 ⟨a0, a1, a2, a3, b0, b1, b2, b3, i0, i1, i2, i3, j0, j1, j2, j3⟩ hV4 | exact ⟨a0, a1, a2, a3, b0, b1, b2, b3, i0, i1, i2, i3, j0, j1, j2, j3⟩)
        (first
          | (go_at_call 17; refine (qCmp_q hD4.c.a.a.drew hD4.c.b.a.drew (by decide) (by decide) (by decide)).mono ?_; rintro e v1 ⟨rfl, hv1⟩; have hV1 := undrew hv1)
          | (go_at_call 18; refine (rCmp_q (hD4.x.m.below hV1) (hD4.y.m.below hV1) (by decide) (by decide) (by decide)).mono ?_; rintro e v2 ⟨rfl, hv2⟩; have hV2 := bnext' hV1 hv2)
          | (go_at_call 19; refine (qBits_q (hD4.c.a.a.below hV2) (by decide)).mono ?_; rintro e v3 ⟨o1, z1, rfl, hb1, hc1, hv3⟩; have hV3 := bnext' hV2 hv3)
          | (go_at_call 20; refine (rBits_q (hD4.x.m.below hV3) (by decide)).mono ?_; rintro e v4 ⟨o2, z2, rfl, hb2, hc2, hv4⟩; have hV4 := bnext' hV3 hv4; obtain rfl := hb1.out.uniq hb2.out; obtain rfl := hc1.out.uniq hc2.out))
      have hD5 := hD4.later hV4
      clear hD4 hV1 hv1 hV2 hv2 hV3 hv3 hV4 hv4
      clear a0 a1 a2 a3 b0 b1 b2 b3 i0 i1 i2 i3 j0 j1 j2 j3
      go_wp2
      go_ret
      exact ⟨rfl, hD5.c.bel⟩
end Go.Proofs.YtongkalfdgleaaaGreatDoor
