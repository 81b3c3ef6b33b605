/-
  ashlarlaw2.RatQuo: for all rationals the law's answer is true.
-/
import Derived.Test.YtongkalfdgleaaaGreatDoorZi
import Derived.Test.YtongkalfdgleaaaGreatDoorZjZn
import Derived.Test.YtongkalfdgleaaaGreatDoorZpTaTbTcRg
import Derived.Test.YtongkalfdgleaaaGreatDoorYe
import Derived.Test.YtongkalfdgleaaaGreatDoorRzCwYhRsYg
import Derived.Test.YtongkalfdgleaaaGreatDoorYjYk
import Derived.Test.YtongkalfdgleaaaGreatDoorYl
namespace Go.Proofs.YtongkalfdgleaaaGreatDoor
open Go.RowKit
set_option linter.unusedVariables false
set_option linter.unusedSimpArgs false

/-- Two rationals in variables of their own, behind Cut. -/
structure C2q (w wc : World) (sa ta sb tb : Bool) (pa qa pb qb : Option Addr) (na nac ma mac nb nbc mb mbc : Nat) (ra rb : Rat) : Prop where
  a : Wq wc w.heap.size 24 sa pa na nac ta qa ma mac ra
  b : Wq wc (w.heap.size + 1) 24 sb pb nb nbc tb qb mb mbc rb
  bel : Below w.heap.size w wc
theorem C2q.later {w wc w' : World} {sa ta sb tb : Bool} {pa qa pb qb : Option Addr} {na nac ma mac nb nbc mb mbc : Nat} {ra rb : Rat} (h : C2q w wc sa ta sb tb pa qa pb qb na nac ma mac nb nbc mb mbc ra rb) (hb : Below wc.heap.size wc w') : C2q w w' sa ta sb tb pa qa pb qb na nac ma mac nb nbc mb mbc ra rb :=
  ⟨h.a.later hb, h.b.later hb, bnext' h.bel hb⟩
/-- Two rationals and their reference rationals, in variables of their own. -/
structure D4 (w wd : World) (sa ta sb tb : Bool) (pa qa pb qb : Option Addr) (na nac ma mac nb nbc mb mbc : Nat) (ra rb : Rat) (y1 y2 : QW) (g1 g2 : Nat) : Prop where
  c : C2q w wd sa ta sb tb pa qa pb qb na nac ma mac nb nbc mb mbc ra rb
  x : Mx wd g1 24 y1 ra
  y : Mx wd g2 24 y2 rb
theorem D4.later {w wd w' : World} {sa ta sb tb : Bool} {pa qa pb qb : Option Addr} {na nac ma mac nb nbc mb mbc : Nat} {ra rb : Rat} {y1 y2 : QW} {g1 g2 : Nat} (h : D4 w wd sa ta sb tb pa qa pb qb na nac ma mac nb nbc mb mbc ra rb y1 y2 g1 g2) (hb : Below wd.heap.size wd w') : D4 w w' sa ta sb tb pa qa pb qb na nac ma mac nb nbc mb mbc ra rb y1 y2 g1 g2 := ⟨h.c.later hb, h.x.later hb, h.y.later hb⟩
theorem keep16 {w1 w2 : World} {a b c d : Nat} {a0 a1 a2 a3 b0 b1 b2 b3 c0 c1 c2 c3 d0 d1 d2 d3 : Value} (k : w1.cell? ⟨a, 0, none⟩ = some a0 ∧ w1.cell? ⟨a, 1, none⟩ = some a1 ∧ w1.cell? ⟨a, 2, none⟩ = some a2 ∧ w1.cell? ⟨a, 3, none⟩ = some a3 ∧ w1.cell? ⟨b, 0, none⟩ = some b0 ∧ w1.cell? ⟨b, 1, none⟩ = some b1 ∧ w1.cell? ⟨b, 2, none⟩ = some b2 ∧ w1.cell? ⟨b, 3, none⟩ = some b3 ∧ w1.cell? ⟨c, 0, none⟩ = some c0 ∧ w1.cell? ⟨c, 1, none⟩ = some c1 ∧ w1.cell? ⟨c, 2, none⟩ = some c2 ∧ w1.cell? ⟨c, 3, none⟩ = some c3 ∧ w1.cell? ⟨d, 0, none⟩ = some d0 ∧ w1.cell? ⟨d, 1, none⟩ = some d1 ∧ w1.cell? ⟨d, 2, none⟩ = some d2 ∧ w1.cell? ⟨d, 3, none⟩ = some d3) (hb : Below w1.heap.size w1 w2) : w2.cell? ⟨a, 0, none⟩ = some a0 ∧ w2.cell? ⟨a, 1, none⟩ = some a1 ∧ w2.cell? ⟨a, 2, none⟩ = some a2 ∧ w2.cell? ⟨a, 3, none⟩ = some a3 ∧ w2.cell? ⟨b, 0, none⟩ = some b0 ∧ w2.cell? ⟨b, 1, none⟩ = some b1 ∧ w2.cell? ⟨b, 2, none⟩ = some b2 ∧ w2.cell? ⟨b, 3, none⟩ = some b3 ∧ w2.cell? ⟨c, 0, none⟩ = some c0 ∧ w2.cell? ⟨c, 1, none⟩ = some c1 ∧ w2.cell? ⟨c, 2, none⟩ = some c2 ∧ w2.cell? ⟨c, 3, none⟩ = some c3 ∧ w2.cell? ⟨d, 0, none⟩ = some d0 ∧ w2.cell? ⟨d, 1, none⟩ = some d1 ∧ w2.cell? ⟨d, 2, none⟩ = some d2 ∧ w2.cell? ⟨d, 3, none⟩ = some d3 := by
  obtain ⟨h0, h1, h2, h3, h4, h5, h6, h7, h8, h9, h10, h11, h12, h13, h14, h15⟩ := k
  exact ⟨cell_later hb h0, cell_later hb h1, cell_later hb h2, cell_later hb h3, cell_later hb h4, cell_later hb h5, cell_later hb h6, cell_later hb h7, cell_later hb h8, cell_later hb h9, cell_later hb h10, cell_later hb h11, cell_later hb h12, cell_later hb h13, cell_later hb h14, cell_later hb h15⟩
/-- An answer in a variable of its own. -/
structure Nx (w : World) (g K : Nat) (x : QW) (r : Rat) : Prop where
  b : Bq w g (.bool x.s) (.slice x.p x.n x.n) (.bool x.t) (.slice x.q x.m x.m)
  m : NQ 0 w K x.s x.p x.n x.t x.q x.m r
theorem Nx.later {w w' : World} {g K : Nat} {x : QW} {r : Rat} (h : Nx w g K x r) (hb : Below w.heap.size w w') : Nx w' g K x r := ⟨h.b.later hb, h.m.below hb⟩
theorem NQ.low {B : Nat} {w : World} {K : Nat} {s : Bool} {p : Option Addr} {n : Nat} {t : Bool} {q : Option Addr} {m : Nat} {r : Rat} (h : NQ B w K s p n t q m r) : NQ 0 w K s p n t q m r := by
  obtain ⟨xs, ys, h1, h2⟩ := h
  exact ⟨xs, ys, ⟨h1.num.mono (Nat.zero_le _), h1.den.mono (Nat.zero_le _)⟩, h2⟩
theorem Nx.new {B : Nat} {w : World} {K : Nat} {x : QW} {r : Rat} (h : NQ B w K x.s x.p x.n x.t x.q x.m r) (T : Nat) : Nx (w.alloc (.cells #[.bool x.s, .slice x.p x.n x.n, .bool x.t, .slice x.q x.m x.m] T)) w.heap.size K x r := ⟨Bq.new _ _ _ _ _ rfl, h.low.below (bel_al (Below.refl _ _))⟩
theorem Mx.new {w : World} {K : Nat} {x : QW} {r : Rat} (h : MQ w K x.s x.p x.n x.t x.q x.m r) (T : Nat) : Mx (w.alloc (.cells #[.bool x.s, .slice x.p x.n x.n, .bool x.t, .slice x.q x.m x.m] T)) w.heap.size K x r := ⟨Bq.new _ _ _ _ _ rfl, h.alloc _⟩
theorem MQ.up {w : World} {K L : Nat} {s : Bool} {p : Option Addr} {n : Nat} {t : Bool} {q : Option Addr} {m : Nat} {r : Rat} (h : MQ w K s p n t q m r) (hK : K ≤ L) : MQ w L s p n t q m r := ⟨h.num.up (by omega), h.den.up (by omega)⟩
theorem isgn_not {z : Int} (h : z ≠ 0) : isgn z = 1 ∨ isgn z = -1 := by
  rcases (show 0 < z ∨ z < 0 by omega) with h | h
  · exact .inl (isgn_pos h)
  · exact .inr (isgn_neg h)
theorem div_none {a b : Rat} (h : b = 0) : ((0 : Int) : Rat) = a / b := by
  subst h
  rw [Rat.div_def, Rat.inv_zero, Rat.mul_zero]
  rfl
set_option maxRecDepth 100000 in
set_option maxHeartbeats 8000000 in
theorem RatQuo_walk (sa ta sb tb : Bool) (pa qa pb qb : Option Addr) (na nac ma mac nb nbc mb mbc : Nat) (xa ya xb yb : List Int) (N M : Int) (hN : -9223372036854775808 ≤ N ∧ N ≤ 9223372036854775807) (hM : -9223372036854775808 ≤ M ∧ M ≤ 9223372036854775807) (w : World)
    (hla : xa.length = na) (hnca : na ≤ nac) (hba : nac ≤ maxLen) (hXa : Rd w pa .u32 xa) (hUa : U32 xa) (hpa : pa = none → nac = 0)
    (hma : ya.length = ma) (hmca : ma ≤ mac) (hca : mac ≤ maxLen) (hYa : Rd w qa .u32 ya) (hVa : U32 ya) (hqa : qa = none → mac = 0)
    (hlb : xb.length = nb) (hncb : nb ≤ nbc) (hbb : nbc ≤ maxLen) (hXb : Rd w pb .u32 xb) (hUb : U32 xb) (hpb : pb = none → nbc = 0)
    (hmb : yb.length = mb) (hmcb : mb ≤ mbc) (hcb : mbc ≤ maxLen) (hYb : Rd w qb .u32 yb) (hVb : U32 yb) (hqb : qb = none → mbc = 0) :
    Calls Tryz.prog 4 #[.agg #[.bool sa, .slice pa na nac, .bool ta, .slice qa ma mac], .agg #[.bool sb, .slice pb nb nbc, .bool tb, .slice qb mb mbc], .int .i64 N, .int .i64 M] w fun e w' => e = .returned (.bool true) ∧ Below w.heap.size w w' := by
  go_enter Tryz.func4, Tryz.ntmps4
  go_wp2_with fail
  have hA0 : Bq (((w).alloc (.cells #[.bool sa, .slice pa na nac, .bool ta, .slice qa ma mac] 26)).alloc (.cells #[.bool sb, .slice pb nb nbc, .bool tb, .slice qb mb mbc] 26)) w.heap.size (.bool sa) (.slice pa na nac) (.bool ta) (.slice qa ma mac) := (Bq.new _ _ _ _ _ rfl).alloc _
  have hB0 : Bq (((w).alloc (.cells #[.bool sa, .slice pa na nac, .bool ta, .slice qa ma mac] 26)).alloc (.cells #[.bool sb, .slice pb nb nbc, .bool tb, .slice qb mb mbc] 26)) (w.heap.size + 1) (.bool sb) (.slice pb nb nbc) (.bool tb) (.slice qb mb mbc) := Bq.new _ _ _ _ _ (by simp)
  have hW0 : Below w.heap.size w (((w).alloc (.cells #[.bool sa, .slice pa na nac, .bool ta, .slice qa ma mac] 26)).alloc (.cells #[.bool sb, .slice pb nb nbc, .bool tb, .slice qb mb mbc] 26)) := ((Below.refl _ _).alloc (Nat.le_refl _) _).alloc (by simp) _
  generalize ((w).alloc (.cells #[.bool sa, .slice pa na nac, .bool ta, .slice qa ma mac] 26)).alloc (.cells #[.bool sb, .slice pb nb nbc, .bool tb, .slice qb mb mbc] 26) = W0 at *
  refine (qbegun_any _).mono ?_
  rintro e w1 ⟨rfl, hb1⟩
  have hA1 := hA0.later hb1
  have hB1 := hB0.later hb1
  have hW1 := bnext' hW0 hb1
  clear hA0 hB0 hW0 hb1
  go_upto_region 2 with fail
  go_cut [] (fun wc => ∃ pa' na' nac' qa' ma' mac' pb' nb' nbc' qb' mb' mbc', C2q w wc sa ta sb tb pa' qa' pb' qb' na' nac' ma' mac' nb' nbc' mb' mbc' (Rat.divInt (ival sa (xa.take 24)) (ival ta (ya.take 24))) (Rat.divInt (ival sb (xb.take 24)) (ival tb (yb.take 24))))
  case first =>
    have a0 := hA1.c0
    have a1 := hA1.c1
    have a2 := hA1.c2
    have a3 := hA1.c3
    have b0 := hB1.c0
    have b1 := hB1.c1
    have b2 := hB1.c2
    have b3 := hB1.c3
    go_region_with (first
      | (go_at_call_of 7 (Value.agg #[.bool sa, .slice pa na nac, .bool ta, .slice qa ma mac]); refine (qCut_any sa ta pa qa na nac ma mac xa ya _ hla hnca hba (hXa.below hW1).drew hUa hpa hma hmca hca (hYa.below hW1).drew hVa hqa).mono ?_; rintro e w2 ⟨pa', na', nac', qa', ma', mac', rfl, hA, hA', hna24, hma24, hFa, hFa', hb2⟩; have hB2 := hB1.later (undrew hb2); have b20 := hB2.c0; have b21 := hB2.c1; have b22 := hB2.c2; have b23 := hB2.c3)
      | (go_at_call_of 7 (Value.agg #[.bool sb, .slice pb nb nbc, .bool tb, .slice qb mb mbc]); refine (qCut_any sb tb pb qb nb nbc mb mbc xb yb _ hlb hncb hbb ((hXb.below hW1).drew.below hb2) hUb hpb hmb hmcb hcb ((hYb.below hW1).drew.below hb2) hVb hqb).mono ?_; rintro e w3 ⟨pb', nb', nbc', qb', mb', mbc', rfl, hB, hB', hnb24, hmb24, hFb, hFb', hb3⟩; have hb24 := bnext' (undrew hb2) hb3; have hA4 := hA1.later hb24; have hB4 := hB1.later hb24; obtain ⟨a40, a41, a42, a43, fa0, fa1, fa2, fa3⟩ := hA4; obtain ⟨b40, b41, b42, b43, fb0, fb1, fb2, fb3⟩ := hB4))
    all_goals (go_wp2_with fail; go_meet)
    all_goals
      have sA := hA1.lt
      have sB := hB1.lt
      have s2 : w1.heap.size ≤ w2.heap.size := hb2.size
      have s3 := hb3.size
      have hA4 := hA1.later hb24
      have hB4 := hB1.later hb24
      have qA : AQ w3 24 sa pa' na' nac' ta qa' ma' mac' (Rat.divInt (ival sa (xa.take 24)) (ival ta (ya.take 24))) := ⟨_, _, hA.below hb3, hA'.below hb3, hna24, hma24, rfl⟩
      have qB : AQ w3 24 sb pb' nb' nbc' tb qb' mb' mbc' (Rat.divInt (ival sb (xb.take 24)) (ival tb (yb.take 24))) := ⟨_, _, hB, hB', hnb24, hmb24, rfl⟩
      refine ⟨pa', na', nac', qa', ma', mac', pb', nb', nbc', qb', mb', mbc', ⟨?_, ?_⟩, ⟨?_, ?_⟩, ?_⟩
      · exact Bq_oth (Bq_set hA4) (by omega)
      · exact (qA.set4 (fun _ => off_from hFa sA) (fun _ => off_from hFa' sA) _ _ _ _).set4 (fun _ => off_from hFa sB) (fun _ => off_from hFa' sB) _ _ _ _
      · exact Bq_set (Bq_oth hB4 (by omega))
      · exact (qB.set4 (fun _ => off_from hFb (by omega)) (fun _ => off_from hFb' (by omega)) _ _ _ _).set4 (fun _ => off_from hFb (by omega)) (fun _ => off_from hFb' (by omega)) _ _ _ _
      · exact bset4 (bset4 (bnext' hW1 hb24) (by omega) _ _ _ _) (by omega) _ _ _ _
  case rest =>
    obtain ⟨pa', na', nac', qa', ma', mac', pb', nb', nbc', qb', mb', mbc', hG⟩ := hcut
    clear hA1 hB1 hW1
    generalize (Rat.divInt (ival sa (xa.take 24)) (ival ta (ya.take 24))) = ra at *
    generalize (Rat.divInt (ival sb (xb.take 24)) (ival tb (yb.take 24))) = rb at *
    go_upto_region 3 with fail
    go_cut [10, 11] (fun xv yv w3 => ∃ (y1 y2 : QW) (g1 g2 : Nat), xv = .pointer (some ⟨g1, 0, none⟩) ∧ yv = .pointer (some ⟨g2, 0, none⟩) ∧ Hid (G2q wc w3 ra rb true true true true true true y1.v y2.v xv yv y1 y2 g1 g2))
    case first =>
      refine region_inv (by kernel_rfl) (fun listed a w' => ∃ (l1 c1 l2 c2 a1 a2 s1 s2 : Bool) (v1 v2 r1 r2 x1 x2 : Value) (y1 y2 : QW) (g1 g2 : Nat), listed = #[l1, c1, l2, c2, a1, a2, s1, s2] ∧ a = ({ tmps := ((.agg #[.bool sa, .slice pa na nac, .bool ta, .slice qa ma mac]) :: (.agg #[.bool sb, .slice pb nb nbc, .bool tb, .slice qb mb mbc]) :: (.int .i64 N) :: (.int .i64 M) :: (.pointer (some ⟨w.heap.size, 0, none⟩)) :: (.pointer (some ⟨w.heap.size + 1, 0, none⟩)) :: (undef) :: (undef) :: (.bool false) :: (.bool true) :: (x1) :: (x2) :: (undef) :: (undef) :: (undef) :: (undef) :: (undef) :: (undef) :: (undef) :: (undef) :: (undef) :: (undef) :: (undef) :: (undef) :: (undef) :: (undef) :: (u26) :: (u27) :: (u28) :: (u29) :: (u30) :: (v1) :: (r1) :: (v2) :: (r2) :: (u35) :: (u36) :: (u37) :: (u38) :: (u39) :: (u40) :: (u41) :: (u42) :: (u43) :: (u44) :: (u45) :: (u46) :: (u47) :: (u48) :: (u49) :: (u50) :: (u51) :: (u52) :: (u53) :: (u54) :: (u55) :: (u56) :: (u57) :: (u58) :: (u59) :: (u60) :: (u61) :: (u62) :: (u63) :: (u64) :: (u65) :: (u66) :: (u67) :: (u68) :: (u69) :: (u70) :: (u71) :: (u72) :: (u73) :: (u74) :: (u75) :: (u76) :: (u77) :: (u78) :: (u79) :: (u80) :: (u81) :: (u82) :: (u83) :: (u84) :: (u85) :: (u86) :: (u87) :: (u88) :: (u89) :: (u90) :: (u91) :: (u92) :: (u93) :: (u94) :: (u95) :: (u96) :: (u97) :: (u98) :: (u99) :: (u100) :: (u101) :: (u102) :: (u103) :: (u104) :: (u105) :: (u106) :: (u107) :: (u108) :: (u109) :: (u110) :: (u111) :: (u112) :: (u113) :: (u114) :: (u115) :: (u116) :: (u117) :: (u118) :: (u119) :: (u120) :: (u121) :: (u122) :: (u123) :: (u124) :: (u125) :: (u126) :: (u127) :: (u128) :: (u129) :: (u130) :: (u131) :: (u132) :: (u133) :: (u134) :: (u135) :: (u136) :: ([] : List Value)).toArray, defers := [] } : Act) ∧ (l1 = true → v1 = .agg #[.bool sa, .slice pa' na' nac', .bool ta, .slice qa' ma' mac']) ∧ (l2 = true → v2 = .agg #[.bool sb, .slice pb' nb' nbc', .bool tb, .slice qb' mb' mbc']) ∧ Hid (G2q wc w' ra rb c1 c2 a1 a2 s1 s2 r1 r2 x1 x2 y1 y2 g1 g2)) (by kernel_rfl) ?_ ?_ ?_
      · rintro listed a w' ⟨l1, c1, l2, c2, a1, a2, s1, s2, v1, v2, r1, r2, x1, x2, y1, y2, g1, g2, rfl, rfl, hv1, hv2, H⟩ hall
        obtain rfl : l1 = true := by simpa using hall 0 (by decide)
        obtain rfl : c1 = true := by simpa using hall 1 (by decide)
        obtain rfl : l2 = true := by simpa using hall 2 (by decide)
        obtain rfl : c2 = true := by simpa using hall 3 (by decide)
        obtain rfl : a1 = true := by simpa using hall 4 (by decide)
        obtain rfl : a2 = true := by simpa using hall 5 (by decide)
        obtain rfl : s1 = true := by simpa using hall 6 (by decide)
        obtain rfl : s2 = true := by simpa using hall 7 (by decide)
        clear hall
        obtain rfl := (H.out.X1 rfl).1
        obtain rfl := (H.out.X2 rfl).1
        obtain rfl := (H.out.R1 rfl).1
        obtain rfl := (H.out.R2 rfl).1
        go_wp2_with fail
        go_meet
        exact ⟨y1, y2, g1, g2, rfl, rfl, H⟩
      · rintro listed a w' ⟨l1, c1, l2, c2, a1, a2, s1, s2, v1, v2, r1, r2, x1, x2, y1, y2, g1, g2, rfl, rfl, hv1, hv2, H⟩ i o hio h0 hd
        have hi : i < 8 := (Array.getElem?_eq_some_iff.1 hio).1
        rcases i with _ | _ | _ | _ | _ | _ | _ | _ | i
        · obtain rfl := (Option.some.inj hio)
          replace h0 : l1 = false := by simpa using h0
          clear hd
          refine wpOp_step rfl (fun K' hK0 => ?_)
          have hK := (show Hid _ from hK0)
          clear hK0
          have hC := hG.later H.out.bel
          have z0 := hC.a.b.c0
          have z1 := hC.a.b.c1
          have z2 := hC.a.b.c2
          have z3 := hC.a.b.c3
          go_wp2
          exact hK.out _ _ ⟨true, c1, l2, c2, a1, a2, s1, s2, .agg #[.bool sa, .slice pa' na' nac', .bool ta, .slice qa' ma' mac'], v2, r1, r2, x1, x2, y1, y2, g1, g2, rfl, rfl, fun _ => rfl, hv2, H.out⟩
        · obtain rfl := (Option.some.inj hio)
          replace h0 : c1 = false := by simpa using h0
          have hd0 : l1 = true := by simpa [Region.binds] using hd ⟨0, .data⟩ (by simp)
          clear hd
          refine wpOp_step rfl (fun K' hK0 => ?_)
          have hK := (show Hid _ from hK0)
          clear hK0
          obtain rfl := hv1 hd0
          have hC := hG.later H.out.bel
          have hfr := rFrom_q hC.a.a (by decide) (by decide)
          go_wp2_with fail
          refine hfr.mono ?_
          rintro e w'' ⟨s, p, n, t, q, m, rfl, q1, q2, q3, q4⟩
          have H2 := H.out.call1 (by rw [h0]; decide) (y := ⟨s, p, n, t, q, m⟩) q4 q1 q2 q3
          clear hfr
          go_wp2
          exact hK.out _ _ ⟨l1, true, l2, c2, a1, a2, s1, s2, _, v2, (⟨s, p, n, t, q, m⟩ : QW).v, r2, x1, x2, ⟨s, p, n, t, q, m⟩, y2, g1, g2, rfl, rfl, fun _ => rfl, hv2, H2⟩
        · obtain rfl := (Option.some.inj hio)
          replace h0 : l2 = false := by simpa using h0
          clear hd
          refine wpOp_step rfl (fun K' hK0 => ?_)
          have hK := (show Hid _ from hK0)
          clear hK0
          have hC := hG.later H.out.bel
          have z0 := hC.b.b.c0
          have z1 := hC.b.b.c1
          have z2 := hC.b.b.c2
          have z3 := hC.b.b.c3
          go_wp2
          exact hK.out _ _ ⟨l1, c1, true, c2, a1, a2, s1, s2, v1, .agg #[.bool sb, .slice pb' nb' nbc', .bool tb, .slice qb' mb' mbc'], r1, r2, x1, x2, y1, y2, g1, g2, rfl, rfl, hv1, fun _ => rfl, H.out⟩
        · obtain rfl := (Option.some.inj hio)
          replace h0 : c2 = false := by simpa using h0
          have hd0 : l2 = true := by simpa [Region.binds] using hd ⟨2, .data⟩ (by simp)
          clear hd
          refine wpOp_step rfl (fun K' hK0 => ?_)
          have hK := (show Hid _ from hK0)
          clear hK0
          obtain rfl := hv2 hd0
          have hC := hG.later H.out.bel
          have hfr := rFrom_q hC.b.a (by decide) (by decide)
          go_wp2_with fail
          refine hfr.mono ?_
          rintro e w'' ⟨s, p, n, t, q, m, rfl, q1, q2, q3, q4⟩
          have H2 := H.out.call2 (by rw [h0]; decide) (y := ⟨s, p, n, t, q, m⟩) q4 q1 q2 q3
          clear hfr
          go_wp2
          exact hK.out _ _ ⟨l1, c1, l2, true, a1, a2, s1, s2, v1, _, r1, (⟨s, p, n, t, q, m⟩ : QW).v, x1, x2, y1, ⟨s, p, n, t, q, m⟩, g1, g2, rfl, rfl, hv1, fun _ => rfl, H2⟩
        · obtain rfl := (Option.some.inj hio)
          replace h0 : a1 = false := by simpa using h0
          clear hd
          refine wpOp_step rfl (fun K' hK0 => ?_)
          have hK := (show Hid _ from hK0)
          clear hK0
          have H2 := H.out.alloc1 (by rw [h0]; decide) (.bool false) (.slice none 0 0) (.bool false) (.slice none 0 0) 33
          go_wp2
          exact hK.out _ _ ⟨l1, c1, l2, c2, true, a2, s1, s2, v1, v2, r1, r2, (.pointer (some ⟨w'.heap.size, 0, none⟩)), x2, y1, y2, w'.heap.size, g2, rfl, rfl, hv1, hv2, H2⟩
        · obtain rfl := (Option.some.inj hio)
          replace h0 : a2 = false := by simpa using h0
          clear hd
          refine wpOp_step rfl (fun K' hK0 => ?_)
          have hK := (show Hid _ from hK0)
          clear hK0
          have H2 := H.out.alloc2 (by rw [h0]; decide) (.bool false) (.slice none 0 0) (.bool false) (.slice none 0 0) 33
          go_wp2
          exact hK.out _ _ ⟨l1, c1, l2, c2, a1, true, s1, s2, v1, v2, r1, r2, x1, (.pointer (some ⟨w'.heap.size, 0, none⟩)), y1, y2, g1, w'.heap.size, rfl, rfl, hv1, hv2, H2⟩
        · obtain rfl := (Option.some.inj hio)
          replace h0 : s1 = false := by simpa using h0
          have hd0 : a1 = true := by simpa [Region.binds] using hd ⟨4, .data⟩ (by simp)
          have hd1 : c1 = true := by simpa [Region.binds] using hd ⟨1, .data⟩ (by simp)
          clear hd
          refine wpOp_step rfl (fun K' hK0 => ?_)
          have hK := (show Hid _ from hK0)
          clear hK0
          have H2 := H.out.store1 hd0 hd1
          obtain ⟨rfl, -⟩ := H.out.R1 hd1
          obtain ⟨rfl, z2, u0, u1, u2, u3, z3, z4⟩ := H.out.X1 hd0
          have z30 := z3.c0
          have z31 := z3.c1
          have z32 := z3.c2
          have z33 := z3.c3
          have z34 := z3.f0
          have z35 := z3.f1
          have z36 := z3.f2
          have z37 := z3.f3
          go_wp2
          exact hK.out _ _ ⟨l1, c1, l2, c2, a1, a2, true, s2, v1, v2, _, r2, _, x2, y1, y2, g1, g2, rfl, rfl, hv1, hv2, H2⟩
        · obtain rfl := (Option.some.inj hio)
          replace h0 : s2 = false := by simpa using h0
          have hd0 : a2 = true := by simpa [Region.binds] using hd ⟨5, .data⟩ (by simp)
          have hd1 : c2 = true := by simpa [Region.binds] using hd ⟨3, .data⟩ (by simp)
          clear hd
          refine wpOp_step rfl (fun K' hK0 => ?_)
          have hK := (show Hid _ from hK0)
          clear hK0
          have H2 := H.out.store2 hd0 hd1
          obtain ⟨rfl, -⟩ := H.out.R2 hd1
          obtain ⟨rfl, z2, u0, u1, u2, u3, z3, z4⟩ := H.out.X2 hd0
          have z30 := z3.c0
          have z31 := z3.c1
          have z32 := z3.c2
          have z33 := z3.c3
          have z34 := z3.f0
          have z35 := z3.f1
          have z36 := z3.f2
          have z37 := z3.f3
          go_wp2
          exact hK.out _ _ ⟨l1, c1, l2, c2, a1, a2, s1, true, v1, v2, r1, _, x1, _, y1, y2, g1, g2, rfl, rfl, hv1, hv2, H2⟩
        · exact absurd hi (by omega)
      · exact ⟨false, false, false, false, false, false, false, false, u31, u33, u32, u34, undef, undef, ⟨false, none, 0, false, none, 0⟩, ⟨false, none, 0, false, none, 0⟩, 0, 0, rfl, rfl, nofun, nofun, ⟨(Below.refl _ _).drew, nofun, nofun, nofun, nofun, nofun, nofun, nofun, nofun, nofun, nofun, nofun, nofun, nofun⟩⟩
    case rest =>
      obtain ⟨y1, y2, g1, g2, rfl, rfl, H3⟩ := hcut
      have hD0 : D4 w _ sa ta sb tb pa' qa' pb' qb' na' nac' ma' mac' nb' nbc' mb' mbc' ra rb y1 y2 g1 g2 := ⟨hG.later H3.out.bel, (H3.out.X1 rfl).mx (H3.out.R1 rfl), (H3.out.X2 rfl).mx (H3.out.R2 rfl)⟩
      clear hG H3
      have a0 := hD0.c.a.b.c0
      have a1 := hD0.c.a.b.c1
      have a2 := hD0.c.a.b.c2
      have a3 := hD0.c.a.b.c3
      have b0 := hD0.c.b.b.c0
      have b1 := hD0.c.b.b.c1
      have b2 := hD0.c.b.b.c2
      have b3 := hD0.c.b.b.c3
      have i0 := hD0.x.b.c0
      have i1 := hD0.x.b.c1
      have i2 := hD0.x.b.c2
      have i3 := hD0.x.b.c3
      have j0 := hD0.y.b.c0
      have j1 := hD0.y.b.c1
      have j2 := hD0.y.b.c2
      have j3 := hD0.y.b.c3
      go_wp2_with fail
      generalize hc : (if rb = 0 then (2 : Int) else 0) = c
      have HC := (show Hid _ from hc)
      clear hc
      have hq := qQuo_q hD0.c.a.a hD0.c.b.a (by decide) (by decide) (by decide)
      rw [HC.out] at hq
      refine hq.mono ?_
      rintro e w4 ⟨s4, p4, n4, t4, q4, m4, rfl, hN4, hb4⟩
      have hal := bel_al (o := .cells #[.bool s4, .slice p4 n4 n4, .bool t4, .slice q4 m4 m4] 26) hb4
      have hD1 := hD0.later hal
      have hQ1 := Nx.new (x := ⟨s4, p4, n4, t4, q4, m4⟩) hN4 26
      clear hq hN4 hb4 hal hD0 a0 a1 a2 a3 b0 b1 b2 b3 i0 i1 i2 i3 j0 j1 j2 j3
      go_wp2_with fail
      generalize w4.alloc (.cells #[.bool s4, .slice p4 n4 n4, .bool t4, .slice q4 m4 m4] 26) = W4 at *
      generalize w4.heap.size = g4 at *
      refine (rOf_q 0 _ (by decide) (by decide)).mono ?_
      rintro e w5 ⟨s5, p5, n5, t5, q5, m5, rfl, hM5, hF5, hF5', hb5⟩
      have hD2 := hD1.later hb5
      have hQ2 := hQ1.later hb5
      have hE2 := Mx.new (x := ⟨s5, p5, n5, t5, q5, m5⟩) hM5 33
      have hB2 := bel_al (o := .cells #[.bool s5, .slice p5 n5 n5, .bool t5, .slice q5 m5 m5] 33) (Below.refl w5.heap.size w5)
      clear hM5 hb5 hD1 hQ1 hF5 hF5'
      have hD2y := hD2.later hB2
      have j0 := hD2y.y.b.c0
      have j1 := hD2y.y.b.c1
      have j2 := hD2y.y.b.c2
      have j3 := hD2y.y.b.c3
      go_wp2_with fail
      generalize w5.alloc (.cells #[.bool s5, .slice p5 n5 n5, .bool t5, .slice q5 m5 m5] 33) = W5 at *
      refine (rSign_q hD2y.y.m).mono ?_
      rintro e w6 ⟨rfl, hb6⟩
      have hE3 := hE2.later hb6
      have hB3 := bnext' hB2 hb6
      clear j0 j1 j2 j3 hE2 hB2 hb6 hD2y
      go_upto_if 44 with fail
      go_cut [15] (fun cv wc => ∃ y5 : QW, cv = .int .i64 c ∧ D4 w wc sa ta sb tb pa' qa' pb' qb' na' nac' ma' mac' nb' nbc' mb' mbc' ra rb y1 y2 g1 g2 ∧ Nx wc g4 48 ⟨s4, p4, n4, t4, q4, m4⟩ (ra / rb) ∧ Mx wc w5.heap.size 48 y5 (ra / rb))
      case first =>
        have hcs : Hid (rb = 0 ∨ ¬ rb = 0) := Classical.em _
        rcases hcs.out with hz | hz
        · have hi : isgn rb.num = 0 := isgn_zero (by rw [hz]; rfl)
          have hc : c = 2 := by rw [← HC.out, if_pos hz]
          have hv : ((0 : Int) : Rat) = ra / rb := div_none hz
          have HV := (show Hid _ from hv)
          have HC2 := (show Hid _ from hc)
          rw [hi]
          clear hi hv hz hcs hc
          go_wp2_with fail
          go_meet
          exact ⟨⟨s5, p5, n5, t5, q5, m5⟩, by rw [HC2.out], hD2.later hB3, hQ2.later hB3, hE3.b, HV.out ▸ hE3.m.up (by decide)⟩
        · have hi := isgn_not (fun e => hz (Rat.num_eq_zero.1 e))
          have hc : c = 0 := by rw [← HC.out, if_neg hz]
          have HC2 := (show Hid _ from hc)
          clear hz hcs hc
          have hD3 := hD2.later hB3
          have a0 := hD3.c.a.b.c0
          have a1 := hD3.c.a.b.c1
          have a2 := hD3.c.a.b.c2
          have a3 := hD3.c.a.b.c3
          have b0 := hD3.c.b.b.c0
          have b1 := hD3.c.b.b.c1
          have b2 := hD3.c.b.b.c2
          have b3 := hD3.c.b.b.c3
          have i0 := hD3.x.b.c0
          have i1 := hD3.x.b.c1
          have i2 := hD3.x.b.c2
          have i3 := hD3.x.b.c3
          have j0 := hD3.y.b.c0
          have j1 := hD3.y.b.c1
          have j2 := hD3.y.b.c2
          have j3 := hD3.y.b.c3
          have sE := hE3.b.lt
          rcases hi with hi | hi
          all_goals
            rw [hi]
            clear hi
            go_wp2_with fail
            refine (rQuo_q hD3.x.m hD3.y.m (by decide) (by decide) (by decide)).mono ?_
            rintro e w7 ⟨s7, p7, n7, t7, q7, m7, rfl, hM7, hF7, hF7', hb7⟩
            have hB4 := hE3.b.later hb7
            obtain ⟨e0, e1, e2, e3, f0, f1, f2, f3⟩ := hB4
            clear a0 a1 a2 a3 b0 b1 b2 b3 i0 i1 i2 i3 j0 j1 j2 j3
            go_wp2_with fail
            go_meet
            have hB5 := bset4 (bnext' hB3 hb7) (Nat.le_refl w5.heap.size) (.bool s7) (.slice p7 n7 n7) (.bool t7) (.slice q7 m7 m7)
            exact ⟨⟨s7, p7, n7, t7, q7, m7⟩, by rw [HC2.out], hD2.later hB5, hQ2.later hB5, Bq_set (hE3.b.later hb7), hM7.num.set4 (fun _ => off_from hF7 sE) _ _ _ _, hM7.den.set4 (fun _ => off_from hF7' sE) _ _ _ _⟩
      case rest =>
        obtain ⟨y5, rfl, hD3, hQ3, hE3⟩ := hcut
        clear hD2 hQ2 hB3
        generalize w5.heap.size = g5 at *
        have k0 := hQ3.b.c0
        have k1 := hQ3.b.c1
        have k2 := hQ3.b.c2
        have k3 := hQ3.b.c3
        have l0 := hE3.b.c0
        have l1 := hE3.b.c1
        have l2 := hE3.b.c2
        have l3 := hE3.b.c3
        go_wp2_with fail
        refine (rIs_q hQ3.m hE3.m (by decide) (by decide)).mono ?_
        rintro e w7 ⟨rfl, hb7⟩
        have hD4 := hD3.later hb7
        clear k0 k1 k2 k3 l0 l1 l2 l3 hQ3 hE3 hD3 hb7
        go_wp2_with fail
        generalize hc : (if M = 0 then (2 : Int) else 0) = c2
        have HC2 := (show Hid _ from hc)
        refine (qOf_q N M _ hN hM c2 hc).mono ?_
        rintro e w8 ⟨s8, p8, n8, t8, q8, m8, rfl, hN8, hb8⟩
        have hal := bel_al (o := .cells #[.bool s8, .slice p8 n8 n8, .bool t8, .slice q8 m8 m8] 26) hb8
        have hD5 := hD4.later hal
        have hS5 := Nx.new (x := ⟨s8, p8, n8, t8, q8, m8⟩) hN8 26
        clear hc hD4 hN8 hb8 hal
        have a0 := hD5.c.a.b.c0
        have a1 := hD5.c.a.b.c1
        have a2 := hD5.c.a.b.c2
        have a3 := hD5.c.a.b.c3
        go_wp2_with fail
        generalize w8.alloc (.cells #[.bool s8, .slice p8 n8 n8, .bool t8, .slice q8 m8 m8] 26) = W8 at *
        generalize w8.heap.size = g8 at *
        obtain ⟨xa0, ya0, A1, A2, l1, l2, hra⟩ := hD5.c.a.a
        have HRA := (show Hid _ from hra)
        generalize hc : (if ival ta ya0 = 0 then (2 : Int) else 0) = c3
        have HC3 := (show Hid _ from hc)
        have ho := Over_of sa ta pa' qa' na' nac' ma' mac' xa0 ya0 _ A1 A2 (by omega) (by omega) c3 hc
        rw [HRA.out] at ho
        refine ho.mono ?_
        rintro e w9 ⟨s9, p9, n9, x9, t9, q9, m9, z9, rfl, hN9, hb9⟩
        have hsz : Sz ra 24 := hD5.c.a.a.sz (by decide)
        have hal := bel_al (o := .cells #[.bool s9, .slice p9 n9 n9, .bool t9, .slice q9 m9 m9] 26) hb9
        have hD6 := hD5.later hal
        have hS6 := hS5.later hal
        have hT6 := Nx.new (x := ⟨s9, p9, n9, t9, q9, m9⟩) (nr_nq hN9 hsz) 26
        have A6 := A2.below hal
        clear hc hra ho hD5 hS5 A1 A2 hN9 hb9 hal hsz a0 a1 a2 a3
        go_upto_region 13 with fail
        generalize w9.alloc (.cells #[.bool s9, .slice p9 n9 n9, .bool t9, .slice q9 m9 m9] 26) = W9 at *
        generalize w9.heap.size = g9 at *
        have k0 := hS6.b.c0
        have k1 := hS6.b.c1
        have k2 := hS6.b.c2
        have k3 := hS6.b.c3
        go_region_held3 (fun w' => w'.cell? ⟨g8, 0, none⟩ = some (.bool s8) ∧ w'.cell? ⟨g8, 1, none⟩ = some (.slice p8 n8 n8) ∧ w'.cell? ⟨g8, 2, none⟩ = some (.bool t8) ∧ w'.cell? ⟨g8, 3, none⟩ = some (.slice q8 m8 m8)) (first | with_reducible exact ⟨k0, k1, k2, k3⟩ | with_reducible exact keepc4 ⟨k0, k1, k2, k3⟩ hV1 | with_reducible exact keepc4 ⟨k0, k1, k2, k3⟩ hV2 | with_reducible exact keepc4 ⟨k0, k1, k2, k3⟩ hV3 | with_reducible exact keepc4 ⟨k0, k1, k2, k3⟩ hV4 | (simp [go_sem, *]; done))
          (first
            | (go_at_call_of 28 (Value.int .i64 N); refine (rOf_v N _ hN.1 hN.2).mono ?_; rintro e v1 ⟨s10, p10, n10, rfl, hr1, hF10, hv1⟩; have hV1 := undrew hv1)
            | (go_at_call_of 28 (Value.int .i64 M); refine (rOf_v M _ hM.1 hM.2).mono ?_; rintro e v2 ⟨s11, p11, n11, rfl, hr2, hF11, hv2⟩; have hV2 := bnext' hV1 hv2)
            | (go_at_call 27; refine (Make_v (K := 2) (hr1.below hv2) hr2 (by decide) (by decide) (i64_sz hN hM)).mono ?_; rintro e v3 ⟨s12, p12, n12, t12, q12, m12, rfl, hm3, hF12, hF12', hv3⟩; have hV3 := bnext' hV2 hv3)
            | (go_at_call 9; refine (rIs_q (hS6.m.below hV3) hm3 (by decide) (by decide)).mono ?_; rintro e v4 ⟨rfl, hv4⟩; have hV4 := bnext' hV3 hv4))
        have hD7 := hD6.later hV4
        have hT7 := hT6.later hV4
        have A7 := A6.below hV4
        clear hD6 hT6 A6 hS6 k0 k1 k2 k3 hr1 hF10 hv1 hV1 hr2 hF11 hv2 hV2 hm3 hF12 hF12' hv3 hV3 hv4 hV4
        have k0 := hT7.b.c0
        have k1 := hT7.b.c1
        have k2 := hT7.b.c2
        have k3 := hT7.b.c3
        have i0 := hD7.x.b.c0
        have i1 := hD7.x.b.c1
        have i2 := hD7.x.b.c2
        have i3 := hD7.x.b.c3
        go_wp2_with fail
        refine (rIs_q hT7.m hD7.x.m (by decide) (by decide)).mono ?_
        rintro e w10 ⟨rfl, hb10⟩
        have hD8 := hD7.later hb10
        have A8 := A7.below hb10
        clear k0 k1 k2 k3 i0 i1 i2 i3 hT7 hD7 A7 hb10
        have a0 := hD8.c.a.b.c0
        have a1 := hD8.c.a.b.c1
        have a2 := hD8.c.a.b.c2
        have a3 := hD8.c.a.b.c3
        go_wp2_with fail
        refine (rFrom_v (K := 24) A8 l2).mono ?_
        rintro e w11 ⟨s13, p13, n13, rfl, hr13, hF13, hb11⟩
        have hal := bel_al (o := .cells #[.bool s13, .slice p13 n13 n13] 31) hb11
        have hD9 := hD8.later hal
        have hX9 : Bx (w11.alloc (.cells #[.bool s13, .slice p13 n13 n13] 31)) w11.heap.size (.bool s13) (.slice p13 n13 n13) := Bx.new _ _ _ rfl
        have hr9 := hr13.alloc (.cells #[.bool s13, .slice p13 n13 n13] 31)
        clear a0 a1 a2 a3 hD8 A8 hr13 hF13 hb11 hal
        have a0 := hD9.c.a.b.c0
        have a1 := hD9.c.a.b.c1
        have a2 := hD9.c.a.b.c2
        have a3 := hD9.c.a.b.c3
        go_wp2_with fail
        generalize w11.alloc (.cells #[.bool s13, .slice p13 n13 n13] 31) = W11 at *
        generalize w11.heap.size = g11 at *
        refine (qWhole_q hD9.c.a.a (by decide)).mono ?_
        rintro e w12 ⟨s14, p14, n14, x14, h14, hb12⟩
        clear a0 a1 a2 a3
        have hD10 := hD9.later hb12
        have hX10 := hX9.later hb12
        have hr10 := hr9.below hb12
        clear hD9 hX9 hr9 hb12
        rcases h14 with ⟨hw, rfl, hN14⟩ | ⟨hw, rfl⟩
        · have HW := (show Hid _ from hw)
          clear hw
          have hN15 := NI_al (o := .cells #[.bool s14, .slice p14 n14 n14] 24) hN14
          have hal := bel_al (o := .cells #[.bool s14, .slice p14 n14 n14] 24) (Below.refl w12.heap.size w12)
          have hD11 := hD10.later hal
          have hX11 := hX10.later hal
          have hr11 := hr10.below hal
          have hw11 : Bx (w12.alloc (.cells #[.bool s14, .slice p14 n14 n14] 24)) w12.heap.size (.bool s14) (.slice p14 n14 n14) := Bx.new _ _ _ rfl
          clear hN14 hal hD10 hX10 hr10
          have i0 := hD11.x.b.c0
          have i1 := hD11.x.b.c1
          have i2 := hD11.x.b.c2
          have i3 := hD11.x.b.c3
          have z0 := hw11.c0
          have z1 := hw11.c1
          go_wp2_with fail
          generalize w12.alloc (.cells #[.bool s14, .slice p14 n14 n14] 24) = W12 at *
          generalize w12.heap.size = g12 at *
          have hwh := rWhole_q hD11.x.m
          rw [show decide (ra.den = 1) = true by simp [HW.out]] at hwh
          refine hwh.mono ?_
          rintro e w13 ⟨rfl, hb13⟩
          have hD12 := hD11.later hb13
          have hX12 := hX11.later hb13
          have hr12 := hr11.below hb13
          have hw12 := hw11.later hb13
          have hN16 := hN15.below hb13
          clear i0 i1 i2 i3 z0 z1 hwh hD11 hX11 hr11 hw11 hN15 hb13
          have i0 := hD12.x.b.c0
          have i1 := hD12.x.b.c1
          have z0 := hw12.c0
          have z1 := hw12.c1
          go_wp2_with fail
          refine (rIs_v hN16 (Nat.le_trans (hN16.le (hD12.c.a.a.sz (by decide)).1) (by decide)) hD12.x.m.num (by decide)).mono ?_
          rintro e w14 ⟨rfl, hb14⟩
          have hD13 := hD12.later hb14
          have hX13 := hX12.later hb14
          have hr13 := hr12.below hb14
          clear i0 i1 z0 z1 hD12 hX12 hr12 hw12 hN16 hb14
          go_upto_region 19 with fail
          have z0 := hX13.c0
          have z1 := hX13.c1
          have hms : Hid (((M != 0) = false ∧ c2 = 2) ∨ ((M != 0) = true ∧ c2 = 0)) := by
            rcases Classical.em (M = 0) with h | h
            · exact .inl ⟨by simp [h], by rw [← HC2.out, if_pos h]⟩
            · exact .inr ⟨by simp [h], by rw [← HC2.out, if_neg h]⟩
          have hds : Hid ((isgn (ival ta ya0) = 0 ∧ c3 = 2) ∨ ((isgn (ival ta ya0) = 1 ∨ isgn (ival ta ya0) = -1) ∧ c3 = 0)) := by
            rcases Classical.em (ival ta ya0 = 0) with h | h
            · exact .inl ⟨isgn_zero h, by rw [← HC3.out, if_pos h]⟩
            · exact .inr ⟨isgn_not h, by rw [← HC3.out, if_neg h]⟩
          have hsg := rSign_v hr13
          generalize isgn (ival ta ya0) = sg at *
          have HM := (show Hid _ from hM)
          have HN := (show Hid _ from hN)
          clear hM hN hr13 HC2 HC3
          rcases hms.out with ⟨hm0, rfl⟩ | ⟨hm0, rfl⟩
          all_goals
            clear hms
            rcases hds.out with ⟨rfl, rfl⟩ | ⟨rfl | rfl, rfl⟩
            all_goals
              clear hds
              go_wp2_with fail
              refine hsg.mono ?_
              rintro e w15 ⟨rfl, hb15⟩
              have hD14 := hD13.later hb15
              clear z0 z1 hsg
              go_wp2
              go_ret
              exact ⟨rfl, hD14.c.bel⟩
        · have HW := (show Hid _ from hw)
          clear hw
          have hal := bel_al (o := .cells #[.bool false, .slice none 0 0] 24) (Below.refl w12.heap.size w12)
          have hD11 := hD10.later hal
          have hX11 := hX10.later hal
          have hr11 := hr10.below hal
          have hw11 : Bx (w12.alloc (.cells #[.bool false, .slice none 0 0] 24)) w12.heap.size (.bool false) (.slice none 0 0) := Bx.new _ _ _ rfl
          clear hal hD10 hX10 hr10
          have i0 := hD11.x.b.c0
          have i1 := hD11.x.b.c1
          have i2 := hD11.x.b.c2
          have i3 := hD11.x.b.c3
          go_wp2_with fail
          generalize w12.alloc (.cells #[.bool false, .slice none 0 0] 24) = W12 at *
          generalize w12.heap.size = g12 at *
          have hwh := rWhole_q hD11.x.m
          rw [show decide (ra.den = 1) = false from decide_eq_false HW.out] at hwh
          refine hwh.mono ?_
          rintro e w14 ⟨rfl, hb13⟩
          have hD13 := hD11.later hb13
          have hX13 := hX11.later hb13
          have hr13 := hr11.below hb13
          have hw13 := hw11.later hb13
          clear i0 i1 i2 i3 hwh hD11 hX11 hr11 hw11 hb13
          have z0 := hw13.c0
          have z1 := hw13.c1
          go_upto_region 19 with fail
          clear z0 z1 hw13
          have z0 := hX13.c0
          have z1 := hX13.c1
          have hms : Hid (((M != 0) = false ∧ c2 = 2) ∨ ((M != 0) = true ∧ c2 = 0)) := by
            rcases Classical.em (M = 0) with h | h
            · exact .inl ⟨by simp [h], by rw [← HC2.out, if_pos h]⟩
            · exact .inr ⟨by simp [h], by rw [← HC2.out, if_neg h]⟩
          have hds : Hid ((isgn (ival ta ya0) = 0 ∧ c3 = 2) ∨ ((isgn (ival ta ya0) = 1 ∨ isgn (ival ta ya0) = -1) ∧ c3 = 0)) := by
            rcases Classical.em (ival ta ya0 = 0) with h | h
            · exact .inl ⟨isgn_zero h, by rw [← HC3.out, if_pos h]⟩
            · exact .inr ⟨isgn_not h, by rw [← HC3.out, if_neg h]⟩
          have hsg := rSign_v hr13
          generalize isgn (ival ta ya0) = sg at *
          have HM := (show Hid _ from hM)
          have HN := (show Hid _ from hN)
          clear hM hN hr13 HC2 HC3
          rcases hms.out with ⟨hm0, rfl⟩ | ⟨hm0, rfl⟩
          all_goals
            clear hms
            rcases hds.out with ⟨rfl, rfl⟩ | ⟨rfl | rfl, rfl⟩
            all_goals
              clear hds
              go_wp2_with fail
              refine hsg.mono ?_
              rintro e w15 ⟨rfl, hb15⟩
              have hD14 := hD13.later hb15
              clear z0 z1 hsg
              go_wp2
              go_ret
              exact ⟨rfl, hD14.c.bel⟩
end Go.Proofs.YtongkalfdgleaaaGreatDoor
