/-
  Arguments, read as data: what every card wants.
-/
import Derived.Test.YtkbgeggflhfleaaGreatDoorMmWa
import Derived.Test.YtkbgeggflhfleaaGreatDoorProg
import Derived.ProofKit
import Derived.OpenShut
import Derived.Lib.SmallJoins
import Derived.Lay
import Derived.LaidOnce
import Derived.SevenTiedAt
import Derived.Test.YtkbgeggflhfleaaGreatDoorC6
namespace Go.Proofs.YtkbgeggflhfleaaGreatDoor
open Go.ChangeShapes Go.WideShapes Go.ChangeAt Go.RowKit Go.Joins
set_option linter.unusedVariables false
set_option linter.unusedSimpArgs false
set_option maxHeartbeats 8000000
theorem own : ownKnob Tryz.prog.godebug = none := by kernel_rfl
theorem laidOut : laidOutB Tryz.prog = true := by kernel_rfl
theorem cellsInt : Tryz.prog.cellsOf 30 = 2 := by kernel_rfl
theorem cellsLimb : Tryz.prog.cellsOf 134 = 1 := by kernel_rfl
def IntArg (W : World) (v : Value) : Prop := ∃ (s : Bool) (pa : Option Addr) (n nc : Nat) (xs : List Int), v = .agg #[.bool s, .slice pa n nc] ∧ xs.length = n ∧ n ≤ nc ∧ nc ≤ maxLen ∧ Rd W pa .u32 xs ∧ U32 xs ∧ (pa = none → nc = 0)
open Go.RowKit
set_option maxRecDepth 100000 in
theorem ModRat_walk {w : World} {v0 v1 v2 v3 : Value} {z : Int} (h1 : IntArg w (.agg #[v0, v1])) (h2 : IntArg w (.agg #[v2, v3])) (h0 : -9223372036854775808 ≤ z ∧ z ≤ 9223372036854775807) (hT : Rs.TzT w) :
    Calls Tryz.prog 5 #[.agg #[v0, v1, v2, v3], .int .i64 z] w fun r w' => r = .returned (.bool true) ∧ Below w.heap.size w w' := by
  obtain ⟨s, p, n, nc, xs, e1, hl, hnc, hb, hX, hU, hp⟩ := h1
  obtain ⟨t, q, m, mc, ys, e2, hl', hnc', hb', hX', hU', hp'⟩ := h2
  simp only [Value.agg.injEq, Array.mk.injEq, List.cons.injEq, and_true] at e1 e2
  obtain ⟨rfl, rfl⟩ := e1
  obtain ⟨rfl, rfl⟩ := e2
  have hal := bel_al (o := .cells #[.bool s, .slice p n nc, .bool t, .slice q m mc] 32) (Below.refl w.heap.size w)
  have hB0 : Bq (w.alloc (.cells #[.bool s, .slice p n nc, .bool t, .slice q m mc] 32)) w.heap.size (.bool s) (.slice p n nc) (.bool t) (.slice q m mc) := Bq.new _ _ _ _ _ rfl
  have hT0 := hT
  have HT : Hid (Rs.TzT (w.alloc (.cells #[.bool s, .slice p n nc, .bool t, .slice q m mc] 32))) := TzB hT hal
  have HX : Hid (xs.length = n ∧ n ≤ nc ∧ nc ≤ maxLen ∧ Rd w p .u32 xs ∧ U32 xs ∧ (p = none → nc = 0)) := ⟨hl, hnc, hb, hX, hU, hp⟩
  have HY : Hid (ys.length = m ∧ m ≤ mc ∧ mc ≤ maxLen ∧ Rd w q .u32 ys ∧ U32 ys ∧ (q = none → mc = 0)) := ⟨hl', hnc', hb', hX', hU', hp'⟩
  clear hl hnc hb hX hU hp hl' hnc' hb' hX' hU' hp' hT
  go_enter Tryz.func5, Tryz.ntmps5
  go_wp2_with fail
  generalize w.alloc (.cells #[.bool s, .slice p n nc, .bool t, .slice q m mc] 32) = W at *
  go_fit (begun14_any W HT.out)
  rintro e w1 ⟨rfl, hb1⟩
  have hB1 := hB0.later hb1
  have hbw := bnext' hal hb1
  have hT1 := TzB HT.out hb1
  have hcut := qCut_any s t p q n nc m mc xs ys w1 HX.out.1 HX.out.2.1 HX.out.2.2.1 (HX.out.2.2.2.1.below hbw) HX.out.2.2.2.2.1 HX.out.2.2.2.2.2 HY.out.1 HY.out.2.1 HY.out.2.2.1 (HY.out.2.2.2.1.below hbw) HY.out.2.2.2.2.1 HY.out.2.2.2.2.2
  obtain ⟨c0, c1, c2, c3, -, -, -, -⟩ := id hB1
  have hg1 : w.heap.size < w1.heap.size := hB1.lt
  clear hB0 hb1 hal HX HY HT
  go_wp2_with fail
  go_fit hcut
  rintro e w2 ⟨p2, n2, nc2, q2, m2, mc2, rfl, hA, hD, hn2, hm2, hFp, hFq, hb2⟩
  clear hcut c0 c1 c2 c3
  have hB2 := hB1.later hb2
  obtain ⟨c0, c1, c2, c3, f0, f1, f2, f3⟩ := id hB2
  have hB3 := Bq_set (u := .bool s) (v := .slice p2 n2 nc2) (x := .bool t) (y := .slice q2 m2 mc2) hB2
  obtain ⟨r, hr⟩ : ∃ r, Rat.divInt (ival s (xs.take 24)) (ival t (ys.take 24)) = r := ⟨_, rfl⟩
  have hAQ : AQ ((((w2.setCell ⟨w.heap.size, 0, none⟩ (.bool s)).setCell ⟨w.heap.size, 1, none⟩ (.slice p2 n2 nc2)).setCell ⟨w.heap.size, 2, none⟩ (.bool t)).setCell ⟨w.heap.size, 3, none⟩ (.slice q2 m2 mc2)) 24 s p2 n2 nc2 t q2 m2 mc2 r :=
    ⟨_, _, hA.set4 (fun _ => off_from hFp hg1) _ _ _ _, hD.set4 (fun _ => off_from hFq hg1) _ _ _ _, hn2, hm2, hr⟩
  have HB3 : Hid (Below w.heap.size w ((((w2.setCell ⟨w.heap.size, 0, none⟩ (.bool s)).setCell ⟨w.heap.size, 1, none⟩ (.slice p2 n2 nc2)).setCell ⟨w.heap.size, 2, none⟩ (.bool t)).setCell ⟨w.heap.size, 3, none⟩ (.slice q2 m2 mc2))) := bset4 (bnext' hbw hb2) (Nat.le_refl _) _ _ _ _
  have hT3 : Rs.TzT ((((w2.setCell ⟨w.heap.size, 0, none⟩ (.bool s)).setCell ⟨w.heap.size, 1, none⟩ (.slice p2 n2 nc2)).setCell ⟨w.heap.size, 2, none⟩ (.bool t)).setCell ⟨w.heap.size, 3, none⟩ (.slice q2 m2 mc2)) := TzB hT0 HB3.out
  have hmr := Rs.mRat_any hAQ (by decide) (by decide) z h0 hT3
  have HR : Hid (AQ ((((w2.setCell ⟨w.heap.size, 0, none⟩ (.bool s)).setCell ⟨w.heap.size, 1, none⟩ (.slice p2 n2 nc2)).setCell ⟨w.heap.size, 2, none⟩ (.bool t)).setCell ⟨w.heap.size, 3, none⟩ (.slice q2 m2 mc2)) 24 s p2 n2 nc2 t q2 m2 mc2 r) := hAQ
  obtain ⟨k0, k1, k2, k3, -, -, -, -⟩ := id hB3
  clear hb2 hB1 hB2 hA hD hbw hT1 hT3 hAQ hr
  go_wp2_with fail
  generalize ((((w2.setCell ⟨w.heap.size, 0, none⟩ (.bool s)).setCell ⟨w.heap.size, 1, none⟩ (.slice p2 n2 nc2)).setCell ⟨w.heap.size, 2, none⟩ (.bool t)).setCell ⟨w.heap.size, 3, none⟩ (.slice q2 m2 mc2)) = W3 at *
  go_fit hmr
  rintro e w4 ⟨rfl, hb4⟩
  clear hmr k0 k1 k2 k3 c0 c1 c2 c3 f0 f1 f2 f3
  have hB4 := hB3.later hb4
  have HB4 : Hid (Below w.heap.size w w4 ∧ AQ w4 24 s p2 n2 nc2 t q2 m2 mc2 r) := ⟨bnext' HB3.out hb4, HR.out.below hb4⟩
  obtain ⟨k0, k1, k2, k3, -, -, -, -⟩ := id hB4
  have hpr := Rs.rPrime_any z w4 h0
  clear hb4 hB3 HB3 HR hB4
  cases hz : Rs.pz z with
  | false =>
    rw [hz] at hpr
    rw [if_neg (by decide), if_neg (by decide)]
    clear hz k0 k1 k2 k3
    go_wp2_with fail
    go_fit hpr
    rintro e w5 ⟨rfl, hw⟩
    subst w5
    clear hpr
    go_wp2
    go_ret
    exact ⟨rfl, HB4.out.1⟩
  | true =>
    rw [hz] at hpr
    rw [if_pos rfl, if_pos rfl]
    obtain ⟨mm, rfl, m1, m3, -⟩ := Rs.pz_true hz
    rw [show ((mm : Int)).toNat = mm from rfl]
    clear hz
    have hfr := rFrom_q HB4.out.2 (by decide) (by decide)
    go_wp2_with fail
    go_fit hpr
    rintro e w5 ⟨rfl, hw⟩
    subst w5
    clear hpr
    go_wp2_with fail
    go_fit hfr
    rintro e w6 ⟨s6, p6, n6, t6, q6, m6, rfl, hMQ, -, -, hb6⟩
    have hmd := Rs.rModR_any hMQ mm m1 m3
    have HB6 : Hid (Below w.heap.size w w6) := bnext' HB4.out.1 hb6
    clear hfr hb6 k0 k1 k2 k3 hMQ
    go_wp2_with fail
    go_fit hmd
    rintro e w7 ⟨rfl, hb7⟩
    have HB7 : Hid (Below w.heap.size w w7) := bnext' HB6.out hb7
    clear hmd hb7
    generalize Rs.rto mm r.num (r.den : Int) = V at *
    generalize Rs.erp mm (r.den : Int) = E at *
    go_wp2
    go_ret
    exact ⟨rfl, HB7.out⟩
theorem cellsRat : Tryz.prog.cellsOf 32 = 4 := by kernel_rfl
theorem cellsBool : Tryz.prog.cellsOf 4 = 1 := by kernel_rfl
theorem cellsLimbs : Tryz.prog.cellsOf 28 = 1 := by kernel_rfl
set_option maxRecDepth 100000 in
theorem intCells {H : Type} {enc : TypeId × Value → H} {W : World} {fuel : Nat} {v0 v1 : Value} {y : DataW H × List MemPlace}
    (h : DataW.trod enc Tryz.prog W 0 (fun _ => true) true fuel 30 [v0, v1] = some y) : IntArg W (.agg #[v0, v1]) := by
  obtain ⟨y0, y1, n, hx, -, hy0, hy1⟩ := trod_struct2 Tryz.underlying30 h
  simp only [cellsBool, cellsLimbs, List.drop_zero, List.drop_succ_cons, List.take_succ_cons, List.take_zero] at hy0 hy1
  obtain ⟨s, e0, -⟩ := DataW.trod_bool Tryz.underlying4 hy0
  simp only [List.cons.injEq, and_true] at e0
  subst e0
  rcases open_ints Tryz.underlying28 Tryz.underlying134 cellsLimb hy1 with ⟨hcs, -⟩ | ⟨a, len, cap, zs, hcs, -, hl, hm, hz, -, hcell, hwz⟩
  · simp only [List.cons.injEq, and_true] at hcs
    subst hcs
    exact ⟨s, none, 0, 0, [], rfl, rfl, Nat.le_refl _, Nat.zero_le _, Rd.nil, u32_nil, fun _ => rfl⟩
  · simp only [List.cons.injEq, and_true] at hcs
    subst hcs
    simp only [if_true] at hz
    refine ⟨s, some a, len, cap, zs.take len, rfl, by simp; omega, hl, hm, ?_, ?_, fun h => by cases h⟩
    · intro hp
      have hp' : 0 < zs.length := by simp at hp; omega
      obtain ⟨b, off, rfl, hc⟩ := ints_at hcell hp'
      refine ⟨b, off, rfl, fun j hj => ?_⟩
      have hj' : j < len ∧ j < zs.length := by simp at hj; omega
      rw [gx_take _ _ _ hj'.1]
      exact hc j hj'.2
    · refine u32_take (fun j => ?_) len
      by_cases hj : j < zs.length
      · have := hwz zs[j] (List.getElem_mem hj)
        rw [gx_mem zs j hj]
        have h4 : 0 ≤ zs[j] ∧ zs[j] ≤ 4294967295 := by
          simpa [Lit.wf, IntKind.min, IntKind.max, IntKind.signed, IntKind.bits] using this
        exact ⟨h4.1, by omega⟩
      · rw [gx_past zs _ (Nat.le_refl _) j (by omega)]; decide
set_option maxRecDepth 100000 in
theorem openRat {H : Type} {enc : TypeId × Value → H} {W : World} {base : Nat} {v0 : Value} {d0 : DataW H} {p0 : List MemPlace} (hv : Value.okWide Tryz.prog W .any base 32 v0)
    (h0 : DataW.Trod enc Tryz.prog W 0 (fun _ => true) true 32 v0 d0 p0) : ∃ c0 c1 c2 c3, v0 = .agg #[c0, c1, c2, c3] ∧ IntArg W (.agg #[c0, c1]) ∧ IntArg W (.agg #[c2, c3]) := by
  obtain ⟨cs, rfl, hsz⟩ := okWide_struct Tryz.underlying32 hv
  rw [cellsRat] at hsz
  obtain ⟨l⟩ := cs
  match l, hsz with
  | [c0, c1, c2, c3], _ =>
    obtain ⟨fuel, hf⟩ := h0
    obtain ⟨y0, y1, n, hx, -, hy0, hy1⟩ := trod_struct2 Tryz.underlying32 hf
    simp only [Value.cells, cellsInt, List.drop_zero, List.drop_succ_cons, List.take_succ_cons, List.take_zero] at hy0 hy1
    exact ⟨c0, c1, c2, c3, rfl, intCells hy0, intCells hy1⟩
end Go.Proofs.YtkbgeggflhfleaaGreatDoor
