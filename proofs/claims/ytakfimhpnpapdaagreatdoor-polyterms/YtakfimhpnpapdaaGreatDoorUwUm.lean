/-
  upoly.factorBits.
-/
import Derived.Test.YtakfimhpnpapdaaGreatDoorLeUkUi
import Derived.Test.YtakfimhpnpapdaaGreatDoorUl
namespace Go.Proofs.YtakfimhpnpapdaaGreatDoor
open Go.RowKit
set_option linter.unusedVariables false
set_option linter.unusedSimpArgs false

set_option maxHeartbeats 2000000 in
/-- upoly.factorBits. -/
theorem factorBits_any {w : World} {K : Nat} {p : Option Addr} {n nc : Nat} {es : List Ent} {zs : List Int} (h : PA w K p n nc es zs) (hn : n ≤ 100000) (hK : K ≤ 1000) (m : Nat) (hm : m ≤ 1000000) :
    Calls Tryz.prog 94 #[.slice p n nc, .int .i64 m] w fun r w' => r = .returned (.int .i64 ((m + pb zs + Lib.bitLen n : Nat) : Int)) ∧ Below w.heap.size w w' := by
  go_enter Tryz.func94, Tryz.ntmps94
  go_wp2_with fail
  refine (uBits_any h (by omega) hK).mono ?_
  rintro e w1 ⟨rfl, l1, hb1⟩
  have hbl := bitLen_le n
  have vn : IntKind.u64.wrap (n : Int) = (n : Int) := by rw [IntKind.wrap_u64]; omega
  have v1 : IntKind.i64.wrap ((m : Int) + (pb zs : Int)) = (m : Int) + (pb zs : Int) := by rw [IntKind.wrap_i64]; omega
  have hle := Len_any (n : Int) w1 (by omega) (by omega)
  rw [Int.toNat_natCast] at hle
  go_wp2_with fail
  refine hle.mono ?_
  rintro e w2 ⟨rfl, rfl⟩
  clear hle
  have v2 : IntKind.i64.wrap ((m : Int) + (pb zs : Int) + (Lib.bitLen n : Int)) = (m : Int) + (pb zs : Int) + (Lib.bitLen n : Int) := by rw [IntKind.wrap_i64]; omega
  go_wp2
  go_ret
  exact ⟨by push_cast; rfl, hb1⟩
end Go.Proofs.YtakfimhpnpapdaaGreatDoor
/-
  upoly.product by rows, Mul of small polynomials.
-/
namespace Go.Proofs.YtakfimhpnpapdaaGreatDoor
open Go.RowKit
set_option linter.unusedVariables false
set_option linter.unusedSimpArgs false

/-- The product's entries. -/
def mulz (zs ys : List Int) : List Int := (List.range (zs.length + ys.length - 1)).map (ps zs ys zs.length)
theorem length_mulz (zs ys : List Int) : (mulz zs ys).length = zs.length + ys.length - 1 := by simp [mulz]
theorem gx_mulz (zs ys : List Int) (t : Nat) (h : t < zs.length + ys.length - 1) : gx (mulz zs ys) t = ps zs ys zs.length t := by
  rw [gx_mem _ _ (by rw [length_mulz]; exact h)]
  simp [mulz]
theorem ps_far (zs ys : List Int) (t : Nat) : ∀ i, i + ys.length ≤ t + 1 → ps zs ys i t = 0
  | 0, _ => rfl
  | i + 1, h => by
    rw [ps, ps_far zs ys t i (by omega), gx_past ys ys.length (Nat.le_refl _) (t - i) (by omega)]
    simp
theorem mulz_top {zs ys : List Int} (h1 : tlen zs = zs.length) (h2 : tlen ys = ys.length) (hz : 0 < zs.length) (hy : 0 < ys.length) : tlen (mulz zs ys) = zs.length + ys.length - 1 := by
  refine tlen_eq _ _ (fun j hj => gx_past _ _ (by rw [length_mulz]; exact Nat.le_refl _) j hj) (.inr ?_)
  rw [gx_mulz _ _ _ (by omega)]
  obtain ⟨a, ha⟩ : ∃ a, zs.length = a + 1 := ⟨zs.length - 1, by omega⟩
  rw [ha, ps, ps_far _ _ _ _ (by omega), if_pos (by omega)]
  have e1 := tlen_top zs (by omega)
  have e2 := tlen_top ys (by omega)
  rw [h1, ha] at e1
  rw [h2] at e2
  have e3 : a + 1 + ys.length - 1 - 1 - a = ys.length - 1 := by omega
  rw [e3]
  have e4 : a + 1 - 1 = a := by omega
  rw [e4] at e1
  rw [Int.zero_add]
  exact Int.mul_ne_zero e1 e2
set_option maxHeartbeats 4000000 in
set_option maxRecDepth 100000 in
/-- upoly.product, where rows cost less. -/
theorem product_rows {B C : Nat} {w : World} {K L : Nat} {p q : Option Addr} {n m : Nat} {es fs : List Ent} {zs ys : List Int} (h : PB B w K p n es zs) (k : PB C w L q m fs ys) (hn : n ≤ 80) (hm : m ≤ 80) (hn1 : 1 ≤ n) (hm1 : 1 ≤ m) (hK : K < 80) (hL : L < 80) (hd : wd zs ys ≤ 80) (hk : wd zs ys * min n m ≤ 80)
    (hc : sl zs * sl ys + 80 * cnt zs * cnt ys ≤ wd zs ys * n * wd zs ys * m + 160 * (n + m)) :
    Calls Tryz.prog 30 #[.slice p n n, .slice q m m] w (PnP (mulz zs ys) (K + L + 1) w) := by
  have hd1 : 1 ≤ wd zs ys := by unfold wd; omega
  have hcI : (((sl zs * sl ys + 80 * cnt zs * cnt ys : Nat) : Int)) ≤ ((wd zs ys * n * wd zs ys * m + 160 * (n + m) : Nat) : Int) := by omega
  generalize hX : sl zs * sl ys + 80 * cnt zs * cnt ys = X at *
  generalize hY : wd zs ys * n * wd zs ys * m + 160 * (n + m) = Y at *
  have HX := (show Hid _ from hX)
  have HY := (show Hid _ from hY)
  clear hX hY
  have hpa := h.pa (by omega)
  have hqa := k.pa (by omega)
  have g1 : ((n : Int) == 0) = false := by rw [beq_eq_false_iff_ne]; omega
  have g2 : ((m : Int) == 0) = false := by rw [beq_eq_false_iff_ne]; omega
  have g3 : ¬ (n : Int) = 0 := by omega
  have g4 : ¬ (m : Int) = 0 := by omega
  go_enter Tryz.func30, Tryz.ntmps30
  go_wp2_with fail
  refine (digitWidth_any hpa hqa (by omega) (by omega) (by omega) (by omega)).mono ?_
  rintro e w1 ⟨rfl, hb1⟩
  have h1 := rowsCost_any (h.below hb1) (k.below hb1) (by omega) (by omega) (by omega) (by omega)
  rw [HX.out] at h1
  go_wp2_with fail
  refine h1.mono ?_
  rintro e w2 ⟨rfl, hb2⟩
  have h2 := packedCost_small n m (wd zs ys) w2 hn hm hd hd1 hk
  rw [HY.out] at h2
  clear h1
  go_wp2_with fail
  refine h2.mono ?_
  rintro e w3 ⟨rfl, hb3⟩
  have hb := bnext' (bnext' hb1 hb2) hb3
  clear h2
  go_wp2_with fail
  refine (rows_any (hpa.below hb) (hqa.below hb) (by omega) (by omega) hn1 hm1 hK hL).mono ?_
  rintro e w4 ⟨u, us, rfl, r1, r2, r3, r4, hb4⟩
  have hzl := h.zl
  have hyl := k.zl
  have HZ : Hid (tlen zs = n ∧ tlen ys = m) := ⟨h.nrm, k.nrm⟩
  clear hpa hqa
  go_wp2
  go_ret
  have hs := hb.size
  refine ⟨u, n + m - 1, us, rfl, ⟨r1, by rw [length_mulz, hzl, hyl], ?_, r2, fun a ha => Nat.le_trans hs (r3 a ha), fun t ht => ?_⟩, bnext' hb hb4⟩
  · rw [mulz_top (by rw [HZ.out.1, hzl]) (by rw [HZ.out.2, hyl]) (by omega) (by omega), hzl, hyl]
  · rw [gx_mulz _ _ _ (by rw [hzl, hyl]; exact ht), hzl]
    exact (r4 t ht).mono hs
end Go.Proofs.YtakfimhpnpapdaaGreatDoor
