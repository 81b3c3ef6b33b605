/-
  upoly.product by rows, Mul of small polynomials.
-/
import Derived.Test.YtlhgpejapmpcmaaGreatDoorUl
import Derived.Test.YtlhgpejapmpcmaaGreatDoorUdLnWrIb
import Derived.Test.YtlhgpejapmpcmaaGreatDoorUjOsKp
import Derived.Test.YtlhgpejapmpcmaaGreatDoorOu
import Derived.Test.YtlhgpejapmpcmaaGreatDoorRbCyVi
import Derived.Test.YtlhgpejapmpcmaaGreatDoorReRxRfRhCqRr
import Derived.Test.YtlhgpejapmpcmaaGreatDoorWkWlBxOw
namespace Go.Proofs.YtlhgpejapmpcmaaGreatDoor
open Go.RowKit
set_option linter.unusedVariables false
set_option linter.unusedSimpArgs false

/-- The product's entries. -/
def mulz (zs ys : List Int) : List Int := (List.range (zs.length + ys.length - 1)).map (ps zs ys zs.length)
theorem length_mulz (zs ys : List Int) : (mulz zs ys).length = zs.length + ys.length - 1 := by simp [mulz]
theorem gx_mulz (zs ys : List Int) (t : Nat) (h : t < zs.length + ys.length - 1) : gx (mulz zs ys) t = ps zs ys zs.length t := by
  rw [gx_mem _ _ (by rw [length_mulz]; exact h)]
  simp [mulz]
theorem ps_far (zs ys : List Int) (t : Nat) : ∀ i, i + ys.length ≤ t + 1 → ps zs ys i t = 0
  | 0, _ => rfl
  | i + 1, h => by
    rw [ps, ps_far zs ys t i (by omega), gx_past ys ys.length (Nat.le_refl _) (t - i) (by omega)]
    simp
theorem mulz_top {zs ys : List Int} (h1 : tlen zs = zs.length) (h2 : tlen ys = ys.length) (hz : 0 < zs.length) (hy : 0 < ys.length) : tlen (mulz zs ys) = zs.length + ys.length - 1 := by
  refine tlen_eq _ _ (fun j hj => gx_past _ _ (by rw [length_mulz]; exact Nat.le_refl _) j hj) (.inr ?_)
  rw [gx_mulz _ _ _ (by omega)]
  obtain ⟨a, ha⟩ : ∃ a, zs.length = a + 1 := ⟨zs.length - 1, by omega⟩
  rw [ha, ps, ps_far _ _ _ _ (by omega), if_pos (by omega)]
  have e1 := tlen_top zs (by omega)
  have e2 := tlen_top ys (by omega)
  rw [h1, ha] at e1
  rw [h2] at e2
  have e3 : a + 1 + ys.length - 1 - 1 - a = ys.length - 1 := by omega
  rw [e3]
  have e4 : a + 1 - 1 = a := by omega
  rw [e4] at e1
  rw [Int.zero_add]
  exact Int.mul_ne_zero e1 e2
set_option maxHeartbeats 4000000 in
set_option maxRecDepth 100000 in
/-- upoly.product, where rows cost less. -/
theorem product_rows {B C : Nat} {w : World} {K L : Nat} {p q : Option Addr} {n m : Nat} {es fs : List Ent} {zs ys : List Int} (h : PB B w K p n es zs) (k : PB C w L q m fs ys) (hn : n ≤ 80) (hm : m ≤ 80) (hn1 : 1 ≤ n) (hm1 : 1 ≤ m) (hK : K < 80) (hL : L < 80) (hd : wd zs ys ≤ 80) (hk : wd zs ys * min n m ≤ 80)
    (hc : sl zs * sl ys + 80 * cnt zs * cnt ys ≤ wd zs ys * n * wd zs ys * m + 160 * (n + m)) :
    Calls Tryz.prog 54 #[.slice p n n, .slice q m m] w (PnP (mulz zs ys) (K + L + 1) w) := by
  have hd1 : 1 ≤ wd zs ys := by unfold wd; omega
  have hcI : (((sl zs * sl ys + 80 * cnt zs * cnt ys : Nat) : Int)) ≤ ((wd zs ys * n * wd zs ys * m + 160 * (n + m) : Nat) : Int) := by omega
  generalize hX : sl zs * sl ys + 80 * cnt zs * cnt ys = X at *
  generalize hY : wd zs ys * n * wd zs ys * m + 160 * (n + m) = Y at *
  have HX := (show Hid _ from hX)
  have HY := (show Hid _ from hY)
  clear hX hY
  have hpa := h.pa (by omega)
  have hqa := k.pa (by omega)
  have g1 : ((n : Int) == 0) = false := by rw [beq_eq_false_iff_ne]; omega
  have g2 : ((m : Int) == 0) = false := by rw [beq_eq_false_iff_ne]; omega
  have g3 : ¬ (n : Int) = 0 := by omega
  have g4 : ¬ (m : Int) = 0 := by omega
  go_enter Tryz.func54, Tryz.ntmps54
  go_wp2_with fail
  refine (digitWidth_any hpa hqa (by omega) (by omega) (by omega) (by omega)).mono ?_
  rintro e w1 ⟨rfl, hb1⟩
  have h1 := rowsCost_any (h.below hb1) (k.below hb1) (by omega) (by omega) (by omega) (by omega)
  rw [HX.out] at h1
  go_wp2_with fail
  refine h1.mono ?_
  rintro e w2 ⟨rfl, hb2⟩
  have h2 := packedCost_small n m (wd zs ys) w2 hn hm hd hd1 hk
  rw [HY.out] at h2
  clear h1
  go_wp2_with fail
  refine h2.mono ?_
  rintro e w3 ⟨rfl, hb3⟩
  have hb := bnext' (bnext' hb1 hb2) hb3
  clear h2
  go_wp2_with fail
  refine (rows_any (hpa.below hb) (hqa.below hb) (by omega) (by omega) hn1 hm1 hK hL).mono ?_
  rintro e w4 ⟨u, us, rfl, r1, r2, r3, r4, hb4⟩
  have hzl := h.zl
  have hyl := k.zl
  have HZ : Hid (tlen zs = n ∧ tlen ys = m) := ⟨h.nrm, k.nrm⟩
  clear hpa hqa
  go_wp2
  go_ret
  have hs := hb.size
  refine ⟨u, n + m - 1, us, rfl, ⟨r1, by rw [length_mulz, hzl, hyl], ?_, r2, fun a ha => Nat.le_trans hs (r3 a ha), fun t ht => ?_⟩, bnext' hb hb4⟩
  · rw [mulz_top (by rw [HZ.out.1, hzl]) (by rw [HZ.out.2, hyl]) (by omega) (by omega), hzl, hyl]
  · rw [gx_mulz _ _ _ (by rw [hzl, hyl]; exact ht), hzl]
    exact (r4 t ht).mono hs
end Go.Proofs.YtlhgpejapmpcmaaGreatDoor
/-
  upoly.Mul of small polynomials.
-/
namespace Go.Proofs.YtlhgpejapmpcmaaGreatDoor
open Go.RowKit
set_option linter.unusedVariables false
set_option linter.unusedSimpArgs false

theorem PnP.from {zs : List Int} {K : Nat} {w w' : World} {e : Ending} {w'' : World} (h : PnP zs K w' e w'') (hb : Below w.heap.size w w') : PnP zs K w e w'' := by
  obtain ⟨p, n, es, h1, h2, h3⟩ := h
  exact ⟨p, n, es, h1, h2.mono hb.size, bnext' hb h3⟩
set_option maxHeartbeats 2000000 in
set_option maxRecDepth 100000 in
/-- upoly.Mul, where rows cost less. -/
theorem uMul_rows {w : World} {K L : Nat} {p q : Option Addr} {n nc m mc : Nat} {es fs : List Ent} {zs ys : List Int} (h : PA w K p n nc es zs) (k : PA w L q m mc fs ys) (hn : n ≤ 80) (hm : m ≤ 80) (hn1 : 1 ≤ tlen zs) (hm1 : 1 ≤ tlen ys) (hK : K < 80) (hL : L < 80) (hd : wd (tr zs) (tr ys) ≤ 80) (hk : wd (tr zs) (tr ys) * min (tlen zs) (tlen ys) ≤ 80)
    (hc : sl (tr zs) * sl (tr ys) + 80 * cnt (tr zs) * cnt (tr ys) ≤ wd (tr zs) (tr ys) * tlen zs * wd (tr zs) (tr ys) * tlen ys + 160 * (tlen zs + tlen ys)) :
    Calls Tryz.prog 29 #[.slice p n nc, .slice q m mc] w (PnP (mulz (tr zs) (tr ys)) (K + L + 1) w) := by
  have HC := (show Hid _ from hc)
  have HD := (show Hid _ from hd)
  have HK := (show Hid _ from hk)
  have hzl := h.zl
  have hyl := k.zl
  have htz := tlen_le zs
  have hty := tlen_le ys
  clear hc hd hk
  go_enter Tryz.func29, Tryz.ntmps29
  go_wp2_with fail
  refine (read_any K p n nc es zs _ h (by omega) (by omega)).mono ?_
  rintro e w1 ⟨p1, n1, es1, rfl, h1, hb1⟩
  go_wp2_with fail
  refine (read_any L q m mc fs ys _ (k.below hb1) (by omega) (by omega)).mono ?_
  rintro e w2 ⟨q1, m1, fs1, rfl, k1, hb2⟩
  have hn' := h1.zl
  have hm' := k1.zl
  rw [length_tr] at hn' hm'
  subst hn' hm'
  go_wp2_with fail
  refine (product_rows (h1.below hb2) k1 (by omega) (by omega) hn1 hm1 hK hL HD.out HK.out HC.out).mono ?_
  rintro e w3 ⟨p3, n3, es3, rfl, h3, hb3⟩
  go_wp2
  go_ret
  exact PnP.from ⟨p3, n3, es3, rfl, h3, hb3⟩ (bnext' hb1 hb2)
end Go.Proofs.YtlhgpejapmpcmaaGreatDoor
/-
  upoly.product where one is zero (out of Px).
-/
namespace Go.Proofs.YtlhgpejapmpcmaaGreatDoor
open Go.RowKit
set_option linter.unusedVariables false
set_option linter.unusedSimpArgs false

/-- The product of two normal polynomials. -/
def mulp (zs ys : List Int) : List Int := if zs.length = 0 ∨ ys.length = 0 then [] else mulz zs ys
theorem pn_nil (B : Nat) (w : World) (K : Nat) : PN B w K none 0 [] [] := ⟨rfl, rfl, rfl, PL.nil, (fun a h => by cases h), fun j hj => by omega⟩
set_option maxHeartbeats 2000000 in
set_option maxRecDepth 100000 in
theorem product_nil (w : World) (K : Nat) (p q : Option Addr) (n m nc mc : Nat) (hn : n ≤ 1000000) (hm : m ≤ 1000000) (h : n = 0 ∨ m = 0) :
    Calls Tryz.prog 54 #[.slice p n nc, .slice q m mc] w (PnP [] K w) := by
  by_cases h0 : n = 0
  · subst h0
    go_enter Tryz.func54, Tryz.ntmps54
    go_wp2
    go_ret
    exact ⟨none, 0, [], rfl, pn_nil _ _ _, Below.refl _ _⟩
  · have h1 : m = 0 := by omega
    subst h1
    have g1 : ((n : Int) == 0) = false := by rw [beq_eq_false_iff_ne]; omega
    have g3 : ¬ (n : Int) = 0 := by omega
    go_enter Tryz.func54, Tryz.ntmps54
    go_wp2
    go_ret
    exact ⟨none, 0, [], rfl, pn_nil _ _ _, Below.refl _ _⟩
end Go.Proofs.YtlhgpejapmpcmaaGreatDoor
/-
  Normal polynomials behind a store (out of Eb), and wider (out of It).
-/
namespace Go.Proofs.YtlhgpejapmpcmaaGreatDoor
open Go.RowKit
set_option linter.unusedVariables false
set_option linter.unusedSimpArgs false

theorem PN.put {B : Nat} {w : World} {K : Nat} {p : Option Addr} {n : Nat} {es : List Ent} {zs : List Int} (h : PN B w K p n es zs) {b o : Nat} (hb : b < B) (v : Value) : PN B (w.setCell ⟨b, o, none⟩ v) K p n es zs :=
  ⟨h.el, h.zl, h.nrm, h.pl.set_other _ _ (off_from h.fr hb), h.fr, fun j hj => by
    obtain ⟨xs, c1, c2, c3⟩ := h.ev j hj
    exact ⟨xs, c1.set (a := ⟨b, o, none⟩) hb v, c2, c3⟩⟩
theorem PN.wider {B : Nat} {w : World} {K L : Nat} {p : Option Addr} {n : Nat} {es : List Ent} {zs : List Int} (h : PN B w K p n es zs) (hL : K ≤ L) : PN B w L p n es zs :=
  ⟨h.el, h.zl, h.nrm, h.pl, h.fr, fun j hj => by obtain ⟨xs, a, b, c⟩ := h.ev j hj; exact ⟨xs, a, b, by omega⟩⟩
end Go.Proofs.YtlhgpejapmpcmaaGreatDoor
/-
  Products of small polynomials; sums of products; a block of slices.
-/
namespace Go.Proofs.YtlhgpejapmpcmaaGreatDoor
open Go.RowKit
set_option linter.unusedVariables false
set_option linter.unusedSimpArgs false

theorem cnt_len (zs : List Int) : cnt zs ≤ zs.length := by
  have key : ∀ j, j ≤ zs.length → cnt (zs.take j) ≤ j := by
    intro j
    induction j with
    | zero => intro _; simp [cnt]
    | succ j ih =>
      intro hj
      have := ih (by omega)
      rw [cnt_take zs j (by omega)]
      split <;> omega
  have := key zs.length (Nat.le_refl _)
  rwa [List.take_length] at this
theorem sl_len (zs : List Int) (h : ∀ j, j < zs.length → zb (gx zs j) ≤ 32) : sl zs ≤ zs.length := by
  have key : ∀ j, j ≤ zs.length → sl (zs.take j) ≤ j := by
    intro j
    induction j with
    | zero => intro _; simp [sl]
    | succ j ih =>
      intro hj
      have h1 := ih (by omega)
      have h2 := h j (by omega)
      rw [sl_take zs j (by omega)]
      unfold zl
      omega
  have := key zs.length (Nat.le_refl _)
  rwa [List.take_length] at this
theorem bitLen_three (n : Nat) (h : n ≤ 3) : Lib.bitLen n ≤ 2 := by
  have : n = 0 ∨ n = 1 ∨ n = 2 ∨ n = 3 := by omega
  rcases this with rfl | rfl | rfl | rfl <;> decide
theorem small_cost {a b c d s t wd : Nat} (ha : a ≤ 3) (hb : b ≤ 3) (hc : c ≤ a) (hd : d ≤ b) (hs : s ≤ a) (ht : t ≤ b) (hw : 1 ≤ wd) : s * t + 80 * c * d ≤ wd * a * wd * b + 160 * (a + b) := by
  have h1 : s * t ≤ a * b := Nat.mul_le_mul hs ht
  have h2 : c * d ≤ a * b := Nat.mul_le_mul hc hd
  have h3 : 80 * c * d = 80 * (c * d) := Nat.mul_assoc 80 c d
  have h4 : a * b ≤ wd * a * wd * b := by
    have e : wd * a * wd * b = (wd * wd) * (a * b) := by
      rw [Nat.mul_assoc, Nat.mul_assoc, Nat.mul_assoc, Nat.mul_left_comm a wd b]
    rw [e]
    exact Nat.le_mul_of_pos_left _ (Nat.mul_pos hw hw)
  have h5 : a * b ≤ 2 * (a + b) := by
    have ha' : a = 0 ∨ a = 1 ∨ a = 2 ∨ a = 3 := by omega
    rcases ha' with rfl | rfl | rfl | rfl <;> omega
  omega
set_option maxHeartbeats 2000000 in
set_option maxRecDepth 100000 in
/-- upoly.Mul where one is zero. -/
theorem uMul_nil {w : World} {K L M : Nat} {p q : Option Addr} {n nc m mc : Nat} {es fs : List Ent} {zs ys : List Int} (h : PA w K p n nc es zs) (k : PA w L q m mc fs ys) (hn : n ≤ 1000) (hm : m ≤ 1000) (hK : K ≤ 1000) (hL : L ≤ 1000) (h0 : tlen zs = 0 ∨ tlen ys = 0) :
    Calls Tryz.prog 29 #[.slice p n nc, .slice q m mc] w (PnP [] M w) := by
  have hzl := h.zl
  have hyl := k.zl
  have htz := tlen_le zs
  have hty := tlen_le ys
  have HO := (show Hid _ from h0)
  clear h0
  go_enter Tryz.func29, Tryz.ntmps29
  go_wp2_with fail
  refine (read_any K p n nc es zs _ h (by omega) (by omega)).mono ?_
  rintro e w1 ⟨p1, n1, es1, rfl, h1, hb1⟩
  go_wp2_with fail
  refine (read_any L q m mc fs ys _ (k.below hb1) (by omega) (by omega)).mono ?_
  rintro e w2 ⟨q1, m1, fs1, rfl, k1, hb2⟩
  have hn' := h1.zl
  have hm' := k1.zl
  rw [length_tr] at hn' hm'
  subst hn' hm'
  go_wp2_with fail
  refine (product_nil w2 M p1 q1 (tlen zs) (tlen ys) (tlen zs) (tlen ys) (by omega) (by omega) HO.out).mono ?_
  rintro e w3 ⟨p3, n3, es3, rfl, h3, hb3⟩
  go_wp2
  go_ret
  exact PnP.from ⟨p3, n3, es3, rfl, h3, hb3⟩ (bnext' hb1 hb2)
/-- upoly.Mul of small ones. -/
theorem uMul_small {w : World} {p q : Option Addr} {n nc m mc : Nat} {es fs : List Ent} {zs ys : List Int} (h : PA w 1 p n nc es zs) (k : PA w 1 q m mc fs ys) (hn : n ≤ 3) (hm : m ≤ 3) :
    Calls Tryz.prog 29 #[.slice p n nc, .slice q m mc] w (PnP (mulp (tr zs) (tr ys)) 3 w) := by
  have hzl := h.zl
  have hyl := k.zl
  have htz := tlen_le zs
  have hty := tlen_le ys
  rw [mulp, length_tr, length_tr]
  by_cases h0 : tlen zs = 0 ∨ tlen ys = 0
  · rw [if_pos h0]
    exact uMul_nil h k (by omega) (by omega) (by decide) (by decide) h0
  · rw [if_neg h0]
    have b1 := pb_few h
    have b2 := pb_few k
    have hw3 : wd (tr zs) (tr ys) ≤ 3 := by
      have hb := bitLen_three (min (tlen zs) (tlen ys)) (by omega)
      unfold wd
      rw [pb_trim, pb_trim, length_tr, length_tr]
      omega
    have hw1 : 1 ≤ wd (tr zs) (tr ys) := by unfold wd; omega
    have s1 : sl (tr zs) ≤ tlen zs := by
      have := sl_len (tr zs) (fun j hj => by rw [length_tr] at hj; rw [gx_tr]; exact zb_le (h.ev j (by omega)))
      rwa [length_tr] at this
    have s2 : sl (tr ys) ≤ tlen ys := by
      have := sl_len (tr ys) (fun j hj => by rw [length_tr] at hj; rw [gx_tr]; exact zb_le (k.ev j (by omega)))
      rwa [length_tr] at this
    have c1 : cnt (tr zs) ≤ tlen zs := by have := cnt_len (tr zs); rwa [length_tr] at this
    have c2 : cnt (tr ys) ≤ tlen ys := by have := cnt_len (tr ys); rwa [length_tr] at this
    have hk : wd (tr zs) (tr ys) * min (tlen zs) (tlen ys) ≤ 80 := by
      have := Nat.mul_le_mul hw3 (show min (tlen zs) (tlen ys) ≤ 3 by omega)
      omega
    exact uMul_rows h k (by omega) (by omega) (by omega) (by omega) (by decide) (by decide) (by omega) hk (small_cost (by omega) (by omega) c1 c2 s1 s2 hw1)
/-- The sum of the first k products. -/
def accp (row vs : List (List Int)) : Nat → List Int
  | 0 => []
  | k + 1 => tr (pz (· + ·) (accp row vs k) (mulp (tr (gt row k)) (tr (gt vs k))))
theorem PN.tr {B : Nat} {w : World} {K : Nat} {p : Option Addr} {n : Nat} {es : List Ent} {zs : List Int} (h : PN B w K p n es zs) : Go.Proofs.YtlhgpejapmpcmaaGreatDoor.tr zs = zs := tr_self (by rw [h.nrm, h.zl])
/-- A block of slices. -/
def HB (w : World) (g : Nat) (hs : List Hdr) : Prop := w.heap[g]? = some (.cells (hs.map Hdr.val).toArray 37 (0, 0))
section
variable {w w' : World} {g : Nat} {hs : List Hdr}
theorem HB.lt (h : HB w g hs) : g < w.heap.size := (Array.getElem?_eq_some_iff.1 h).1
theorem HB.cell (h : HB w g hs) (j : Nat) (hj : j < hs.length) : w.cell? ⟨g, j, none⟩ = some (gh hs j).val := by
  have h' : w.heap[g]? = some (.cells (hs.map Hdr.val).toArray 37 (0, 0)) := h
  simp [World.cell?, h', gh, hj]
theorem HB.frozen (h : HB w g hs) (j : Nat) : w.frozen? ⟨g, j, none⟩ = false := frozen_of_row w g j _ _ h
theorem HB.set (h : HB w g hs) (j : Nat) (v : Hdr) : HB (w.setCell ⟨g, j, none⟩ v.val) g (hs.set j v) := by
  unfold HB
  rw [heap_setCell_same w g j _ _ _ h]
  simp [List.map_set]
theorem HB.below {B : Nat} (h : HB w g hs) (hb : Below B w w') (hg : g < B) : HB w' g hs := (hb.block g hg).trans h
theorem gh_set (hs : List Hdr) (i j : Nat) (v : Hdr) (hi : i < hs.length) : gh (hs.set i v) j = if j = i then v else gh hs j := by
  unfold gh
  simp only [List.getD_eq_getElem?_getD, List.getElem?_set]
  by_cases e : i = j
  · subst e; simp [hi]
  · have e' : ¬ j = i := fun h => e h.symm
    simp [e, e']
end
def hzs (n : Nat) : List Hdr := List.replicate n ⟨none, 0, 0⟩
theorem gh_hzs (n i : Nat) : gh (hzs n) i = ⟨none, 0, 0⟩ := by
  unfold gh hzs
  by_cases h : i < n
  · simp [List.getElem?_replicate, h]
  · simp [List.getElem?_replicate, h]; rfl
theorem made_hz (n : Nat) : madeCells #[.slice none 0 0] n = ((hzs n).map Hdr.val).toArray := by
  apply Array.ext
  · simp [size_madeCells, hzs]
  · intro i h1 h2
    simp [madeCells, hzs, Hdr.val, Nat.mod_one]
theorem mk_polys (n : Nat) (h : n ≤ 1000000000) (w : World) : (Instr.makeSlice 35 (.int .i64 n) (.int .i64 n)).run Tryz.prog w =
    .ok (.slice (some ⟨w.heap.size, 0, none⟩) n n) (w.alloc (.cells ((hzs n).map Hdr.val).toArray 37)) := by
  have hi := info_apiP
  cases hq : Tryz.prog.info? 37 with
  | none => rw [hq] at hi; cases hi
  | some i =>
    rw [hq] at hi
    simp only [Option.map_some, Option.some.injEq, Prod.mk.injEq] at hi
    obtain ⟨h1, h2, h3⟩ := hi
    have hr := run_make (P := Tryz.prog) w 35 37 i (.slice none 0 0) Tryz.underlying35 hq h1 .i64 .i64 n n (by omega) (Int.le_refl _) (by rw [h3]; omega) (by omega)
    rw [Int.toNat_natCast, h2, Nat.mul_one] at hr
    rw [hr]
    exact congrArg (fun c => Result.ok (Value.slice (some ⟨w.heap.size, 0, none⟩) n n) (w.alloc (.cells c 37))) (made_hz n)
end Go.Proofs.YtlhgpejapmpcmaaGreatDoor
/-
  Small rules on the reference's numbers in a list.
-/
namespace Go.Proofs.YtlhgpejapmpcmaaGreatDoor
open Go.RowKit
set_option linter.unusedVariables false
set_option linter.unusedSimpArgs false

theorem rval_abs (s : Bool) {ds : List Int} (h : U16 ds) : vd ds = ((rval s ds).natAbs : Int) := by
  have := vd_nonneg h
  unfold rval
  split <;> omega
theorem RE.set2 {w : World} {N : Nat} {z : Int} {e : Ent} {g o : Nat} {u v : Value} (h : RE w N z e) (ho : 0 < e.n → Off g e.p) : RE ((w.setCell ⟨g, o, none⟩ u).setCell ⟨g, o + 1, none⟩ v) N z e := by
  obtain ⟨⟨ds, h1, h2⟩, h4⟩ := h
  refine ⟨⟨ds, ⟨h1.len, fun hx => ?_, h1.u, h1.nrm, h1.sg, h1.sml⟩, h2⟩, h4⟩
  have := ho (by rw [h1.len] at hx; exact hx)
  exact ((h1.rd.set_other ⟨g, o, none⟩ u this).set_other ⟨g, o + 1, none⟩ v this) hx
theorem RN.fit {w : World} {s : Bool} {p : Option Addr} {n N : Nat} {ds : List Int} (h : RN w s p n ds) (hz : ((rval s ds).natAbs : Int) < pd N) : n ≤ N := by
  have a := vd_nonneg h.u
  have e : ((rval s ds).natAbs : Int) = vd ds := by unfold rval; split <;> omega
  rw [e] at hz
  rcases Nat.lt_or_ge N n with hk | hk
  · have b := vd_pos_of_top h.u (by rw [h.nrm]; omega)
    rw [h.nrm] at b
    have c := pd_mono (show N ≤ n - 1 by omega)
    omega
  · exact hk
theorem RE_al {w : World} {N : Nat} {z : Int} {e : Ent} {o : Obj} (h : RE w N z e) : RE (w.alloc o) N z e := h.below ((Below.refl _ _).alloc (Nat.le_refl _) o)
theorem re_st {w : World} {N : Nat} {z : Int} {e : Ent} {a : Addr} {v : Value} (h : RE w N z e) (ho : 0 < e.n → Off a.block e.p) : RE (w.setCell a v) N z e := by
  obtain ⟨⟨ds, h1, h2⟩, h4⟩ := h
  exact ⟨⟨ds, ⟨h1.len, fun hx => (h1.rd.set_other a v (ho (by rw [h1.len] at hx; exact hx))) hx, h1.u, h1.nrm, h1.sg, h1.sml⟩, h2⟩, h4⟩
theorem RE_st2 {w : World} {N U : Nat} {z : Int} {e : Ent} {a : Addr} {v : Value} (hU : 0 < e.n → ∀ x, e.p = some x → x.block < U) (ha : U ≤ a.block) (h : RE w N z e) : RE (w.setCell a v) N z e := re_st h fun h0 b hb e' => by have := hU h0 b hb; omega
theorem RE_st3 {w : World} {N F : Nat} {z : Int} {e : Ent} {a : Addr} {v : Value} (hF : Go.Proofs.YtlhgpejapmpcmaaGreatDoor.From F e.p) (ha : a.block < F) (h : RE w N z e) : RE (w.setCell a v) N z e := re_st h fun h0 b hb e' => by have := hF b hb; omega
theorem unFr {w : World} {p : Option Addr} (h : Go.Proofs.YtlhgpejapmpcmaaGreatDoor.From w.drew.heap.size p) : Go.Proofs.YtlhgpejapmpcmaaGreatDoor.From w.heap.size p := h
theorem keep4R {w w' : World} {a c i j k l : Nat} {u v x y : Value} (h : w.cell? ⟨a, i, none⟩ = some u ∧ w.cell? ⟨a, j, none⟩ = some v ∧ w.cell? ⟨c, k, none⟩ = some x ∧ w.cell? ⟨c, l, none⟩ = some y) (hb : Below w.heap.size w w') : w'.cell? ⟨a, i, none⟩ = some u ∧ w'.cell? ⟨a, j, none⟩ = some v ∧ w'.cell? ⟨c, k, none⟩ = some x ∧ w'.cell? ⟨c, l, none⟩ = some y :=
  ⟨cell_later hb h.1, cell_later hb h.2.1, cell_later hb h.2.2.1, cell_later hb h.2.2.2⟩
theorem Bx.kept {w w' : World} {r : Nat} {a b : Value} {row : Option Nat} (h : Bx w r a b) (hg : w.grownBy w' row) (hne : some r ≠ row) : Bx w' r a b := by
  have e : w'.heap[r]? = w.heap[r]? := hg.block r (block_lt_of_cell h.c0) hne
  exact ⟨(World.cell?_of_block (a := ⟨r, 0, none⟩) e).trans h.c0, (World.cell?_of_block (a := ⟨r, 1, none⟩) e).trans h.c1, (World.frozen?_of_block (a := ⟨r, 0, none⟩) e).trans h.f0, (World.frozen?_of_block (a := ⟨r, 1, none⟩) e).trans h.f1⟩
theorem tr_of_tlen {zs : List Int} (h : tlen zs = zs.length) : tr zs = zs := by rw [tr, h, List.take_length]
theorem sign_re {w : World} {N : Nat} {z : Int} {e : Ent} (h : RE w N z e) (hz : z ≠ 0) : e.s = decide (z < 0) := by
  obtain ⟨⟨ds, h1, h2, h3⟩, h4⟩ := h
  have := vd_nonneg h1.u
  cases hs : e.s <;> rw [hs, rval] at h2 <;> simp at h2 <;> simp <;> omega
end Go.Proofs.YtlhgpejapmpcmaaGreatDoor
/-
  limbs.Mod.
-/
namespace Go.Proofs.YtlhgpejapmpcmaaGreatDoor
open Go.RowKit
set_option linter.unusedVariables false
set_option linter.unusedSimpArgs false

set_option maxHeartbeats 1000000 in
/-- limbs.Mod: a small number that is none. -/
theorem Mod_bad (s : Bool) (p : Option Addr) (n nc : Nat) (m : Int) (w : World) (h : m < 1 ∨ 2147483647 < m) :
    Calls Tryz.prog 170 #[.agg #[.bool s, .slice p n nc], .int .i64 m] w fun e w' => e = .returned (.tuple #[.int .i64 0, .int .i64 1]) ∧ Below w.heap.size w w' := by
  rcases h with h | h
  · go_enter Tryz.func170, Tryz.ntmps170
    go_wp2
    go_ret2
    exact ⟨rfl, (Below.refl _ _).alloc (Nat.le_refl _) _⟩
  · have h' : ¬ m < 1 := by omega
    go_enter Tryz.func170, Tryz.ntmps170
    go_wp2
    go_ret2
    exact ⟨rfl, (Below.refl _ _).alloc (Nat.le_refl _) _⟩

set_option maxHeartbeats 1000000 in
/-- limbs.Mod. -/
theorem Mod_any (s : Bool) (p : Option Addr) (n nc : Nat) (xs : List Int) (m : Int) (w : World) (hA : AI w p n nc xs) (h1 : 1 ≤ m) (h2 : m ≤ 2147483647) :
    Calls Tryz.prog 170 #[.agg #[.bool s, .slice p n nc], .int .i64 m] w fun e w' => e = .returned (.tuple #[.int .i64 (ival s xs % m), .int .i64 0]) ∧ Below w.heap.size w w' := by
  have h1' : ¬ m < 1 := by omega
  have h2' : ¬ 2147483647 < m := by omega
  have hl := hA.len
  have hs := hA.sml
  go_enter Tryz.func170, Tryz.ntmps170
  go_wp2
  go_loop [6, 7] (fun rv iv => ∃ (k : Nat) (r : Int), k ≤ n ∧ iv = .int .i64 ((k : Int) - 1) ∧ rv = .int .u64 r ∧ 0 ≤ r ∧ r < m ∧ Hid (r = val (xs.drop k) % m)) (fun _ iv => (intOf iv + 1).toNat)
  case atStart => exact ⟨n, 0, Nat.le_refl _, by go_num, rfl, by decide, by omega, by show _ = _; rw [List.drop_of_length_le (by omega)]; simp [val]⟩
  case round =>
    obtain ⟨k, r, hk, rfl, rfl, hr0, hr1, HR⟩ := hrel
    by_cases h0 : k = 0
    · subst h0
      have hv := HR.out
      rw [List.drop_zero] at hv
      have HV : Hid (r = val xs % m) := hv
      clear hv HR
      cases s
      · go_wp2
        go_ret2
        have hv := HV.out
        subst hv
        exact ⟨rfl, (Below.refl _ _).alloc (Nat.le_refl _) _⟩
      · by_cases hz : r = 0
        · have hz' : ¬ 0 < r := by omega
          go_wp2
          go_ret2
          have hv := HV.out
          have e : ival true xs % m = 0 := by
            simp only [ival, if_true]; rw [hz] at hv; exact Int.emod_eq_zero_of_dvd (Int.dvd_neg.2 (Int.dvd_of_emod_eq_zero hv.symm))
          rw [e]
          exact ⟨rfl, (Below.refl _ _).alloc (Nat.le_refl _) _⟩
        · have hz' : 0 < r := by omega
          go_wp2
          go_ret2
          have hv := HV.out
          have e : ival true xs % m = m - r := by
            simp only [ival, if_true]
            exact neg_emod h1 hv hz
          rw [e]
          exact ⟨rfl, (Below.refl _ _).alloc (Nat.le_refl _) _⟩
    · obtain ⟨j, rfl⟩ : ∃ j, k = j + 1 := ⟨k - 1, by omega⟩
      have ej : ((j + 1 : Nat) : Int) - 1 = (j : Int) := by omega
      rw [ej]
      clear ej
      obtain ⟨b, off, hp, hcell⟩ := hA.rd (by omega)
      have hc := hcell j (by omega)
      have hlt := block_lt_of_cell hc
      obtain ⟨b0, b1⟩ := hA.u j
      have ho := or_join r (gx xs j) hr0 (by omega) b0 b1
      have hmz : (m == 0) = false := beq_eq_false_iff_ne.2 (by omega)
      subst hp
      clear hcell
      go_wp2
      refine ⟨⟨j, _, by omega, rfl, rfl, Int.emod_nonneg _ (by omega), Int.emod_lt_of_pos _ (by omega), ?_⟩, by simp [intOf]⟩
      show _ = _
      rw [drop_cons xs j (by omega)]
      simp only [val]
      have e := Int.emod_add_mul_ediv (val (xs.drop (j + 1))) m
      rw [← HR.out] at e
      have e2 : gx xs j + 4294967296 * val (xs.drop (j + 1)) = (r * 4294967296 + gx xs j) + m * (4294967296 * (val (xs.drop (j + 1)) / m)) := by
        rw [Int.mul_left_comm]; omega
      rw [e2, Int.add_mul_emod_self_left]
end Go.Proofs.YtlhgpejapmpcmaaGreatDoor
