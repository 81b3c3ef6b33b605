/-
  Plain facts on operators' normal forms.
-/
import Derived.Test.YtmjokfcojilidaaGreatDoorAjDuAk
import Derived.Test.YtmjokfcojilidaaGreatDoorNi
import Derived.ProofKit
import Derived.OpenShut
import Derived.Lib.SmallJoins
import Derived.Lay
import Derived.LaidOnce
import Derived.SevenTiedAt
import Derived.Test.YtmjokfcojilidaaGreatDoorUaVg
import Derived.Deep.SlicePairs
import Derived.Test.YtmjokfcojilidaaGreatDoorOn
import Derived.Deep.Slices
namespace Go.Proofs.YtmjokfcojilidaaGreatDoor
open Go.RowKit
set_option linter.unusedVariables false
set_option linter.unusedSimpArgs false

theorem length_oz (z : List (List Int)) : (oz z).length = olen z := by
  have := olen_le z
  simp [oz]
  omega
theorem tr_zero {a : List Int} (h : tlen a = 0) : tr a = [] := by
  rw [tr, h]
  rfl
theorem gt_oz (z : List (List Int)) (j : Nat) : gt (oz z) j = tr (gt z j) := by
  rcases Nat.lt_or_ge j (olen z) with h | h
  · have h1 : j < z.length := Nat.lt_of_lt_of_le h (olen_le z)
    simp [oz, gt, h, h1]
  · rw [gt_over0 _ _ (by rw [length_oz]; exact h), tr_zero (olen_zero z j h)]
theorem gt_mapt (z : List (List Int)) (j : Nat) : gt (z.map tr) j = tr (gt z j) := by
  rcases Nat.lt_or_ge j z.length with h | h
  · simp [gt, h]
  · rw [gt_over0 _ _ (by simpa using h), gt_over0 _ _ h]
    rfl
theorem olen_tlen {a b : List (List Int)} (h : ∀ j, tlen (gt a j) = tlen (gt b j)) : olen a = olen b := by
  refine olen_eq a (olen b) (fun j hj => by rw [h j]; exact olen_zero b j hj) ?_
  rcases Nat.eq_zero_or_pos (olen b) with h0 | h0
  · exact .inl h0
  · refine .inr ?_
    rw [h]
    intro e
    have h1 := tlen_top (b.map fun z => (tlen z : Int)) h0
    rw [gx_tlens] at h1
    apply h1
    show (tlen (gt b (olen b - 1)) : Int) = 0
    rw [e]
    rfl
theorem olen_mapt (z : List (List Int)) : olen (z.map tr) = olen z := olen_tlen fun j => by rw [gt_mapt, tlen_tr]
theorem otr_mapt (z : List (List Int)) : otr (z.map tr) = oz z := by rw [otr, olen_mapt, ← List.map_take]; rfl
theorem olen_oz (z : List (List Int)) : olen (oz z) = olen z := olen_tlen fun j => by rw [gt_oz, tlen_tr]
theorem otr_oz (z : List (List Int)) : otr (oz z) = oz z := by rw [otr, olen_oz, List.take_of_length_le (by rw [length_oz]; exact Nat.le_refl _)]
theorem gt_rng (F : Nat → List Int) (M : Nat) (h : ∀ j, M ≤ j → F j = []) (j : Nat) : gt ((List.range M).map F) j = F j := by
  rcases Nat.lt_or_ge j M with hj | hj
  · simp [gt, hj]
  · rw [gt_over0 _ _ (by simpa using hj), h j hj]
theorem rng_oz (z : List (List Int)) : ((List.range (olen z)).map fun i => tr (gt z i)) = oz z := by
  apply List.ext_getElem
  · simp [length_oz]
  · intro i h1 h2
    have h3 : i < olen z := by simpa using h1
    have h4 : i < z.length := Nat.lt_of_lt_of_le h3 (olen_le z)
    simp [oz, gt, h4]
theorem rng_mul (F : List Int → List Int) (z : List (List Int)) : ((List.range (olen z)).map fun i => F (tr (gt z i))) = (oz z).map F := by
  rw [← rng_oz, List.map_map]
  rfl
theorem pz_nil (f : Int → Int → Int) : tr (pz f [] []) = [] := by simp [pz, tr]
theorem otr_sum (f : Int → Int → Int) (z y : List (List Int)) : otr ((List.range (max (oz z).length (oz y).length)).map fun i => tr (pz f (gt (oz z) i) (gt (oz y) i))) = otr (opz f z y) := by
  simp only [length_oz, gt_oz]
  rfl
theorem mulp_neg_nil {y : List Int} (h : tlen (mulp [-1] (tr y)) = 0) : mulp [-1] (tr y) = [] := by
  have h1 : tlen (tr y) = 0 := by
    rcases Nat.eq_zero_or_pos (tlen (tr y)) with h0 | h0
    · exact h0
    · have h2 := tlen_top (tr y) h0
      have h3 := tlen_zero _ (tlen (tr y) - 1) (by rw [h]; exact Nat.zero_le _)
      rw [gx_mulp1] at h3
      omega
  have h2 : tr y = [] := by rw [tlen_tr] at h1; exact tr_zero h1
  rw [h2]
  rfl
theorem gt_neg (y : List (List Int)) (j : Nat) : gt (otr ((oz y).map (mulp [-1]))) j = mulp [-1] (tr (gt y j)) := by
  have h0 : ∀ j, gt ((oz y).map (mulp [-1])) j = mulp [-1] (tr (gt y j)) := fun j => by
    rw [← gt_oz]
    rcases Nat.lt_or_ge j (oz y).length with h | h
    · simp [gt, h]
    · rw [gt_over0 _ _ (by simpa using h), gt_over0 _ _ h]
      rfl
  rcases Nat.lt_or_ge j (olen ((oz y).map (mulp [-1]))) with h | h
  · rw [otr, gt_take _ _ _ h, h0]
  · rw [gt_over0 _ _ (by rw [length_otr]; exact h)]
    have h1 := olen_zero _ j h
    rw [h0] at h1
    exact (mulp_neg_nil h1).symm
theorem olen_neg (y : List (List Int)) : olen ((oz y).map (mulp [-1])) = olen y := by
  refine olen_tlen fun j => ?_
  have h0 : gt ((oz y).map (mulp [-1])) j = mulp [-1] (tr (gt y j)) := by
    rw [← gt_oz]
    rcases Nat.lt_or_ge j (oz y).length with h | h
    · simp [gt, h]
    · rw [gt_over0 _ _ (by simpa using h), gt_over0 _ _ h]
      rfl
  rw [h0]
  refine tlen_eq _ _ (fun i hi => ?_) ?_
  · rw [gx_mulp1, gx_tr, tlen_zero _ _ hi]
    rfl
  · rcases Nat.eq_zero_or_pos (tlen (gt y j)) with h1 | h1
    · exact .inl h1
    · refine .inr ?_
      rw [gx_mulp1, gx_tr]
      have := tlen_top (gt y j) h1
      omega
theorem otr_dif (z y : List (List Int)) : otr ((List.range (max (oz z).length (olen ((oz y).map (mulp [-1]))))).map fun i => tr (pz (· + ·) (gt (oz z) i) (gt (otr ((oz y).map (mulp [-1]))) i))) = otr (opz (· - ·) z y) := by
  simp only [length_oz, gt_oz, olen_neg, gt_neg, pz_minus]
  rfl
theorem odeg_low (zss : List (List Int)) : ∀ j, j ≤ zss.length → -1 ≤ odeg (zss.take j) := by
  intro j
  induction j with
  | zero => intro _; simp [odeg]
  | succ j ih =>
    intro hj
    have h1 := ih (by omega)
    rw [odeg_take zss j (by omega)]
    omega
theorem odeg_oz (z : List (List Int)) : odeg (oz z) = odeg z := by
  have key : ∀ j, odeg ((oz z).take j) = odeg (z.take j) := by
    intro j
    induction j with
    | zero => rfl
    | succ j ih =>
      rcases Nat.lt_or_ge j (olen z) with h | h
      · rw [odeg_take _ j (by rw [length_oz]; exact h), odeg_take _ j (Nat.lt_of_lt_of_le h (olen_le z)), ih, gt_oz, tlen_tr]
      · rw [List.take_of_length_le (by rw [length_oz]; omega)] at ih ⊢
        rcases Nat.lt_or_ge j z.length with h1 | h1
        · have h2 : -1 ≤ odeg (z.take j) := by
            have hb := odeg_low z j (by omega)
            exact hb
          rw [odeg_take _ j h1, ih, olen_zero z j h]
          simp only [Int.natCast_zero]
          omega
        · rw [List.take_of_length_le (by omega)] at ih ⊢
          exact ih
  have := key (max z.length (oz z).length)
  rw [List.take_of_length_le (by omega), List.take_of_length_le (by omega)] at this
  exact this
theorem obit_oz (z : List (List Int)) : obit (oz z) = obit z := by
  have key : ∀ j, obit ((oz z).take j) = obit (z.take j) := by
    intro j
    induction j with
    | zero => rfl
    | succ j ih =>
      rcases Nat.lt_or_ge j (olen z) with h | h
      · rw [obit_take _ j (by rw [length_oz]; exact h), obit_take _ j (Nat.lt_of_lt_of_le h (olen_le z)), ih, gt_oz, pb_trim]
      · rw [List.take_of_length_le (by rw [length_oz]; omega)] at ih ⊢
        rcases Nat.lt_or_ge j z.length with h1 | h1
        · have h2 : pb (gt z j) = 0 := by
            rw [← pb_trim, tr_zero (olen_zero z j h)]
            rfl
          rw [obit_take _ j h1, ih, h2]
          omega
        · rw [List.take_of_length_le (by omega)] at ih ⊢
          exact ih
  have := key (max z.length (oz z).length)
  rw [List.take_of_length_le (by omega), List.take_of_length_le (by omega)] at this
  exact this
end Go.Proofs.YtmjokfcojilidaaGreatDoor
/-
  Arguments, read as data: what every card wants.
-/
namespace Go.Proofs.YtmjokfcojilidaaGreatDoor
open Go.ChangeShapes Go.WideShapes Go.ChangeAt Go.RowKit Go.Joins
set_option linter.unusedVariables false
set_option linter.unusedSimpArgs false

theorem own : ownKnob Tryz.prog.godebug = none := by kernel_rfl
theorem laidOut : laidOutB Tryz.prog = true := by kernel_rfl
end Go.Proofs.YtmjokfcojilidaaGreatDoor
/-
  What an argument of type api.Poly is, read as data.
-/
namespace Go.Proofs.YtmjokfcojilidaaGreatDoor
open Go.ChangeShapes Go.WideShapes Go.ChangeAt Go.RowKit Go.Joins
set_option linter.unusedVariables false
set_option linter.unusedSimpArgs false

/-- An element as it may be handed in. -/
def RawE (w : World) (e : Ent) : Prop := ∃ xs, xs.length = e.n ∧ e.n ≤ e.c ∧ e.c ≤ maxLen ∧ Rd w e.p .u32 xs ∧ U32 xs ∧ (e.p = none → e.c = 0)
/-- A polynomial as it may be handed in. -/
structure PZ (w : World) (p : Option Addr) (n nc : Nat) (es : List Ent) : Prop where
  el : es.length = n
  cap : n ≤ nc
  bnd : nc ≤ maxLen
  pn : p = none → nc = 0
  pl : PL w p es
  ev : ∀ j, j < n → RawE w (ge es j)
theorem RawE.below {w w' : World} {e : Ent} (h : RawE w e) (hb : Below w.heap.size w w') : RawE w' e := by
  obtain ⟨xs, h1, h2, h3, h4, h5, h6⟩ := h
  exact ⟨xs, h1, h2, h3, h4.below hb, h5, h6⟩
theorem PZ.below {w w' : World} {p : Option Addr} {n nc : Nat} {es : List Ent} (h : PZ w p n nc es) (hb : Below w.heap.size w w') : PZ w' p n nc es :=
  ⟨h.el, h.cap, h.bnd, h.pn, h.pl.below hb, fun j hj => (h.ev j hj).below hb⟩
theorem cellsI2 : Tryz.prog.cellsOf 24 = 2 := by kernel_rfl
theorem cellsU : Tryz.prog.cellsOf 79 = 1 := by kernel_rfl
theorem cellsUs : Tryz.prog.cellsOf 22 = 1 := by kernel_rfl
theorem cellsB : Tryz.prog.cellsOf 4 = 1 := by kernel_rfl
/-- The element of two cells. -/
def entOf : Value → Value → Ent
  | .bool s, .slice p n c => ⟨s, p, n, c⟩
  | _, _ => ez
set_option maxRecDepth 100000 in
theorem rawCells {H : Type} {enc : TypeId × Value → H} {W : World} {fuel : Nat} {v0 v1 : Value} {y0 y1 : DataW H × List MemPlace}
    (hy0 : DataW.trod enc Tryz.prog W 0 (fun _ => true) true fuel 4 [v0] = some y0) (hy1 : DataW.trod enc Tryz.prog W 0 (fun _ => true) true fuel 22 [v1] = some y1) :
    v0 = .bool (entOf v0 v1).s ∧ v1 = .slice (entOf v0 v1).p (entOf v0 v1).n (entOf v0 v1).c ∧ RawE W (entOf v0 v1) := by
  obtain ⟨s, e0, -⟩ := DataW.trod_bool Tryz.underlying4 hy0
  simp only [List.cons.injEq, and_true] at e0
  subst e0
  rcases open_ints Tryz.underlying22 Tryz.underlying79 cellsU hy1 with ⟨hcs, -⟩ | ⟨a, len, cap, zs, hcs, -, hl, hm, hz, -, hcell, hwz⟩
  · simp only [List.cons.injEq, and_true] at hcs
    subst hcs
    exact ⟨rfl, rfl, [], rfl, Nat.le_refl _, Nat.zero_le _, Rd.nil, u32_nil, fun _ => rfl⟩
  · simp only [List.cons.injEq, and_true] at hcs
    subst hcs
    simp only [if_true] at hz
    refine ⟨rfl, rfl, zs.take len, by show (zs.take len).length = len; simp; omega, hl, hm, ?_, ?_, fun h => by cases h⟩
    · intro hp
      have hp' : 0 < zs.length := by simp at hp; omega
      obtain ⟨b, off, rfl, hc⟩ := ints_at hcell hp'
      refine ⟨b, off, rfl, fun j hj => ?_⟩
      have hj' : j < len ∧ j < zs.length := by simp at hj; omega
      rw [gx_take _ _ _ hj'.1]
      exact hc j hj'.2
    · refine u32_take (fun j => ?_) len
      by_cases hj : j < zs.length
      · have := hwz zs[j] (List.getElem_mem hj)
        rw [gx_mem zs j hj]
        have h4 : 0 ≤ zs[j] ∧ zs[j] ≤ 4294967295 := by
          simpa [Lit.wf, IntKind.min, IntKind.max, IntKind.signed, IntKind.bits] using this
        exact ⟨h4.1, by omega⟩
      · rw [gx_past zs _ (Nat.le_refl _) j (by omega)]; decide
set_option maxRecDepth 100000 in
theorem openPoly {H : Type} {enc : TypeId × Value → H} {W : World} {base : Nat} {v0 : Value} {d0 : DataW H} {p0 : List MemPlace} (hv : Value.okWide Tryz.prog W .any base 26 v0)
    (h0 : DataW.Trod enc Tryz.prog W 0 (fun _ => true) true 26 v0 d0 p0) : ∃ (p : Option Addr) (n nc : Nat) (es : List Ent), v0 = .slice p n nc ∧ PZ W p n nc es := by
  obtain ⟨a0, len, cap, rfl⟩ := okWide_slice Tryz.underlying26 hv
  obtain ⟨fuel, hf⟩ := h0
  rcases Go.Deep.open_slice_pairs Tryz.underlying26 Tryz.underlying24 cellsI2 rfl rfl cellsB cellsUs hf with ⟨hcs, -⟩ | ⟨a, len', cap', m, k, V0, V1, D0, D1, P0, P1, hcs, -, hl, hm, hmm, -, hcell⟩
  · simp [Value.cells] at hcs
    obtain ⟨rfl, rfl, rfl⟩ := hcs
    exact ⟨none, 0, 0, [], rfl, ⟨rfl, Nat.le_refl _, Nat.zero_le _, fun _ => rfl, PL.nil, fun j hj => absurd hj (by omega)⟩⟩
  · simp [Value.cells] at hcs
    obtain ⟨rfl, rfl, rfl⟩ := hcs
    simp only [if_true] at hmm
    have hr : ∀ i, i < len → V0 i = .bool (entOf (V0 i) (V1 i)).s ∧ V1 i = .slice (entOf (V0 i) (V1 i)).p (entOf (V0 i) (V1 i)).n (entOf (V0 i) (V1 i)).c ∧ RawE W (entOf (V0 i) (V1 i)) := fun i hi => by
      obtain ⟨-, -, g0, g1⟩ := hcell i (by omega)
      exact rawCells g0 g1
    have hge : ∀ i, i < len → ge ((List.range len).map fun i => entOf (V0 i) (V1 i)) i = entOf (V0 i) (V1 i) := fun i hi => by simp [ge, hi]
    refine ⟨some a, len, cap, (List.range len).map fun i => entOf (V0 i) (V1 i), rfl, ⟨by simp, hl, hm, nofun, ?_, fun j hj => by rw [hge j hj]; exact (hr j hj).2.2⟩⟩
    intro hp
    have hp' : 0 < len := by simpa using hp
    obtain ⟨b, off, spot⟩ := a
    have hspot : spot = none := by simpa [Addr.add] using World.cell?_spot (hcell 0 (by omega)).1
    subst hspot
    refine ⟨b, off, rfl, fun j hj => ?_⟩
    have hj' : j < len := by simpa using hj
    obtain ⟨c0, c1, -, -⟩ := hcell j (by omega)
    obtain ⟨e0, e1, -⟩ := hr j hj'
    rw [hge j hj', ← e0, ← e1]
    rw [add_plain] at c0 c1
    exact ⟨c0, c1⟩
end Go.Proofs.YtmjokfcojilidaaGreatDoor
/-
  A row of polynomials, read as data (out of Om).
-/
namespace Go.Proofs.YtmjokfcojilidaaGreatDoor
open Go.ChangeShapes Go.WideShapes Go.ChangeAt Go.RowKit Go.Joins
set_option linter.unusedVariables false
set_option linter.unusedSimpArgs false

/-- A row of polynomials as it may be handed in. -/
structure RZ (w : World) (p : Option Addr) (n nc : Nat) (hs : List Hdr) : Prop where
  el : hs.length = n
  cap : n ≤ nc
  bnd : nc ≤ maxLen
  pn : p = none → nc = 0
  hl : HL w p hs
  ev : ∀ j, j < n → ∃ es, PZ w (gh hs j).p (gh hs j).n (gh hs j).c es
theorem RZ.below {w w' : World} {p : Option Addr} {n nc : Nat} {hs : List Hdr} (h : RZ w p n nc hs) (hb : Below w.heap.size w w') : RZ w' p n nc hs :=
  ⟨h.el, h.cap, h.bnd, h.pn, h.hl.below hb, fun j hj => let ⟨es, he⟩ := h.ev j hj; ⟨es, he.below hb⟩⟩
set_option maxRecDepth 100000 in
theorem polyT {H : Type} {enc : TypeId × Value → H} {W : World} {fuel : Nat} {v : Value} {x : DataW H × List MemPlace} (hf : DataW.trod enc Tryz.prog W 0 (fun _ => true) true fuel 26 [v] = some x) :
    v = (hdrOf v).val ∧ ∃ es, PZ W (hdrOf v).p (hdrOf v).n (hdrOf v).c es := by
  rcases Go.Deep.open_slice_pairs Tryz.underlying26 Tryz.underlying24 cellsI2 rfl rfl cellsB cellsUs hf with ⟨hcs, -⟩ | ⟨a, len, cap, m, k, V0, V1, D0, D1, P0, P1, hcs, -, hl, hm, hmm, -, hcell⟩
  · simp only [List.cons.injEq, and_true] at hcs
    subst hcs
    exact ⟨rfl, [], rfl, Nat.le_refl _, Nat.zero_le _, fun _ => rfl, PL.nil, fun j hj => absurd hj (Nat.not_lt_zero j)⟩
  · simp only [List.cons.injEq, and_true] at hcs
    subst hcs
    simp only [if_true] at hmm
    have hr : ∀ i, i < len → V0 i = .bool (entOf (V0 i) (V1 i)).s ∧ V1 i = .slice (entOf (V0 i) (V1 i)).p (entOf (V0 i) (V1 i)).n (entOf (V0 i) (V1 i)).c ∧ RawE W (entOf (V0 i) (V1 i)) := fun i hi => by
      obtain ⟨-, -, g0, g1⟩ := hcell i (by omega)
      exact rawCells g0 g1
    have hge : ∀ i, i < len → ge ((List.range len).map fun i => entOf (V0 i) (V1 i)) i = entOf (V0 i) (V1 i) := fun i hi => by simp [ge, hi]
    refine ⟨rfl, (List.range len).map fun i => entOf (V0 i) (V1 i), by show _ = len; simp, hl, hm, nofun, ?_, fun j (hj : j < len) => by rw [hge j hj]; exact (hr j hj).2.2⟩
    intro hp
    have hp' : 0 < len := by simpa using hp
    obtain ⟨b, off, spot⟩ := a
    have hspot : spot = none := by simpa [Addr.add] using World.cell?_spot (hcell 0 (by omega)).1
    subst hspot
    refine ⟨b, off, rfl, fun j hj => ?_⟩
    have hj' : j < len := by simpa using hj
    obtain ⟨c0, c1, -, -⟩ := hcell j (by omega)
    obtain ⟨e0, e1, -⟩ := hr j hj'
    rw [hge j hj', ← e0, ← e1]
    rw [add_plain] at c0 c1
    exact ⟨c0, c1⟩
theorem cellsP : Tryz.prog.cellsOf 26 = 1 := by kernel_rfl
/-- A slice whose elements are slices. -/
theorem sliceT {H : Type} {enc : TypeId × Value → H} {W : World} {fuel : Nat} {t e : TypeId} {v : Value} {x : DataW H × List MemPlace} (ht : Tryz.prog.underlying t = some (.slice e)) (hc : Tryz.prog.cellsOf e = 1) (hf : DataW.trod enc Tryz.prog W 0 (fun _ => true) true fuel t [v] = some x)
    {E : Hdr → Prop} (hE : ∀ (fuel : Nat) (u : Value) (y : DataW H × List MemPlace), DataW.trod enc Tryz.prog W 0 (fun _ => true) true fuel e [u] = some y → u = (hdrOf u).val ∧ E (hdrOf u)) :
    v = (hdrOf v).val ∧ (hdrOf v).n ≤ (hdrOf v).c ∧ (hdrOf v).c ≤ maxLen ∧ ((hdrOf v).p = none → (hdrOf v).c = 0) ∧ ∃ hs : List Hdr, hs.length = (hdrOf v).n ∧ HL W (hdrOf v).p hs ∧ ∀ j, j < (hdrOf v).n → E (gh hs j) := by
  rcases Go.Deep.open_slice1 ht hc hf with ⟨hcs, -⟩ | ⟨a, len, cap, m, n, V, D, Pl, hcs, -, hl, hm, hmm, -, hcell⟩
  · simp only [List.cons.injEq, and_true] at hcs
    subst hcs
    exact ⟨rfl, Nat.le_refl _, Nat.zero_le _, fun _ => rfl, [], rfl, fun h => absurd h (Nat.not_lt_zero 0), fun j hj => absurd hj (Nat.not_lt_zero j)⟩
  · simp only [List.cons.injEq, and_true] at hcs
    subst hcs
    simp only [if_true] at hmm
    have hg : ∀ i, i < len → gh ((List.range len).map fun i => hdrOf (V i)) i = hdrOf (V i) := fun i hi => by simp [gh, hi]
    refine ⟨rfl, hl, hm, nofun, (List.range len).map fun i => hdrOf (V i), by show _ = len; simp, fun hp => ?_, fun j (hj : j < len) => by rw [hg j hj]; exact (hE _ _ _ (hcell j (by omega)).2).2⟩
    have hp' : 0 < len := by simpa using hp
    obtain ⟨b, off, spot⟩ := a
    have hspot : spot = none := by simpa [Addr.add] using World.cell?_spot (hcell 0 (by omega)).1
    subst hspot
    refine ⟨b, off, rfl, fun j hj => ?_⟩
    have hj' : j < len := by simpa using hj
    obtain ⟨c0, g0⟩ := hcell j (by omega)
    rw [hg j hj', ← (hE _ _ _ g0).1]
    rw [add_plain] at c0
    exact c0
end Go.Proofs.YtmjokfcojilidaaGreatDoor
