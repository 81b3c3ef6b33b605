/-
  Arguments, read as data: what every card wants.
-/
import Derived.Test.YtakfimhpnpapdaaGreatDoorNi
import Derived.ProofKit
import Derived.OpenShut
import Derived.Lib.SmallJoins
import Derived.Lay
import Derived.LaidOnce
import Derived.SevenTiedAt
import Derived.Test.YtakfimhpnpapdaaGreatDoorUaWhPn
import Derived.Deep.SlicePairs
import Derived.Test.YtakfimhpnpapdaaGreatDoorCyViVuVv
import Derived.Test.YtakfimhpnpapdaaGreatDoorRkVq
import Derived.Test.YtakfimhpnpapdaaGreatDoorNbUj
import Derived.Test.YtakfimhpnpapdaaGreatDoorCu
import Derived.Test.YtakfimhpnpapdaaGreatDoorHeReRxRf
namespace Go.Proofs.YtakfimhpnpapdaaGreatDoor
open Go.ChangeShapes Go.WideShapes Go.ChangeAt Go.RowKit Go.Joins
set_option linter.unusedVariables false
set_option linter.unusedSimpArgs false

theorem own : ownKnob Tryz.prog.godebug = none := by kernel_rfl
theorem laidOut : laidOutB Tryz.prog = true := by kernel_rfl
end Go.Proofs.YtakfimhpnpapdaaGreatDoor
/-
  What an argument of type api.Poly is, read as data.
-/
namespace Go.Proofs.YtakfimhpnpapdaaGreatDoor
open Go.ChangeShapes Go.WideShapes Go.ChangeAt Go.RowKit Go.Joins
set_option linter.unusedVariables false
set_option linter.unusedSimpArgs false

/-- An element as it may be handed in. -/
def RawE (w : World) (e : Ent) : Prop := ∃ xs, xs.length = e.n ∧ e.n ≤ e.c ∧ e.c ≤ maxLen ∧ Rd w e.p .u32 xs ∧ U32 xs ∧ (e.p = none → e.c = 0)
/-- A polynomial as it may be handed in. -/
structure PZ (w : World) (p : Option Addr) (n nc : Nat) (es : List Ent) : Prop where
  el : es.length = n
  cap : n ≤ nc
  bnd : nc ≤ maxLen
  pn : p = none → nc = 0
  pl : PL w p es
  ev : ∀ j, j < n → RawE w (ge es j)
theorem RawE.below {w w' : World} {e : Ent} (h : RawE w e) (hb : Below w.heap.size w w') : RawE w' e := by
  obtain ⟨xs, h1, h2, h3, h4, h5, h6⟩ := h
  exact ⟨xs, h1, h2, h3, h4.below hb, h5, h6⟩
theorem PZ.below {w w' : World} {p : Option Addr} {n nc : Nat} {es : List Ent} (h : PZ w p n nc es) (hb : Below w.heap.size w w') : PZ w' p n nc es :=
  ⟨h.el, h.cap, h.bnd, h.pn, h.pl.below hb, fun j hj => (h.ev j hj).below hb⟩
theorem cellsI2 : Tryz.prog.cellsOf 29 = 2 := by kernel_rfl
theorem cellsU : Tryz.prog.cellsOf 26 = 1 := by kernel_rfl
theorem cellsUs : Tryz.prog.cellsOf 27 = 1 := by kernel_rfl
theorem cellsB : Tryz.prog.cellsOf 4 = 1 := by kernel_rfl
/-- The element of two cells. -/
def entOf : Value → Value → Ent
  | .bool s, .slice p n c => ⟨s, p, n, c⟩
  | _, _ => ez
set_option maxRecDepth 100000 in
theorem rawCells {H : Type} {enc : TypeId × Value → H} {W : World} {fuel : Nat} {v0 v1 : Value} {y0 y1 : DataW H × List MemPlace}
    (hy0 : DataW.trod enc Tryz.prog W 0 (fun _ => true) true fuel 4 [v0] = some y0) (hy1 : DataW.trod enc Tryz.prog W 0 (fun _ => true) true fuel 27 [v1] = some y1) :
    v0 = .bool (entOf v0 v1).s ∧ v1 = .slice (entOf v0 v1).p (entOf v0 v1).n (entOf v0 v1).c ∧ RawE W (entOf v0 v1) := by
  obtain ⟨s, e0, -⟩ := DataW.trod_bool Tryz.underlying4 hy0
  simp only [List.cons.injEq, and_true] at e0
  subst e0
  rcases open_ints Tryz.underlying27 Tryz.underlying26 cellsU hy1 with ⟨hcs, -⟩ | ⟨a, len, cap, zs, hcs, -, hl, hm, hz, -, hcell, hwz⟩
  · simp only [List.cons.injEq, and_true] at hcs
    subst hcs
    exact ⟨rfl, rfl, [], rfl, Nat.le_refl _, Nat.zero_le _, Rd.nil, u32_nil, fun _ => rfl⟩
  · simp only [List.cons.injEq, and_true] at hcs
    subst hcs
    simp only [if_true] at hz
    refine ⟨rfl, rfl, zs.take len, by show (zs.take len).length = len; simp; omega, hl, hm, ?_, ?_, fun h => by cases h⟩
    · intro hp
      have hp' : 0 < zs.length := by simp at hp; omega
      obtain ⟨b, off, rfl, hc⟩ := ints_at hcell hp'
      refine ⟨b, off, rfl, fun j hj => ?_⟩
      have hj' : j < len ∧ j < zs.length := by simp at hj; omega
      rw [gx_take _ _ _ hj'.1]
      exact hc j hj'.2
    · refine u32_take (fun j => ?_) len
      by_cases hj : j < zs.length
      · have := hwz zs[j] (List.getElem_mem hj)
        rw [gx_mem zs j hj]
        have h4 : 0 ≤ zs[j] ∧ zs[j] ≤ 4294967295 := by
          simpa [Lit.wf, IntKind.min, IntKind.max, IntKind.signed, IntKind.bits] using this
        exact ⟨h4.1, by omega⟩
      · rw [gx_past zs _ (Nat.le_refl _) j (by omega)]; decide
set_option maxRecDepth 100000 in
theorem openPoly {H : Type} {enc : TypeId × Value → H} {W : World} {base : Nat} {v0 : Value} {d0 : DataW H} {p0 : List MemPlace} (hv : Value.okWide Tryz.prog W .any base 23 v0)
    (h0 : DataW.Trod enc Tryz.prog W 0 (fun _ => true) true 23 v0 d0 p0) : ∃ (p : Option Addr) (n nc : Nat) (es : List Ent), v0 = .slice p n nc ∧ PZ W p n nc es := by
  obtain ⟨a0, len, cap, rfl⟩ := okWide_slice Tryz.underlying23 hv
  obtain ⟨fuel, hf⟩ := h0
  rcases Go.Deep.open_slice_pairs Tryz.underlying23 Tryz.underlying29 cellsI2 rfl rfl cellsB cellsUs hf with ⟨hcs, -⟩ | ⟨a, len', cap', m, k, V0, V1, D0, D1, P0, P1, hcs, -, hl, hm, hmm, -, hcell⟩
  · simp [Value.cells] at hcs
    obtain ⟨rfl, rfl, rfl⟩ := hcs
    exact ⟨none, 0, 0, [], rfl, ⟨rfl, Nat.le_refl _, Nat.zero_le _, fun _ => rfl, PL.nil, fun j hj => absurd hj (by omega)⟩⟩
  · simp [Value.cells] at hcs
    obtain ⟨rfl, rfl, rfl⟩ := hcs
    simp only [if_true] at hmm
    have hr : ∀ i, i < len → V0 i = .bool (entOf (V0 i) (V1 i)).s ∧ V1 i = .slice (entOf (V0 i) (V1 i)).p (entOf (V0 i) (V1 i)).n (entOf (V0 i) (V1 i)).c ∧ RawE W (entOf (V0 i) (V1 i)) := fun i hi => by
      obtain ⟨-, -, g0, g1⟩ := hcell i (by omega)
      exact rawCells g0 g1
    have hge : ∀ i, i < len → ge ((List.range len).map fun i => entOf (V0 i) (V1 i)) i = entOf (V0 i) (V1 i) := fun i hi => by simp [ge, hi]
    refine ⟨some a, len, cap, (List.range len).map fun i => entOf (V0 i) (V1 i), rfl, ⟨by simp, hl, hm, nofun, ?_, fun j hj => by rw [hge j hj]; exact (hr j hj).2.2⟩⟩
    intro hp
    have hp' : 0 < len := by simpa using hp
    obtain ⟨b, off, spot⟩ := a
    have hspot : spot = none := by simpa [Addr.add] using World.cell?_spot (hcell 0 (by omega)).1
    subst hspot
    refine ⟨b, off, rfl, fun j hj => ?_⟩
    have hj' : j < len := by simpa using hj
    obtain ⟨c0, c1, -, -⟩ := hcell j (by omega)
    obtain ⟨e0, e1, -⟩ := hr j hj'
    rw [hge j hj', ← e0, ← e1]
    rw [add_plain] at c0 c1
    exact ⟨c0, c1⟩
end Go.Proofs.YtakfimhpnpapdaaGreatDoor
/-
  What PolySums' walk wants besides: sizes of normal lists, Lead of any, Cut of a number.
-/
namespace Go.Proofs.YtakfimhpnpapdaaGreatDoor
open Go.RowKit
set_option linter.unusedVariables false
set_option linter.unusedSimpArgs false

theorem zb_zero : zb 0 = 0 := rfl
theorem pb_tr (zs : List Int) : pb (tr zs) = pb zs := by
  have step : ∀ j, tlen zs ≤ j → j ≤ zs.length → pb (zs.take j) = pb (tr zs) := by
    intro j
    induction j with
    | zero => intro h1 _; have : tlen zs = 0 := by omega
              rw [tr, this]
    | succ j ih =>
      intro h1 h2
      rcases Nat.lt_or_ge j (tlen zs) with h | h
      · have : tlen zs = j + 1 := by omega
        rw [tr, this]
      · rw [pb_take zs j (by omega), ih h (by omega), tlen_zero zs j h, zb_zero, Nat.max_zero]
  have := step zs.length (tlen_le zs) (Nat.le_refl _)
  rw [List.take_length] at this
  exact this.symm
set_option maxHeartbeats 2000000 in
set_option maxRecDepth 100000 in
/-- ashlarref3.At below the beginning. -/
theorem rpAt_neg {w : World} (p : Option Addr) (n nc : Nat) :
    Calls Tryz.prog 43 #[.slice p n nc, .int .i64 (-1)] w fun r w' => ∃ u : Ent, r = .returned (.agg #[.bool u.s, .slice u.p u.n u.c]) ∧ RE w' 4 0 u ∧ Go.Proofs.YtakfimhpnpapdaaGreatDoor.From (w.heap.size + 1) u.p ∧ Below w.heap.size w w' := by
  have hal := bel_al (o := .cells #[.bool false, .slice none 0 0] 46) (Below.refl w.heap.size w)
  have hX : Bx (w.alloc (.cells #[.bool false, .slice none 0 0] 46)) w.heap.size (.bool false) (.slice none 0 0) := Bx.new _ _ _ rfl
  go_enter Tryz.func43, Tryz.ntmps43
  go_upto_region 1 with fail
  generalize w.alloc (.cells #[.bool false, .slice none 0 0] 46) = W at *
  go_wp2_with fail
  refine (rOf_e 0 _ (by decide) (by decide)).mono ?_
  rintro e w1 ⟨u, rfl, hO, hF, hb1⟩
  obtain ⟨r0, r1, f0, f1⟩ := hX.later hb1
  have hlt : w.heap.size < W.heap.size := block_lt_of_cell hX.c0
  have hB := bnext' hal hb1
  go_wp2
  refine bodyPost_ret (v := .agg #[.bool u.s, .slice u.p u.n u.c]) (by simp [results, Tryz.results43, go_sem, r0, r1]) rfl ⟨u, rfl, ?_, fun a ha => Nat.le_trans hlt (hF a ha), bset2 hB (Nat.le_refl _) _ _⟩
  exact hO.set2 (fun _ a ha => by have := hF a ha; omega)
set_option maxHeartbeats 2000000 in
set_option maxRecDepth 100000 in
theorem rpLead_none {w : World} (p : Option Addr) (nc : Nat) :
    Calls Tryz.prog 18 #[.slice p 0 nc] w fun r w' => ∃ u : Ent, r = .returned (.agg #[.bool u.s, .slice u.p u.n u.c]) ∧ RE w' 4 0 u ∧ Below w.heap.size w w' := by
  have hal := bel_al (o := .cells #[.bool false, .slice none 0 0] 46) (Below.refl w.heap.size w)
  have hX : Bx (w.alloc (.cells #[.bool false, .slice none 0 0] 46)) w.heap.size (.bool false) (.slice none 0 0) := Bx.new _ _ _ rfl
  have ha := rpAt_neg (w := w.alloc (.cells #[.bool false, .slice none 0 0] 46)) p 0 nc
  go_enter Tryz.func18, Tryz.ntmps18
  go_upto_region 1 with fail
  generalize w.alloc (.cells #[.bool false, .slice none 0 0] 46) = W at *
  go_wp2_with fail
  refine ha.mono ?_
  rintro r w1 ⟨u, rfl, hO, hF, hb1⟩
  obtain ⟨r0, r1, f0, f1⟩ := hX.later hb1
  have hlt : w.heap.size < W.heap.size := block_lt_of_cell hX.c0
  clear ha
  go_wp2
  refine bodyPost_ret (v := .agg #[.bool u.s, .slice u.p u.n u.c]) (by simp [results, Tryz.results18, go_sem, r0, r1]) rfl ⟨u, rfl, ?_, bset2 (bnext' hal hb1) (Nat.le_refl _) _ _⟩
  exact hO.set2 (fun _ a ha => by have := hF a ha; omega)
/-- ashlarref3.Lead. -/
theorem rpLead_any {w : World} {N : Nat} {p : Option Addr} {n nc : Nat} {es : List Ent} {zs : List Int} (h : PR w N p n nc es zs) (hn : n ≤ 1000000) (hN : 4 ≤ N) :
    Calls Tryz.prog 18 #[.slice p n nc] w fun r w' => ∃ u : Ent, r = .returned (.agg #[.bool u.s, .slice u.p u.n u.c]) ∧ RE w' N (gx zs (n - 1)) u ∧ Below w.heap.size w w' := by
  rcases Nat.eq_zero_or_pos n with h0 | h0
  · subst h0
    refine (rpLead_none p nc).mono ?_
    rintro r w1 ⟨u, rfl, hu, hb⟩
    rw [gx_past zs 0 (by rw [h.zl]; exact Nat.le_refl _) _ (Nat.zero_le _)]
    exact ⟨u, rfl, hu.wide hN, hb⟩
  · refine (rpLead_in h h0 hn).mono ?_
    rintro r w1 ⟨rfl, hb⟩
    exact ⟨_, rfl, (h.ev _ (by omega)).below hb, hb⟩
/-- ashlarlaw1.Cut of a number as it may be handed in. -/
theorem Cut_e {w : World} {e : Ent} (h : RawE w e) :
    Calls Tryz.prog 40 #[.agg #[.bool e.s, .slice e.p e.n e.c]] w fun r w' => ∃ (u : Ent) (y : Int), r = .returned (.agg #[.bool u.s, .slice u.p u.n u.c]) ∧ EV w' 24 y u ∧ Go.Proofs.YtakfimhpnpapdaaGreatDoor.From w.heap.size u.p ∧ Below w.heap.size w w' := by
  obtain ⟨xs, h1, h2, h3, h4, h5, h6⟩ := h
  refine (Cut_any e.s e.p e.n e.c xs w h1 h2 h3 h4 h5 h6).mono ?_
  rintro r w1 ⟨p1, n1, c1, rfl, hA, hn, hF, hb⟩
  exact ⟨⟨e.s, p1, n1, c1⟩, _, rfl, ⟨_, hA, rfl, hn⟩, hF, hb⟩
theorem new_at (w : World) (o : Obj) : (w.alloc o).heap[w.heap.size]? = some o := by unfold World.alloc; exact Array.getElem?_push_size ..
theorem no_int {w : World} {g : Nat} {s : Bool} {q : Option Addr} {n c : Nat} {ty : TypeId} (hg : w.heap[g]? = some (.cells #[.bool s, .slice q n c] ty)) (o : Nat) (k : IntKind) (z : Int) : w.cell? ⟨g, o, none⟩ ≠ some (.int k z) := by
  intro h
  match o, h with
  | 0, h => simp [World.cell?, hg, go_sem] at h
  | 1, h => simp [World.cell?, hg, go_sem] at h
  | (o + 2), h => simp [World.cell?, hg, go_sem] at h
theorem RE.offb {w : World} {N : Nat} {z : Int} {e : Ent} (h : RE w N z e) {g : Nat} {s : Bool} {q : Option Addr} {n c : Nat} {ty : TypeId} (hg : w.heap[g]? = some (.cells #[.bool s, .slice q n c] ty)) : 0 < e.n → Off g e.p := by
  intro h0 a ha e
  obtain ⟨⟨ds, h1, h2, h3⟩, h4⟩ := h
  obtain ⟨b, off, hp, hc⟩ := h1.rd (by rw [h1.len]; exact h0)
  rw [hp] at ha
  cases ha
  dsimp only at e
  subst e
  exact no_int hg _ _ _ (hc 0 (by rw [h1.len]; exact h0))
theorem PR.gset {w : World} {N : Nat} {p : Option Addr} {n nc : Nat} {es : List Ent} {zs : List Int} {g o : Nat} {u v : Value} (h : PR w N p n nc es zs) (hp : 0 < n → Off g p) (hq : ∀ j, j < n → 0 < (ge es j).n → Off g (ge es j).p) : PR ((w.setCell ⟨g, o, none⟩ u).setCell ⟨g, o + 1, none⟩ v) N p n nc es zs := by
  refine ⟨h.el, h.zl, h.cap, h.bnd, ?_, fun j hj => (h.ev j hj).set2 (hq j hj)⟩
  intro hx
  have h0 := hp (by rw [← h.el]; exact hx)
  exact ((h.pl.set_other ⟨g, o, none⟩ u h0).set_other ⟨g, o + 1, none⟩ v h0) hx
theorem PA.lt {w : World} {K : Nat} {p : Option Addr} {n nc : Nat} {es : List Ent} {zs : List Int} (h : PA w K p n nc es zs) (i : Nat) : ((gx zs i).natAbs : Int) < pw K := by
  rcases Nat.lt_or_ge i n with hi | hi
  · obtain ⟨xs, h1, h2, h3⟩ := h.ev i hi
    rw [← h2]
    exact Int.lt_of_lt_of_le (h1.lt _) (pw_mono h3)
  · rw [gx_past zs n (by rw [h.zl]; exact Nat.le_refl _) i hi]
    exact pw_pos K
end Go.Proofs.YtakfimhpnpapdaaGreatDoor
/-
  ashlarref1.Is.
-/
namespace Go.Proofs.YtakfimhpnpapdaaGreatDoor
open Go.RowKit
set_option linter.unusedVariables false
set_option linter.unusedSimpArgs false

set_option maxRecDepth 100000 in
set_option maxHeartbeats 1000000 in
/-- ashlarref1.Is: an answer is this number. -/
theorem rIs_any {B : Nat} {w : World} {s t : Bool} {p q : Option Addr} {n m mc : Nat} {xs ds : List Int} {z : Int} (h : NI B w s p n xs z) (hn : n ≤ 1000) (hl : ds.length = m) (hm : m ≤ 1000) (hX : Rd w q .i64 ds) (hU : U16 ds) (hnr : tlen ds = m) (hs : m = 0 → t = false) (hv : rval t ds = z) :
    Calls Tryz.prog 23 #[.agg #[.bool s, .slice p n n], .agg #[.bool t, .slice q m mc]] w fun e w' => e = .returned (.bool true) ∧ Below w.heap.size w w' := by
  go_enter Tryz.func23, Tryz.ntmps23
  go_wp2_with fail
  have hX2 := boxes2 w (.bool s) (.slice p n n) (.bool t) (.slice q m mc) 29 46
  generalize ((w.alloc (Obj.cells #[Value.bool s, Value.slice p n n] 29)).alloc (Obj.cells #[Value.bool t, Value.slice q m mc] 46)) = W at *
  have k0 := hX2.ca0
  have k1 := hX2.ca1
  have k2 := hX2.cb0
  have k3 := hX2.cb1
  go_region_held3 (fun w' => w'.cell? ⟨w.heap.size, 0, none⟩ = some (.bool s) ∧ w'.cell? ⟨w.heap.size, 1, none⟩ = some (.slice p n n) ∧ w'.cell? ⟨w.heap.size + 1, 0, none⟩ = some (.bool t) ∧ w'.cell? ⟨w.heap.size + 1, 1, none⟩ = some (.slice q m mc)) (first | exact ⟨by assumption, by assumption, by assumption, by assumption⟩ | exact keepc4 (by assumption) (by assumption))
    (first
      | (go_at_call 49; refine (rTo_any t q m mc ds _ hl hm (hX.below hX2.below).drew hU).mono ?_; rintro e w1 ⟨p', m', cap, rfl, hA1, hm', hb1⟩)
      | (go_at_call 48; have h1 := h.below (bnext' hX2.below (undrew hb1)); have h2 : NN t (jn ds m') z := nn_jn hU (by omega) (fun e => hs (by omega)) hv (by have := hm'.out; omega); refine (rEq_nn h1 hA1 h2 hn).mono ?_; rintro e w2 ⟨rfl, hb2⟩))
  go_wp2
  go_ret
  exact ⟨rfl, bnext' (bnext' hX2.below (undrew hb1)) hb2⟩
end Go.Proofs.YtakfimhpnpapdaaGreatDoor
/-
  ashlarref1.Is of what is known.
-/
namespace Go.Proofs.YtakfimhpnpapdaaGreatDoor
open Go.RowKit
set_option linter.unusedVariables false
set_option linter.unusedSimpArgs false

/-- ashlarref1.Is of what is known. -/
theorem rIs_rn {B : Nat} {w : World} {s t : Bool} {p q : Option Addr} {n m : Nat} {xs ds : List Int} {z : Int} (h : NI B w s p n xs z) (hn : n ≤ 1000) (k : RN w t q m ds) (hm : m ≤ 1000) (hv : rval t ds = z) :
    Calls Tryz.prog 23 #[.agg #[.bool s, .slice p n n], .agg #[.bool t, .slice q m m]] w fun e w' => e = .returned (.bool true) ∧ Below w.heap.size w w' :=
  rIs_any h hn k.len hm k.rd k.u k.nrm k.sg hv
end Go.Proofs.YtakfimhpnpapdaaGreatDoor
