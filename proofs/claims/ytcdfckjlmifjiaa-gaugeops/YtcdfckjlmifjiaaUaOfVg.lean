/-
  Lists of numbers in memory: slices whose elements have two cells.
-/
import Derived.Test.YtcdfckjlmifjiaaOaWaWbWcWdWeNi
import Derived.Deep.SlicePairs
namespace Go.Proofs.Ytcdfckjlmifjiaa
open Go.RowKit
set_option linter.unusedVariables false
set_option linter.unusedSimpArgs false

/-- An element: its sign, its slice. -/
structure Ent where
  s : Bool
  p : Option Addr
  n : Nat
  c : Nat
/-- The element that make lays. -/
def ez : Ent := ⟨false, none, 0, 0⟩
/-- The element at a place. -/
def ge (es : List Ent) (i : Nat) : Ent := (es[i]?).getD ez
theorem ge_mem (es : List Ent) (i : Nat) (h : i < es.length) : ge es i = es[i] := by simp [ge, h]
theorem ge_take (es : List Ent) (n i : Nat) (h : i < n) : ge (es.take n) i = ge es i := by simp [ge, List.getElem?_take, h]
theorem ge_set_same (es : List Ent) (i : Nat) (e : Ent) (h : i < es.length) : ge (es.set i e) i = e := by simp [ge, h]
theorem ge_set_other (es : List Ent) (i j : Nat) (e : Ent) (h : j ≠ i) : ge (es.set i e) j = ge es j := by simp [ge, List.getElem?_set, Ne.symm h]
theorem ge_append_left (a b : List Ent) (i : Nat) (h : i < a.length) : ge (a ++ b) i = ge a i := by simp [ge, List.getElem?_append, h]
theorem ge_snoc (a : List Ent) (e : Ent) : ge (a ++ [e]) a.length = e := by simp [ge]
/-- The elements lie at p. -/
def PL (w : World) (p : Option Addr) (es : List Ent) : Prop :=
  0 < es.length → ∃ b o, p = some ⟨b, o, none⟩ ∧ ∀ j, j < es.length → w.cell? ⟨b, o + j * 2, none⟩ = some (.bool (ge es j).s) ∧ w.cell? ⟨b, o + j * 2 + 1, none⟩ = some (.slice (ge es j).p (ge es j).n (ge es j).c)
/-- The cells of a list. -/
def ca2 (es : List Ent) : Array Value := (es.flatMap fun e => [.bool e.s, .slice e.p e.n e.c]).toArray
/-- Block g is a list, known whole. -/
def Row2 (w : World) (g : Nat) (t : TypeId) (es : List Ent) : Prop := w.heap[g]? = some (.cells (ca2 es) t (0, 0))
theorem flat_get (es : List Ent) : ∀ j, j < es.length → (es.flatMap fun e => [Value.bool e.s, .slice e.p e.n e.c])[j * 2]? = some (.bool (ge es j).s) ∧ (es.flatMap fun e => [Value.bool e.s, .slice e.p e.n e.c])[j * 2 + 1]? = some (.slice (ge es j).p (ge es j).n (ge es j).c) := by
  induction es with
  | nil => intro j hj; simp at hj
  | cons e r ih =>
    intro j hj
    cases j with
    | zero => exact ⟨rfl, rfl⟩
    | succ j =>
      have h := ih j (by simpa using hj)
      have e1 : (j + 1) * 2 = j * 2 + 1 + 1 := by omega
      have e2 : (j + 1) * 2 + 1 = j * 2 + 1 + 1 + 1 := by omega
      have e3 : ge (e :: r) (j + 1) = ge r j := by simp [ge]
      rw [e1, e3]
      simp only [List.flatMap_cons, List.cons_append, List.nil_append, List.getElem?_cons_succ]
      exact h
theorem flat_length (es : List Ent) : (es.flatMap fun e => [Value.bool e.s, .slice e.p e.n e.c]).length = es.length * 2 := by
  induction es with
  | nil => rfl
  | cons e r ih => simp only [List.flatMap_cons, List.length_append, ih, List.length_cons, List.length_nil]; omega
theorem flat_set (es : List Ent) : ∀ j e, j < es.length → ((es.flatMap fun e => [Value.bool e.s, .slice e.p e.n e.c]).set (j * 2) (.bool e.s)).set (j * 2 + 1) (.slice e.p e.n e.c) = (es.set j e).flatMap fun e => [Value.bool e.s, .slice e.p e.n e.c] := by
  induction es with
  | nil => intro j e hj; simp at hj
  | cons a r ih =>
    intro j e hj
    cases j with
    | zero => rfl
    | succ j =>
      have h := ih j e (by simpa using hj)
      have e1 : (j + 1) * 2 = j * 2 + 1 + 1 := by omega
      rw [e1]
      simp only [List.flatMap_cons, List.cons_append, List.nil_append, List.set_cons_succ]
      rw [h]
theorem size_ca2 (es : List Ent) : (ca2 es).size = es.length * 2 := by rw [ca2, List.size_toArray, flat_length]
section
variable {w w' : World} {g : Nat} {t : TypeId} {es : List Ent} {p : Option Addr}
theorem Row2.lt (h : Row2 w g t es) : g < w.heap.size := (Array.getElem?_eq_some_iff.1 h).1
theorem Row2.cell (h : Row2 w g t es) (j : Nat) (hj : j < es.length) : w.cell? ⟨g, j * 2, none⟩ = some (.bool (ge es j).s) ∧ w.cell? ⟨g, j * 2 + 1, none⟩ = some (.slice (ge es j).p (ge es j).n (ge es j).c) := by
  obtain ⟨h1, h2⟩ := flat_get es j hj
  rw [cell_of_row w g (j * 2) _ t (0, 0) h, cell_of_row w g (j * 2 + 1) _ t (0, 0) h]
  simp only [ca2, List.getElem?_toArray]
  exact ⟨h1, h2⟩
theorem Row2.frozen (h : Row2 w g t es) (j : Nat) : w.frozen? ⟨g, j, none⟩ = false := frozen_of_row w g j _ t h
theorem Row2.set (h : Row2 w g t es) (j : Nat) (e : Ent) (hj : j < es.length) : Row2 ((w.setCell ⟨g, j * 2, none⟩ (.bool e.s)).setCell ⟨g, j * 2 + 1, none⟩ (.slice e.p e.n e.c)) g t (es.set j e) := by
  unfold Row2
  have h1 := heap_setCell_same w g (j * 2) _ t (.bool e.s) h
  rw [heap_setCell_same _ g (j * 2 + 1) _ t (.slice e.p e.n e.c) h1]
  simp only [ca2, List.setIfInBounds_toArray]
  rw [flat_set es j e hj]
theorem Row2.below {B : Nat} (h : Row2 w g t es) (hb : Below B w w') (hg : g < B) : Row2 w' g t es := (hb.block g hg).trans h
theorem Row2.drew (h : Row2 w g t es) : Row2 w.drew g t es := h
theorem Row2.alloc (h : Row2 w g t es) (o : Obj) : Row2 (w.alloc o) g t es := (Below.heap_alloc w o g h.lt).trans h
theorem Row2.new (w : World) (t : TypeId) (es : List Ent) : Row2 (w.alloc (.cells (ca2 es) t)) w.heap.size t es := heap_alloc_new w _
theorem Row2.set_other (h : Row2 w g t es) (a : Addr) (v : Value) (hne : g ≠ a.block) : Row2 (w.setCell a v) g t es := (heap_setCell_other w a g v hne).trans h
theorem Row2.pl (h : Row2 w g t es) : PL w (some ⟨g, 0, none⟩) es := fun _ => ⟨g, 0, rfl, fun j hj => by
  simp only [Nat.zero_add]; exact h.cell j hj⟩
theorem PL.nil : PL w p [] := fun h => by simp at h
theorem PL.lt (h : PL w p es) (hx : 0 < es.length) : ∃ b o, p = some ⟨b, o, none⟩ ∧ b < w.heap.size := by
  obtain ⟨b, o, hp, hc⟩ := h hx
  exact ⟨b, o, hp, block_lt_of_cell (hc 0 hx).1⟩
theorem PL.same (h : PL w p es) (hs : ∀ a, p = some a → a.block < w.heap.size → w'.heap[a.block]? = w.heap[a.block]?) : PL w' p es := fun hx => by
  obtain ⟨b, o, hp, hc⟩ := h hx
  refine ⟨b, o, hp, fun j hj => ?_⟩
  have hlt : b < w.heap.size := block_lt_of_cell (hc 0 hx).1
  have hb := hs ⟨b, o, none⟩ hp hlt
  exact ⟨(World.cell?_of_block (a := ⟨b, o + j * 2, none⟩) hb).trans (hc j hj).1, (World.cell?_of_block (a := ⟨b, o + j * 2 + 1, none⟩) hb).trans (hc j hj).2⟩
theorem PL.below (h : PL w p es) (hb : Below w.heap.size w w') : PL w' p es := h.same fun a _ hlt => hb.block a.block hlt
theorem PL.off (h : PL w p es) (hg : w.heap.size ≤ g) (hx : 0 < es.length) : Off g p := fun a ha e => by
  obtain ⟨b, o, hp, hlt⟩ := h.lt hx
  rw [hp] at ha
  cases ha
  simp at e; omega
theorem PL.drew (h : PL w p es) : PL w.drew p es := h
theorem PL.alloc (h : PL w p es) (o : Obj) : PL (w.alloc o) p es := h.same fun a _ hlt => Below.heap_alloc w o a.block hlt
theorem PL.set_other (h : PL w p es) (a : Addr) (v : Value) (hne : Off a.block p) : PL (w.setCell a v) p es := h.same fun b hb _ => heap_setCell_other w a b.block v (hne b hb)
theorem PL.take (h : PL w p es) (n : Nat) : PL w p (es.take n) := fun hx => by
  obtain ⟨b, o, hp, hc⟩ := h (by simp at hx; omega)
  refine ⟨b, o, hp, fun j hj => ?_⟩
  have : j < n ∧ j < es.length := by simp at hj; omega
  rw [ge_take _ _ _ this.1]; exact hc j this.2
end
/-- The number of an element. -/
def EV (w : World) (K : Nat) (z : Int) (e : Ent) : Prop := ∃ xs, AI w e.p e.n e.c xs ∧ ival e.s xs = z ∧ e.n ≤ K
/-- A list of numbers that is handed in. -/
structure PA (w : World) (K : Nat) (p : Option Addr) (n nc : Nat) (es : List Ent) (zs : List Int) : Prop where
  el : es.length = n
  zl : zs.length = n
  cap : n ≤ nc
  bnd : nc ≤ maxLen
  pn : p = none → nc = 0
  pl : PL w p es
  ev : ∀ j, j < n → EV w K (gx zs j) (ge es j)
section
variable {w w' : World} {K : Nat} {z : Int} {e : Ent} {p : Option Addr} {n nc : Nat} {es : List Ent} {zs : List Int}
theorem EV.below (h : EV w K z e) (hb : Below w.heap.size w w') : EV w' K z e := by
  obtain ⟨xs, h1, h2⟩ := h
  exact ⟨xs, h1.below hb, h2⟩
theorem EV.drew (h : EV w K z e) : EV w.drew K z e := by
  obtain ⟨xs, h1, h2⟩ := h
  exact ⟨xs, h1.drew, h2⟩
theorem PA.below (h : PA w K p n nc es zs) (hb : Below w.heap.size w w') : PA w' K p n nc es zs := ⟨h.el, h.zl, h.cap, h.bnd, h.pn, h.pl.below hb, fun j hj => (h.ev j hj).below hb⟩
theorem PA.drew (h : PA w K p n nc es zs) : PA w.drew K p n nc es zs := ⟨h.el, h.zl, h.cap, h.bnd, h.pn, h.pl.drew, fun j hj => (h.ev j hj).drew⟩
theorem PA.take (h : PA w K p n nc es zs) (m : Nat) (hm : m ≤ n) : PA w K p m nc (es.take m) (zs.take m) :=
  ⟨by have := h.el; simp; omega, by have := h.zl; simp; omega, by have := h.cap; omega, h.bnd, h.pn, h.pl.take m, fun j hj => by rw [gx_take _ _ _ hj, ge_take _ _ _ hj]; exact h.ev j (by omega)⟩
theorem PA.clip (h : PA w K p n nc es zs) : (p = none → n = 0) → PA w K p n n es zs := fun hp => ⟨h.el, h.zl, Nat.le_refl _, by have := h.cap; have := h.bnd; omega, hp, h.pl, h.ev⟩
end
end Go.Proofs.Ytcdfckjlmifjiaa
/-
  What an argument of type api.Poly is, read as data.
-/
namespace Go.Proofs.Ytcdfckjlmifjiaa
open Go.ChangeShapes Go.WideShapes Go.ChangeAt Go.RowKit Go.Joins
set_option linter.unusedVariables false
set_option linter.unusedSimpArgs false

/-- An element as it may be handed in. -/
def RawE (w : World) (e : Ent) : Prop := ∃ xs, xs.length = e.n ∧ e.n ≤ e.c ∧ e.c ≤ maxLen ∧ Rd w e.p .u32 xs ∧ U32 xs ∧ (e.p = none → e.c = 0)
/-- A polynomial as it may be handed in. -/
structure PZ (w : World) (p : Option Addr) (n nc : Nat) (es : List Ent) : Prop where
  el : es.length = n
  cap : n ≤ nc
  bnd : nc ≤ maxLen
  pn : p = none → nc = 0
  pl : PL w p es
  ev : ∀ j, j < n → RawE w (ge es j)
theorem RawE.below {w w' : World} {e : Ent} (h : RawE w e) (hb : Below w.heap.size w w') : RawE w' e := by
  obtain ⟨xs, h1, h2, h3, h4, h5, h6⟩ := h
  exact ⟨xs, h1, h2, h3, h4.below hb, h5, h6⟩
theorem PZ.below {w w' : World} {p : Option Addr} {n nc : Nat} {es : List Ent} (h : PZ w p n nc es) (hb : Below w.heap.size w w') : PZ w' p n nc es :=
  ⟨h.el, h.cap, h.bnd, h.pn, h.pl.below hb, fun j hj => (h.ev j hj).below hb⟩
theorem cellsI2 : Try.prog.cellsOf 28 = 2 := by kernel_rfl
theorem cellsU : Try.prog.cellsOf 59 = 1 := by kernel_rfl
theorem cellsUs : Try.prog.cellsOf 26 = 1 := by kernel_rfl
theorem cellsB : Try.prog.cellsOf 4 = 1 := by kernel_rfl
/-- The element of two cells. -/
def entOf : Value → Value → Ent
  | .bool s, .slice p n c => ⟨s, p, n, c⟩
  | _, _ => ez
set_option maxRecDepth 100000 in
theorem rawCells {H : Type} {enc : TypeId × Value → H} {W : World} {fuel : Nat} {v0 v1 : Value} {y0 y1 : DataW H × List MemPlace}
    (hy0 : DataW.trod enc Try.prog W 0 (fun _ => true) true fuel 4 [v0] = some y0) (hy1 : DataW.trod enc Try.prog W 0 (fun _ => true) true fuel 26 [v1] = some y1) :
    v0 = .bool (entOf v0 v1).s ∧ v1 = .slice (entOf v0 v1).p (entOf v0 v1).n (entOf v0 v1).c ∧ RawE W (entOf v0 v1) := by
  obtain ⟨s, e0, -⟩ := DataW.trod_bool Try.underlying4 hy0
  simp only [List.cons.injEq, and_true] at e0
  subst e0
  rcases open_ints Try.underlying26 Try.underlying59 cellsU hy1 with ⟨hcs, -⟩ | ⟨a, len, cap, zs, hcs, -, hl, hm, hz, -, hcell, hwz⟩
  · simp only [List.cons.injEq, and_true] at hcs
    subst hcs
    exact ⟨rfl, rfl, [], rfl, Nat.le_refl _, Nat.zero_le _, Rd.nil, u32_nil, fun _ => rfl⟩
  · simp only [List.cons.injEq, and_true] at hcs
    subst hcs
    simp only [if_true] at hz
    refine ⟨rfl, rfl, zs.take len, by show (zs.take len).length = len; simp; omega, hl, hm, ?_, ?_, fun h => by cases h⟩
    · intro hp
      have hp' : 0 < zs.length := by simp at hp; omega
      obtain ⟨b, off, rfl, hc⟩ := ints_at hcell hp'
      refine ⟨b, off, rfl, fun j hj => ?_⟩
      have hj' : j < len ∧ j < zs.length := by simp at hj; omega
      rw [gx_take _ _ _ hj'.1]
      exact hc j hj'.2
    · refine u32_take (fun j => ?_) len
      by_cases hj : j < zs.length
      · have := hwz zs[j] (List.getElem_mem hj)
        rw [gx_mem zs j hj]
        have h4 : 0 ≤ zs[j] ∧ zs[j] ≤ 4294967295 := by
          simpa [Lit.wf, IntKind.min, IntKind.max, IntKind.signed, IntKind.bits] using this
        exact ⟨h4.1, by omega⟩
      · rw [gx_past zs _ (Nat.le_refl _) j (by omega)]; decide
set_option maxRecDepth 100000 in
theorem openPoly {H : Type} {enc : TypeId × Value → H} {W : World} {base : Nat} {v0 : Value} {d0 : DataW H} {p0 : List MemPlace} (hv : Value.okWide Try.prog W .any base 25 v0)
    (h0 : DataW.Trod enc Try.prog W 0 (fun _ => true) true 25 v0 d0 p0) : ∃ (p : Option Addr) (n nc : Nat) (es : List Ent), v0 = .slice p n nc ∧ PZ W p n nc es := by
  obtain ⟨a0, len, cap, rfl⟩ := okWide_slice Try.underlying25 hv
  obtain ⟨fuel, hf⟩ := h0
  rcases Go.Deep.open_slice_pairs Try.underlying25 Try.underlying28 cellsI2 rfl rfl cellsB cellsUs hf with ⟨hcs, -⟩ | ⟨a, len', cap', m, k, V0, V1, D0, D1, P0, P1, hcs, -, hl, hm, hmm, -, hcell⟩
  · simp [Value.cells] at hcs
    obtain ⟨rfl, rfl, rfl⟩ := hcs
    exact ⟨none, 0, 0, [], rfl, ⟨rfl, Nat.le_refl _, Nat.zero_le _, fun _ => rfl, PL.nil, fun j hj => absurd hj (by omega)⟩⟩
  · simp [Value.cells] at hcs
    obtain ⟨rfl, rfl, rfl⟩ := hcs
    simp only [if_true] at hmm
    have hr : ∀ i, i < len → V0 i = .bool (entOf (V0 i) (V1 i)).s ∧ V1 i = .slice (entOf (V0 i) (V1 i)).p (entOf (V0 i) (V1 i)).n (entOf (V0 i) (V1 i)).c ∧ RawE W (entOf (V0 i) (V1 i)) := fun i hi => by
      obtain ⟨-, -, g0, g1⟩ := hcell i (by omega)
      exact rawCells g0 g1
    have hge : ∀ i, i < len → ge ((List.range len).map fun i => entOf (V0 i) (V1 i)) i = entOf (V0 i) (V1 i) := fun i hi => by simp [ge, hi]
    refine ⟨some a, len, cap, (List.range len).map fun i => entOf (V0 i) (V1 i), rfl, ⟨by simp, hl, hm, nofun, ?_, fun j hj => by rw [hge j hj]; exact (hr j hj).2.2⟩⟩
    intro hp
    have hp' : 0 < len := by simpa using hp
    obtain ⟨b, off, spot⟩ := a
    have hspot : spot = none := by simpa [Addr.add] using World.cell?_spot (hcell 0 (by omega)).1
    subst hspot
    refine ⟨b, off, rfl, fun j hj => ?_⟩
    have hj' : j < len := by simpa using hj
    obtain ⟨c0, c1, -, -⟩ := hcell j (by omega)
    obtain ⟨e0, e1, -⟩ := hr j hj'
    rw [hge j hj', ← e0, ← e1]
    rw [add_plain] at c0 c1
    exact ⟨c0, c1⟩
end Go.Proofs.Ytcdfckjlmifjiaa
/-
  Lists of numbers that grow by append, whatever the elements are.
-/
namespace Go.Proofs.Ytcdfckjlmifjiaa
open Go.RowKit
set_option linter.unusedVariables false
set_option linter.unusedSimpArgs false

/-- What is said of an element lasts while its own memory does. -/
structure Lasts (E : World → Int → Ent → Prop) : Prop where
  grown : ∀ {w w' : World} {z : Int} {e : Ent} {row : Option Nat}, E w z e → w.grownBy w' row → (0 < e.n → ∀ a, e.p = some a → some a.block ≠ row) → E w' z e
  lt : ∀ {w : World} {z : Int} {e : Ent}, E w z e → 0 < e.n → ∀ a, e.p = some a → a.block < w.heap.size
theorem Lasts.below {E : World → Int → Ent → Prop} (L : Lasts E) {w w' : World} {z : Int} {e : Ent} (h : E w z e) (hb : Below w.heap.size w w') : E w' z e := L.grown h (grownBy_below hb none) (fun _ _ _ e => by cases e)
theorem rd_grown {w w' : World} {p : Option Addr} {k : IntKind} {xs : List Int} {row : Option Nat} (h : Rd w p k xs) (hg : w.grownBy w' row) (hne : 0 < xs.length → ∀ a, p = some a → some a.block ≠ row) : Rd w' p k xs := fun hx => h.kept hg (hne hx) hx
theorem rd_lt {w : World} {p : Option Addr} {k : IntKind} {xs : List Int} (h : Rd w p k xs) (hx : 0 < xs.length) : ∀ a, p = some a → a.block < w.heap.size := fun a ha => by
  obtain ⟨b, off, hp, hlt⟩ := h.lt hx
  rw [hp] at ha
  cases ha
  exact hlt
theorem lasts_EV (K : Nat) : Lasts (fun w z e => EV w K z e) := ⟨fun h hg hne => by
    obtain ⟨xs, h1, h2⟩ := h
    exact ⟨xs, ⟨h1.len, h1.cap, h1.bnd, h1.sml, rd_grown h1.rd hg (by rw [h1.len]; exact hne), h1.u⟩, h2⟩, fun h hn => by
    obtain ⟨xs, h1, h2⟩ := h
    exact rd_lt h1.rd (by rw [h1.len]; exact hn)⟩
/-- The cells of a list. -/
def fl (es : List Ent) : List Value := es.flatMap fun e => [.bool e.s, .slice e.p e.n e.c]
theorem fl_snoc (es : List Ent) (e : Ent) : fl (es ++ [e]) = fl es ++ [.bool e.s, .slice e.p e.n e.c] := by simp [fl]
theorem length_fl (es : List Ent) : (fl es).length = es.length * 2 := flat_length es
/-- A list that grows. -/
structure LG (base : Nat) (t : TypeId) (E : World → Int → Ent → Prop) (w : World) (v : Value) (es : List Ent) (zs : List Int) : Prop where
  own : w.ownsRow base t 2 v es.length (fl es)
  zl : zs.length = es.length
  ev : ∀ j, j < es.length → E w (gx zs j) (ge es j)
  off : ∀ j, j < es.length → 0 < (ge es j).n → ∀ a, (ge es j).p = some a → some a.block ≠ v.ownBlock
theorem LG.nil (base : Nat) (t : TypeId) (E : World → Int → Ent → Prop) (w : World) : LG base t E w (.slice none 0 0) [] [] := ⟨World.ownsRow_nil _ _ _ _, rfl, fun j hj => by simp at hj, fun j hj => by simp at hj⟩
theorem own_below {w w' : World} {base : Nat} {t : TypeId} {sz : Nat} {v : Value} {n : Nat} {xs : List Value} (h : w.ownsRow base t sz v n xs) (hb : Below w.heap.size w w') : w'.ownsRow base t sz v n xs :=
  h.kept (grownBy_below hb none) (Classical.em _)
theorem LG.below {base : Nat} {t : TypeId} {E : World → Int → Ent → Prop} (L : Lasts E) {w w' : World} {v : Value} {es : List Ent} {zs : List Int} (h : LG base t E w v es zs) (hb : Below w.heap.size w w') : LG base t E w' v es zs :=
  ⟨own_below h.own hb, h.zl, fun j hj => L.below (h.ev j hj) hb, h.off⟩
theorem LG.app {base : Nat} {t : TypeId} {E : World → Int → Ent → Prop} (L : Lasts E) {wr w1 w3 : World} {v : Value} {es : List Ent} {zs : List Int} {z : Int} {e : Ent} {o : Obj} {g cap k : Nat} (hk : es.length = k) (h : LG base t E wr v es zs) (hb1 : Below wr.heap.size wr w1) (hE : E w1 z e) (hF : 0 < e.n → ∀ a, e.p = some a → a.block < base ∨ wr.heap.size ≤ a.block)
    (hown : w3.ownsRow base t 2 (.slice (some ⟨g, 0, none⟩) (k + 1) cap) (k + 1) (fl es ++ [.bool e.s, .slice e.p e.n e.c])) (hgrow : (w1.alloc o).grownBy w3 v.ownBlock) (hat : v.ownBlock = some g ∨ g = (w1.alloc o).heap.size) :
    LG base t E w3 (.slice (some ⟨g, 0, none⟩) (k + 1) cap) (es ++ [e]) (zs ++ [z]) := by
  subst hk
  have hal : Below w1.heap.size w1 (w1.alloc o) := (Below.refl _ _).alloc (Nat.le_refl _) o
  have hs1 := hb1.size
  have hs2 := hal.size
  have old : ∀ j, j < es.length → E (w1.alloc o) (gx zs j) (ge es j) := fun j hj => L.below (L.below (h.ev j hj) hb1) hal
  have new : E (w1.alloc o) z e := L.below hE hal
  have noff : 0 < e.n → ∀ a, e.p = some a → some a.block ≠ v.ownBlock := fun hn a ha hq => by
    have h1 := (h.own.lt a.block hq.symm)
    have h2 := hF hn a ha
    omega
  refine ⟨by rw [List.length_append, fl_snoc]; exact hown, by simp [h.zl], fun j hj => ?_, fun j hj hn a ha hq => ?_⟩
  · rcases Nat.lt_or_ge j es.length with hlt | hge
    · rw [ge_append_left _ _ _ hlt, gx_append_left _ _ _ (by rw [h.zl]; exact hlt)]
      exact L.grown (old j hlt) hgrow (h.off j hlt)
    · have : j = es.length := by simp at hj; omega
      subst this
      have e1 : gx (zs ++ [z]) es.length = z := by rw [← h.zl, gx_append_right _ _ _ (Nat.le_refl _), Nat.sub_self]; rfl
      rw [ge_snoc, e1]
      exact L.grown new hgrow noff
  · have hq' : a.block = g := Option.some.inj hq
    rcases Nat.lt_or_ge j es.length with hlt | hge
    · rw [ge_append_left _ _ _ hlt] at hn ha
      rcases hat with h1 | h1
      · exact h.off j hlt hn a ha (by rw [h1, hq'])
      · have := L.lt (old j hlt) hn a ha
        omega
    · have : j = es.length := by simp at hj; omega
      subst this
      rw [ge_snoc] at hn ha
      rcases hat with h1 | h1
      · exact noff hn a ha (by rw [h1, hq'])
      · have := L.lt new hn a ha
        omega
theorem owns2_form {w : World} {B n : Nat} {t : TypeId} {v : Value} {xs : List Value} (h : w.ownsRow B t 2 v n xs) : ∃ q cap, v = .slice q n cap ∧ n ≤ cap ∧ cap ≤ maxLen ∧ Go.Proofs.Ytcdfckjlmifjiaa.From B q ∧ (q = none → cap = 0) := by
  rcases h.2 with ⟨h1, h2⟩ | ⟨g, cap, cur, h1, h2, h3, h4, h5, _⟩
  · exact ⟨none, 0, by rw [h1, h2], by omega, Nat.zero_le _, nofun, fun _ => rfl⟩
  · exact ⟨_, cap, h1, h4, h5, fun a ha => (by cases ha; exact h2), nofun⟩
theorem owns2_pl {w : World} {B cap : Nat} {t : TypeId} {q : Option Addr} {es : List Ent} (h : w.ownsRow B t 2 (.slice q es.length cap) es.length (fl es)) : PL w q es := fun hx => by
  obtain ⟨g, cap', h1, h2, _⟩ := h.form hx
  cases h1
  refine ⟨g, 0, rfl, fun j hj => ?_⟩
  obtain ⟨f0, f1⟩ := flat_get es j hj
  have e0 := h.cells (g := g) rfl (j * 2) _ f0
  have e1 := h.cells (g := g) rfl (j * 2 + 1) _ f1
  rw [Addr.add_mid] at e0 e1
  exact ⟨e0, e1⟩
theorem LG.pl {base : Nat} {t : TypeId} {E : World → Int → Ent → Prop} {w : World} {v : Value} {es : List Ent} {zs : List Int} (h : LG base t E w v es zs) : ∃ q cap, v = .slice q es.length cap ∧ es.length ≤ cap ∧ cap ≤ maxLen ∧ PL w q es ∧ Go.Proofs.Ytcdfckjlmifjiaa.From base q ∧ (q = none → cap = 0) := by
  obtain ⟨q, cap, h1, h2, h3, h4, h5⟩ := owns2_form h.own
  have ho := h.own
  rw [h1] at ho
  exact ⟨q, cap, h1, h2, h3, owns2_pl ho, h4, h5⟩
theorem take_snocg (xs : List Int) (k : Nat) (h : k < xs.length) : xs.take (k + 1) = xs.take k ++ [gx xs k] := by
  rw [gx_mem xs k h, List.take_succ_eq_append_getElem h]
theorem lg_app {base : Nat} {t : TypeId} {E : World → Int → Ent → Prop} (L : Lasts E) {wr w1 w3 : World} {v : Value} {es : List Ent} {zs : List Int} {z : Int} {s : Bool} {p : Option Addr} {n c k : Nat} {o : Obj} {g cap : Nat} (hk : es.length = k) (h : LG base t E wr v es zs) (hb1 : Below wr.heap.size wr w1) (hE : E w1 z ⟨s, p, n, c⟩) (hF : Go.Proofs.Ytcdfckjlmifjiaa.From wr.heap.size p)
    (hown : w3.ownsRow base t 2 (.slice (some ⟨g, 0, none⟩) (k + 1) cap) (k + 1) (fl es ++ [.bool s, .slice p n c])) (hgrow : (w1.alloc o).grownBy w3 v.ownBlock) (hat : v.ownBlock = some g ∨ g = (w1.alloc o).heap.size) :
    LG base t E w3 (.slice (some ⟨g, 0, none⟩) (k + 1) cap) (es ++ [⟨s, p, n, c⟩]) (zs ++ [z]) :=
  LG.app L hk h hb1 hE (fun _ a ha => .inr (hF a ha)) hown hgrow hat
end Go.Proofs.Ytcdfckjlmifjiaa
