/-
  Numbers as the program hands them about: a sign and limbs.
-/
import Derived.Test.YtcdfckjlmifjiaaGreatWbWcWdWe
import Derived.Test.YtcdfckjlmifjiaaGreatPlMmKpOr
namespace Go.Proofs.YtcdfckjlmifjiaaGreat
open Go.RowKit
set_option linter.unusedVariables false
set_option linter.unusedSimpArgs false

/-- The number of a sign and limbs. -/
def ival (s : Bool) (xs : List Int) : Int := if s then - val xs else val xs

/-- A number that is handed in, in whatever form. -/
structure AI (w : World) (p : Option Addr) (n nc : Nat) (xs : List Int) : Prop where
  len : xs.length = n
  cap : n ≤ nc
  bnd : nc ≤ maxLen
  sml : n ≤ 100000000
  rd : Rd w p .u32 xs
  u : U32 xs

/-- A number that is answered: in normal form, in memory from block B on. -/
structure NI (B : Nat) (w : World) (s : Bool) (p : Option Addr) (n : Nat) (xs : List Int) (z : Int) : Prop where
  len : xs.length = n
  rd : Rd w p .u32 xs
  u : U32 xs
  nrm : tlen xs = n
  sg : n = 0 → s = false
  pn : n = 0 → p = none
  v : ival s xs = z
  fr : From B p
  fz : Fz w p

theorem AI.below {w w' : World} {p : Option Addr} {n nc : Nat} {xs : List Int} (h : AI w p n nc xs) (hb : Below w.heap.size w w') : AI w' p n nc xs := ⟨h.len, h.cap, h.bnd, h.sml, h.rd.below hb, h.u⟩
theorem AI.alloc {w : World} {p : Option Addr} {n nc : Nat} {xs : List Int} (h : AI w p n nc xs) (o : Obj) : AI (w.alloc o) p n nc xs := ⟨h.len, h.cap, h.bnd, h.sml, h.rd.alloc o, h.u⟩
theorem NI.below {B : Nat} {w w' : World} {s : Bool} {p : Option Addr} {n : Nat} {xs : List Int} {z : Int} (h : NI B w s p n xs z) (hb : Below w.heap.size w w') : NI B w' s p n xs z :=
  ⟨h.len, h.rd.below hb, h.u, h.nrm, h.sg, h.pn, h.v, h.fr, h.fz.below hb⟩
theorem NI.mono {B B' : Nat} {w : World} {s : Bool} {p : Option Addr} {n : Nat} {xs : List Int} {z : Int} (h : NI B w s p n xs z) (hB : B' ≤ B) : NI B' w s p n xs z :=
  ⟨h.len, h.rd, h.u, h.nrm, h.sg, h.pn, h.v, fun a ha => Nat.le_trans hB (h.fr a ha), h.fz⟩
theorem NI.ai {B : Nat} {w : World} {s : Bool} {p : Option Addr} {n : Nat} {xs : List Int} {z : Int} (h : NI B w s p n xs z) (hn : n ≤ 100000000) : AI w p n n xs :=
  ⟨h.len, Nat.le_refl _, by unfold maxLen; omega, hn, h.rd, h.u⟩

theorem ival_tr (s : Bool) (xs : List Int) : ival s (tr xs) = ival s xs := by simp only [ival, val_tr]
theorem ni_number {B : Nat} {w : World} {q : Option Addr} {xs : List Int} (neg : Bool) (hX : Rd w q .u32 xs) (hU : U32 xs) (hf : From B q) (hz : Fz w q) : NI B w (nsg neg xs) (nad q xs) (tlen xs) (tr xs) (ival neg xs) := by
  refine ⟨length_tr xs, ?_, u32_tr hU, tlen_tr xs, fun h => by rw [nsg, if_pos h], fun h => by rw [nad, if_pos h], ?_, ?_, ?_⟩
  · intro h
    rw [length_tr] at h
    rw [nad, if_neg (by omega)]
    exact hX.tr (by rw [length_tr]; exact h)
  · rw [ival_tr, nsg]
    split
    · rename_i h
      have := (tlen_zero_iff hU).1 h
      simp [ival, this]
    · rfl
  · rw [nad]
    split
    · intro a ha; cases ha
    · exact hf
  · rw [nad]
    split
    · exact Fz.nil _
    · exact hz

theorem Row.new1 (w : World) (a : Obj) (e : TypeId) (k : IntKind) (xs : List Int) : Row ((w.alloc a).alloc (.cells (ca k xs) e)) (w.heap.size + 1) e k xs := by
  have := Row.new (w.alloc a) e k xs
  rwa [World.size_alloc] at this
theorem Row.new2 (w : World) (a b : Obj) (e : TypeId) (k : IntKind) (xs : List Int) : Row (((w.alloc a).alloc b).alloc (.cells (ca k xs) e)) (w.heap.size + 1 + 1) e k xs := by
  have := Row.new ((w.alloc a).alloc b) e k xs
  rwa [World.size_alloc, World.size_alloc] at this
theorem Row.new3 (w : World) (a b c : Obj) (e : TypeId) (k : IntKind) (xs : List Int) : Row ((((w.alloc a).alloc b).alloc c).alloc (.cells (ca k xs) e)) (w.heap.size + 1 + 1 + 1) e k xs := by
  have := Row.new (((w.alloc a).alloc b).alloc c) e k xs
  rwa [World.size_alloc, World.size_alloc, World.size_alloc] at this
/-- Two cells that a callee has left. -/
theorem keepc2 {w1 w2 : World} {a b : Addr} {u v : Value} (h : w1.cell? a = some u ∧ w1.cell? b = some v) (hb : Below w1.heap.size w1 w2) : w2.cell? a = some u ∧ w2.cell? b = some v :=
  ⟨cell_later hb h.1, cell_later hb h.2⟩
theorem keepc4 {w1 w2 : World} {a b c d : Addr} {u v x y : Value} (h : w1.cell? a = some u ∧ w1.cell? b = some v ∧ w1.cell? c = some x ∧ w1.cell? d = some y) (hb : Below w1.heap.size w1 w2) : w2.cell? a = some u ∧ w2.cell? b = some v ∧ w2.cell? c = some x ∧ w2.cell? d = some y :=
  ⟨cell_later hb h.1, cell_later hb h.2.1, cell_later hb h.2.2.1, cell_later hb h.2.2.2⟩
theorem NI.set {B : Nat} {w : World} {s : Bool} {p : Option Addr} {n : Nat} {xs : List Int} {z : Int} (h : NI B w s p n xs z) {a : Addr} (ha : a.block < B) (v : Value) : NI B (w.setCell a v) s p n xs z :=
  ⟨h.len, h.rd.set_other a v (fun b hb e => by have := h.fr b hb; omega), h.u, h.nrm, h.sg, h.pn, h.v, h.fr, h.fz.set a v⟩
theorem NI.drew {B : Nat} {w : World} {s : Bool} {p : Option Addr} {n : Nat} {xs : List Int} {z : Int} (h : NI B w s p n xs z) : NI B w.drew s p n xs z := ⟨h.len, h.rd.drew, h.u, h.nrm, h.sg, h.pn, h.v, h.fr, h.fz.drew⟩
theorem AI.drew {w : World} {p : Option Addr} {n nc : Nat} {xs : List Int} (h : AI w p n nc xs) : AI w.drew p n nc xs := ⟨h.len, h.cap, h.bnd, h.sml, h.rd, h.u⟩
theorem AI.drewN {w : World} {p : Option Addr} {n nc : Nat} {xs : List Int} (h : AI w p n nc xs) (k : Nat) : AI (w.drewN k) p n nc xs := ⟨h.len, h.cap, h.bnd, h.sml, h.rd, h.u⟩
theorem AI.tr {w : World} {p : Option Addr} {n nc : Nat} {xs : List Int} (h : AI w p n nc xs) : AI w p (tlen xs) nc (tr xs) :=
  ⟨length_tr xs, by have := tlen_le xs; have := h.len; have := h.cap; omega, h.bnd, by have := tlen_le xs; have := h.len; have := h.sml; omega, h.rd.tr, u32_tr h.u⟩
theorem from_new {B b o : Nat} (h : B ≤ b) : From B (some ⟨b, o, none⟩) := fun a ha => by cases ha; exact h
theorem from_none {B : Nat} : From B none := fun a ha => by cases ha
/-- The variable of a result, which a callee has left as it was. -/
theorem resbox {W w1 : World} {r : Nat} {u v : Value} (hb : Below W.heap.size W w1) (h0 : W.cell? ⟨r, 0, none⟩ = some u) (h1 : W.cell? ⟨r, 1, none⟩ = some v) (f0 : W.frozen? ⟨r, 0, none⟩ = false) (f1 : W.frozen? ⟨r, 1, none⟩ = false) :
    w1.cell? ⟨r, 0, none⟩ = some u ∧ w1.cell? ⟨r, 1, none⟩ = some v ∧ w1.frozen? ⟨r, 0, none⟩ = false ∧ w1.frozen? ⟨r, 1, none⟩ = false := by
  have hr : r < W.heap.size := block_lt_of_cell h0
  exact ⟨cell_later hb h0, cell_later hb h1, by rw [hb.frozen (p := ⟨r, 0, none⟩) hr]; exact f0, by rw [hb.frozen (p := ⟨r, 1, none⟩) hr]; exact f1⟩
/-- Two boxed arguments and a result's variable, in a world that is a letter. -/
structure Boxes (w W : World) (a0 a1 b0 b1 r0 r1 : Value) : Prop where
  size : w.heap.size + 1 + 1 + 1 ≤ W.heap.size
  below : Below w.heap.size w W
  ca0 : W.cell? ⟨w.heap.size, 0, none⟩ = some a0
  ca1 : W.cell? ⟨w.heap.size, 1, none⟩ = some a1
  cb0 : W.cell? ⟨w.heap.size + 1, 0, none⟩ = some b0
  cb1 : W.cell? ⟨w.heap.size + 1, 1, none⟩ = some b1
  cr0 : W.cell? ⟨w.heap.size + 1 + 1, 0, none⟩ = some r0
  cr1 : W.cell? ⟨w.heap.size + 1 + 1, 1, none⟩ = some r1
  fr0 : W.frozen? ⟨w.heap.size + 1 + 1, 0, none⟩ = false
  fr1 : W.frozen? ⟨w.heap.size + 1 + 1, 1, none⟩ = false
theorem boxes3 (w : World) (a0 a1 b0 b1 r0 r1 : Value) (ta tb tr k : Nat) : Boxes w ((((w.alloc (.cells #[a0, a1] ta)).alloc (.cells #[b0, b1] tb)).alloc (.cells #[r0, r1] tr)).drewN k) a0 a1 b0 b1 r0 r1 := by
  refine ⟨by simp, below_drewN ((((Below.refl _ _).alloc (Nat.le_refl _) _).alloc (by simp) _).alloc (by simp; omega) _) k, ?_, ?_, ?_, ?_, ?_, ?_, ?_, ?_⟩ <;> simp [go_sem, World.cell?_alloc_past, World.frozen?_alloc_past]
theorem boxes3' (w : World) (a0 a1 b0 b1 r0 r1 : Value) (ta tb tr : Nat) : Boxes w (((w.alloc (.cells #[a0, a1] ta)).alloc (.cells #[b0, b1] tb)).alloc (.cells #[r0, r1] tr)) a0 a1 b0 b1 r0 r1 := by
  refine ⟨by simp, (((Below.refl _ _).alloc (Nat.le_refl _) _).alloc (by simp) _).alloc (by simp; omega) _, ?_, ?_, ?_, ?_, ?_, ?_, ?_, ?_⟩ <;> simp [go_sem, World.cell?_alloc_past, World.frozen?_alloc_past]
theorem Boxes.later {w W W' : World} {a0 a1 b0 b1 r0 r1 : Value} (h : Boxes w W a0 a1 b0 b1 r0 r1) (hb : Below W.heap.size W W') : Boxes w W' a0 a1 b0 b1 r0 r1 := by
  obtain ⟨c0, c1, f0, f1⟩ := resbox hb h.cr0 h.cr1 h.fr0 h.fr1
  exact ⟨Nat.le_trans h.size hb.size, h.below.trans (hb.mono (by have := h.size; omega)), cell_later hb h.ca0, cell_later hb h.ca1, cell_later hb h.cb0, cell_later hb h.cb1, c0, c1, f0, f1⟩
/-- The end of a function that answers number(sg, zs), zs a row of its own. -/
theorem end_number {w W w1 w2 : World} {r : Nat} {sg : Bool} {zs : List Int} {e : TypeId} {z : Int} {u v : Value} (hw : Below w.heap.size w W) (hr : w.heap.size ≤ r) (hr' : r < W.heap.size)
    (hz : Row w1 W.heap.size e .u32 zs) (hu : U32 zs) (hb1 : Below W.heap.size W w1) (hb2 : Below w1.heap.size w1 w2) (hv : ival sg zs = z) :
    NI w.heap.size ((w2.setCell ⟨r, 0, none⟩ u).setCell ⟨r, 1, none⟩ v) (nsg sg zs) (nad (some ⟨W.heap.size, 0, none⟩) zs) (tlen zs) (tr zs) z ∧ Below w.heap.size w ((w2.setCell ⟨r, 0, none⟩ u).setCell ⟨r, 1, none⟩ v) := by
  have s1 := hw.size
  have s2 := hb1.size
  subst hv
  exact ⟨((((ni_number (B := W.heap.size) sg hz.rd_all hu (from_new (Nat.le_refl _)) (hz.fz 0)).below hb2).set hr' _).set hr' _).mono s1,
    (((hw.trans (hb1.mono s1)).trans (hb2.mono (by omega))).setCell (p := ⟨r, 0, none⟩) hr _).setCell (p := ⟨r, 1, none⟩) hr _⟩
/-- The end of a function that hands on a number that a callee has answered. -/
theorem end_ni {w W w1 : World} {r : Nat} {s : Bool} {p : Option Addr} {n : Nat} {xs : List Int} {z : Int} {u v : Value} (hw : Below w.heap.size w W) (hr : w.heap.size ≤ r) (hr' : r < W.heap.size)
    (hN : NI W.heap.size w1 s p n xs z) (hb : Below W.heap.size W w1) :
    NI w.heap.size ((w1.setCell ⟨r, 0, none⟩ u).setCell ⟨r, 1, none⟩ v) s p n xs z ∧ Below w.heap.size w ((w1.setCell ⟨r, 0, none⟩ u).setCell ⟨r, 1, none⟩ v) :=
  ⟨((hN.set hr' _).set hr' _).mono hw.size, ((hw.trans (hb.mono hw.size)).setCell (p := ⟨r, 0, none⟩) hr _).setCell (p := ⟨r, 1, none⟩) hr _⟩
theorem ival_not (s : Bool) (xs : List Int) : ival (!s) xs = - ival s xs := by cases s <;> simp [ival]
/-- Two boxed arguments, in a world that is a letter. -/
structure Box2 (w W : World) (a0 a1 b0 b1 : Value) : Prop where
  size : w.heap.size + 1 + 1 ≤ W.heap.size
  below : Below w.heap.size w W
  ca0 : W.cell? ⟨w.heap.size, 0, none⟩ = some a0
  ca1 : W.cell? ⟨w.heap.size, 1, none⟩ = some a1
  cb0 : W.cell? ⟨w.heap.size + 1, 0, none⟩ = some b0
  cb1 : W.cell? ⟨w.heap.size + 1, 1, none⟩ = some b1
theorem boxes2 (w : World) (a0 a1 b0 b1 : Value) (ta tb : Nat) : Box2 w ((w.alloc (.cells #[a0, a1] ta)).alloc (.cells #[b0, b1] tb)) a0 a1 b0 b1 := by
  refine ⟨by simp, ((Below.refl _ _).alloc (Nat.le_refl _) _).alloc (by simp) _, ?_, ?_, ?_, ?_⟩ <;> simp [go_sem, World.cell?_alloc_past, World.frozen?_alloc_past]
theorem Box2.later {w W W' : World} {a0 a1 b0 b1 : Value} (h : Box2 w W a0 a1 b0 b1) (hb : Below W.heap.size W W') : Box2 w W' a0 a1 b0 b1 :=
  ⟨Nat.le_trans h.size hb.size, h.below.trans (hb.mono (by have := h.size; omega)), cell_later hb h.ca0, cell_later hb h.ca1, cell_later hb h.cb0, cell_later hb h.cb1⟩
theorem undrew {W w1 : World} (h : Below W.drew.heap.size W.drew w1) : Below W.heap.size W w1 := ⟨h.os, h.tape, h.output, h.size, h.block⟩
/-- What a region keeps: two cells, and all below B. -/
theorem keep2 {B : Nat} {W w1 w2 : World} {a b : Addr} {u v : Value} (h : w1.cell? a = some u ∧ w1.cell? b = some v ∧ Below B W w1) (hb : Below w1.heap.size w1 w2) (hB : B ≤ w1.heap.size) : w2.cell? a = some u ∧ w2.cell? b = some v ∧ Below B W w2 :=
  ⟨cell_later hb h.1, cell_later hb h.2.1, h.2.2.trans (hb.mono hB)⟩

end Go.Proofs.YtcdfckjlmifjiaaGreat
/-
  Lists of numbers in memory: slices whose elements have two cells.
-/
namespace Go.Proofs.YtcdfckjlmifjiaaGreat
open Go.RowKit
set_option linter.unusedVariables false
set_option linter.unusedSimpArgs false

/-- An element: its sign, its slice. -/
structure Ent where
  s : Bool
  p : Option Addr
  n : Nat
  c : Nat
/-- The element that make lays. -/
def ez : Ent := ⟨false, none, 0, 0⟩
/-- The element at a place. -/
def ge (es : List Ent) (i : Nat) : Ent := (es[i]?).getD ez
theorem ge_mem (es : List Ent) (i : Nat) (h : i < es.length) : ge es i = es[i] := by simp [ge, h]
theorem ge_take (es : List Ent) (n i : Nat) (h : i < n) : ge (es.take n) i = ge es i := by simp [ge, List.getElem?_take, h]
theorem ge_set_same (es : List Ent) (i : Nat) (e : Ent) (h : i < es.length) : ge (es.set i e) i = e := by simp [ge, h]
theorem ge_set_other (es : List Ent) (i j : Nat) (e : Ent) (h : j ≠ i) : ge (es.set i e) j = ge es j := by simp [ge, List.getElem?_set, Ne.symm h]
theorem ge_append_left (a b : List Ent) (i : Nat) (h : i < a.length) : ge (a ++ b) i = ge a i := by simp [ge, List.getElem?_append, h]
theorem ge_snoc (a : List Ent) (e : Ent) : ge (a ++ [e]) a.length = e := by simp [ge]
/-- The elements lie at p. -/
def PL (w : World) (p : Option Addr) (es : List Ent) : Prop :=
  0 < es.length → ∃ b o, p = some ⟨b, o, none⟩ ∧ ∀ j, j < es.length → w.cell? ⟨b, o + j * 2, none⟩ = some (.bool (ge es j).s) ∧ w.cell? ⟨b, o + j * 2 + 1, none⟩ = some (.slice (ge es j).p (ge es j).n (ge es j).c)
/-- The cells of a list. -/
def ca2 (es : List Ent) : Array Value := (es.flatMap fun e => [.bool e.s, .slice e.p e.n e.c]).toArray
/-- Block g is a list, known whole. -/
def Row2 (w : World) (g : Nat) (t : TypeId) (es : List Ent) : Prop := w.heap[g]? = some (.cells (ca2 es) t (0, 0))
theorem flat_get (es : List Ent) : ∀ j, j < es.length → (es.flatMap fun e => [Value.bool e.s, .slice e.p e.n e.c])[j * 2]? = some (.bool (ge es j).s) ∧ (es.flatMap fun e => [Value.bool e.s, .slice e.p e.n e.c])[j * 2 + 1]? = some (.slice (ge es j).p (ge es j).n (ge es j).c) := by
  induction es with
  | nil => intro j hj; simp at hj
  | cons e r ih =>
    intro j hj
    cases j with
    | zero => exact ⟨rfl, rfl⟩
    | succ j =>
      have h := ih j (by simpa using hj)
      have e1 : (j + 1) * 2 = j * 2 + 1 + 1 := by omega
      have e2 : (j + 1) * 2 + 1 = j * 2 + 1 + 1 + 1 := by omega
      have e3 : ge (e :: r) (j + 1) = ge r j := by simp [ge]
      rw [e1, e3]
      simp only [List.flatMap_cons, List.cons_append, List.nil_append, List.getElem?_cons_succ]
      exact h
theorem flat_length (es : List Ent) : (es.flatMap fun e => [Value.bool e.s, .slice e.p e.n e.c]).length = es.length * 2 := by
  induction es with
  | nil => rfl
  | cons e r ih => simp only [List.flatMap_cons, List.length_append, ih, List.length_cons, List.length_nil]; omega
theorem flat_set (es : List Ent) : ∀ j e, j < es.length → ((es.flatMap fun e => [Value.bool e.s, .slice e.p e.n e.c]).set (j * 2) (.bool e.s)).set (j * 2 + 1) (.slice e.p e.n e.c) = (es.set j e).flatMap fun e => [Value.bool e.s, .slice e.p e.n e.c] := by
  induction es with
  | nil => intro j e hj; simp at hj
  | cons a r ih =>
    intro j e hj
    cases j with
    | zero => rfl
    | succ j =>
      have h := ih j e (by simpa using hj)
      have e1 : (j + 1) * 2 = j * 2 + 1 + 1 := by omega
      rw [e1]
      simp only [List.flatMap_cons, List.cons_append, List.nil_append, List.set_cons_succ]
      rw [h]
theorem size_ca2 (es : List Ent) : (ca2 es).size = es.length * 2 := by rw [ca2, List.size_toArray, flat_length]
section
variable {w w' : World} {g : Nat} {t : TypeId} {es : List Ent} {p : Option Addr}
theorem Row2.lt (h : Row2 w g t es) : g < w.heap.size := (Array.getElem?_eq_some_iff.1 h).1
theorem Row2.cell (h : Row2 w g t es) (j : Nat) (hj : j < es.length) : w.cell? ⟨g, j * 2, none⟩ = some (.bool (ge es j).s) ∧ w.cell? ⟨g, j * 2 + 1, none⟩ = some (.slice (ge es j).p (ge es j).n (ge es j).c) := by
  obtain ⟨h1, h2⟩ := flat_get es j hj
  rw [cell_of_row w g (j * 2) _ t (0, 0) h, cell_of_row w g (j * 2 + 1) _ t (0, 0) h]
  simp only [ca2, List.getElem?_toArray]
  exact ⟨h1, h2⟩
theorem Row2.frozen (h : Row2 w g t es) (j : Nat) : w.frozen? ⟨g, j, none⟩ = false := frozen_of_row w g j _ t h
theorem Row2.set (h : Row2 w g t es) (j : Nat) (e : Ent) (hj : j < es.length) : Row2 ((w.setCell ⟨g, j * 2, none⟩ (.bool e.s)).setCell ⟨g, j * 2 + 1, none⟩ (.slice e.p e.n e.c)) g t (es.set j e) := by
  unfold Row2
  have h1 := heap_setCell_same w g (j * 2) _ t (.bool e.s) h
  rw [heap_setCell_same _ g (j * 2 + 1) _ t (.slice e.p e.n e.c) h1]
  simp only [ca2, List.setIfInBounds_toArray]
  rw [flat_set es j e hj]
theorem Row2.below {B : Nat} (h : Row2 w g t es) (hb : Below B w w') (hg : g < B) : Row2 w' g t es := (hb.block g hg).trans h
theorem Row2.drew (h : Row2 w g t es) : Row2 w.drew g t es := h
theorem Row2.alloc (h : Row2 w g t es) (o : Obj) : Row2 (w.alloc o) g t es := (Below.heap_alloc w o g h.lt).trans h
theorem Row2.new (w : World) (t : TypeId) (es : List Ent) : Row2 (w.alloc (.cells (ca2 es) t)) w.heap.size t es := heap_alloc_new w _
theorem Row2.set_other (h : Row2 w g t es) (a : Addr) (v : Value) (hne : g ≠ a.block) : Row2 (w.setCell a v) g t es := (heap_setCell_other w a g v hne).trans h
theorem Row2.pl (h : Row2 w g t es) : PL w (some ⟨g, 0, none⟩) es := fun _ => ⟨g, 0, rfl, fun j hj => by
  simp only [Nat.zero_add]; exact h.cell j hj⟩
theorem PL.nil : PL w p [] := fun h => by simp at h
theorem PL.lt (h : PL w p es) (hx : 0 < es.length) : ∃ b o, p = some ⟨b, o, none⟩ ∧ b < w.heap.size := by
  obtain ⟨b, o, hp, hc⟩ := h hx
  exact ⟨b, o, hp, block_lt_of_cell (hc 0 hx).1⟩
theorem PL.same (h : PL w p es) (hs : ∀ a, p = some a → a.block < w.heap.size → w'.heap[a.block]? = w.heap[a.block]?) : PL w' p es := fun hx => by
  obtain ⟨b, o, hp, hc⟩ := h hx
  refine ⟨b, o, hp, fun j hj => ?_⟩
  have hlt : b < w.heap.size := block_lt_of_cell (hc 0 hx).1
  have hb := hs ⟨b, o, none⟩ hp hlt
  exact ⟨(World.cell?_of_block (a := ⟨b, o + j * 2, none⟩) hb).trans (hc j hj).1, (World.cell?_of_block (a := ⟨b, o + j * 2 + 1, none⟩) hb).trans (hc j hj).2⟩
theorem PL.below (h : PL w p es) (hb : Below w.heap.size w w') : PL w' p es := h.same fun a _ hlt => hb.block a.block hlt
theorem PL.off (h : PL w p es) (hg : w.heap.size ≤ g) (hx : 0 < es.length) : Off g p := fun a ha e => by
  obtain ⟨b, o, hp, hlt⟩ := h.lt hx
  rw [hp] at ha
  cases ha
  simp at e; omega
theorem PL.drew (h : PL w p es) : PL w.drew p es := h
theorem PL.alloc (h : PL w p es) (o : Obj) : PL (w.alloc o) p es := h.same fun a _ hlt => Below.heap_alloc w o a.block hlt
theorem PL.set_other (h : PL w p es) (a : Addr) (v : Value) (hne : Off a.block p) : PL (w.setCell a v) p es := h.same fun b hb _ => heap_setCell_other w a b.block v (hne b hb)
theorem PL.take (h : PL w p es) (n : Nat) : PL w p (es.take n) := fun hx => by
  obtain ⟨b, o, hp, hc⟩ := h (by simp at hx; omega)
  refine ⟨b, o, hp, fun j hj => ?_⟩
  have : j < n ∧ j < es.length := by simp at hj; omega
  rw [ge_take _ _ _ this.1]; exact hc j this.2
end
/-- The number of an element. -/
def EV (w : World) (K : Nat) (z : Int) (e : Ent) : Prop := ∃ xs, AI w e.p e.n e.c xs ∧ ival e.s xs = z ∧ e.n ≤ K
/-- A list of numbers that is handed in. -/
structure PA (w : World) (K : Nat) (p : Option Addr) (n nc : Nat) (es : List Ent) (zs : List Int) : Prop where
  el : es.length = n
  zl : zs.length = n
  cap : n ≤ nc
  bnd : nc ≤ maxLen
  pn : p = none → nc = 0
  pl : PL w p es
  ev : ∀ j, j < n → EV w K (gx zs j) (ge es j)
section
variable {w w' : World} {K : Nat} {z : Int} {e : Ent} {p : Option Addr} {n nc : Nat} {es : List Ent} {zs : List Int}
theorem EV.below (h : EV w K z e) (hb : Below w.heap.size w w') : EV w' K z e := by
  obtain ⟨xs, h1, h2⟩ := h
  exact ⟨xs, h1.below hb, h2⟩
theorem EV.drew (h : EV w K z e) : EV w.drew K z e := by
  obtain ⟨xs, h1, h2⟩ := h
  exact ⟨xs, h1.drew, h2⟩
theorem PA.below (h : PA w K p n nc es zs) (hb : Below w.heap.size w w') : PA w' K p n nc es zs := ⟨h.el, h.zl, h.cap, h.bnd, h.pn, h.pl.below hb, fun j hj => (h.ev j hj).below hb⟩
theorem PA.drew (h : PA w K p n nc es zs) : PA w.drew K p n nc es zs := ⟨h.el, h.zl, h.cap, h.bnd, h.pn, h.pl.drew, fun j hj => (h.ev j hj).drew⟩
theorem PA.take (h : PA w K p n nc es zs) (m : Nat) (hm : m ≤ n) : PA w K p m nc (es.take m) (zs.take m) :=
  ⟨by have := h.el; simp; omega, by have := h.zl; simp; omega, by have := h.cap; omega, h.bnd, h.pn, h.pl.take m, fun j hj => by rw [gx_take _ _ _ hj, ge_take _ _ _ hj]; exact h.ev j (by omega)⟩
theorem PA.clip (h : PA w K p n nc es zs) : (p = none → n = 0) → PA w K p n n es zs := fun hp => ⟨h.el, h.zl, Nat.le_refl _, by have := h.cap; have := h.bnd; omega, hp, h.pl, h.ev⟩
end
end Go.Proofs.YtcdfckjlmifjiaaGreat
/-
  Owned rows are read.
-/
namespace Go.Proofs.YtcdfckjlmifjiaaGreat
open Go.RowKit
set_option linter.unusedVariables false
set_option linter.unusedSimpArgs false

theorem rd_owns {w : World} {base g n cap : Nat} {e : TypeId} {xs : List Int} {k : IntKind} (h : w.ownsRow base e 1 (.slice (some ⟨g, 0, none⟩) n cap) n (xs.map (Value.int k))) : Rd w (some ⟨g, 0, none⟩) k xs := fun hx =>
  ⟨g, 0, rfl, fun j hj => by
    have := h.cells (g := g) rfl j (.int k (gx xs j)) (by rw [List.getElem?_map, List.getElem?_eq_getElem hj, gx_mem xs j hj]; rfl)
    rw [Addr.add_mid] at this
    exact this⟩

end Go.Proofs.YtcdfckjlmifjiaaGreat
/-
  Plain facts, further: a part of a row that is written entry by entry.
-/
namespace Go.Proofs.YtcdfckjlmifjiaaGreat
open Go.RowKit
set_option linter.unusedVariables false
set_option linter.unusedSimpArgs false

/-- The row with R in the place of the n entries from o on. -/
def mid (Z : List Int) (o : Nat) (R : List Int) : List Int := Z.take o ++ R ++ Z.drop (o + R.length)
theorem mid_length (Z R : List Int) (o : Nat) (h : o + R.length ≤ Z.length) : (mid Z o R).length = Z.length := row_length Z R o h
theorem mid_gx (Z R : List Int) (o j : Nat) (h : o + R.length ≤ Z.length) (hj : j < R.length) : gx (mid Z o R) (o + j) = gx R j := row_gx_new Z R o j _ (by omega) hj
theorem mid_set (Z R : List Int) (o j : Nat) (v : Int) (h : o + R.length ≤ Z.length) (hj : j < R.length) : (mid Z o R).set (o + j) v = mid Z o (R.set j v) := by
  have hl : (Z.take o).length = o := by simp; omega
  unfold mid
  rw [List.append_assoc, List.set_append_right _ _ (by omega), hl, Nat.add_sub_cancel_left, List.set_append_left _ _ hj, List.append_assoc, List.length_set]
theorem mid_self (Z : List Int) (o n : Nat) (h : o + n ≤ Z.length) : mid Z o ((Z.drop o).take n) = Z := by
  unfold mid
  rw [part_length Z o n h, List.append_assoc]
  have : (Z.drop o).take n ++ Z.drop (o + n) = Z.drop o := by
    rw [← List.drop_drop]; exact List.take_append_drop n (Z.drop o)
  rw [this, List.take_append_drop]
theorem mid_zero (Z R : List Int) (h : R.length = Z.length) : mid Z 0 R = R := by simp [mid, h]
theorem val_set (R : List Int) (j : Nat) (v : Int) (h : j < R.length) : val (R.set j v) = val R + pw j * (v - gx R j) := by
  have e1 := val_at R j h
  have e2 := val_at (R.set j v) j (by simpa using h)
  rw [List.take_set_of_le (Nat.le_refl _), List.drop_set_of_lt (by omega), gx_set_eq R j v h] at e2
  rw [e2, e1, Int.mul_sub]
  omega
theorem u32_set {R : List Int} (h : U32 R) (j : Nat) {v : Int} (hv : 0 ≤ v ∧ v < 4294967296) : U32 (R.set j v) := fun k => by
  by_cases hk : j = k
  · subst hk
    by_cases hl : j < R.length
    · rw [gx_set_eq R j v hl]; exact hv
    · rw [gx_past _ _ (Nat.le_refl _) j (by simp; omega)]; decide
  · rw [gx_set_ne R j k v hk]; exact h k
theorem Row.mid_cell {w : World} {g : Nat} {e : TypeId} {k : IntKind} {Z R : List Int} {o : Nat} (hr : Row w g e k (mid Z o R)) (h : o + R.length ≤ Z.length) (j : Nat) (hj : j < R.length) : w.cell? ⟨g, o + j, none⟩ = some (.int k (gx R j)) := by
  have := hr.cell (o + j) (by rw [mid_length Z R o h]; omega)
  rwa [mid_gx Z R o j h hj] at this
theorem Row.mid_set {w : World} {g : Nat} {e : TypeId} {k : IntKind} {Z R : List Int} {o : Nat} (hr : Row w g e k (mid Z o R)) (h : o + R.length ≤ Z.length) (j : Nat) (hj : j < R.length) (v : Int) : Row (w.setCell ⟨g, o + j, none⟩ (.int k v)) g e k (mid Z o (R.set j v)) := by
  have := hr.set (o + j) v
  rwa [Proofs.YtcdfckjlmifjiaaGreat.mid_set Z R o j v h hj] at this
/-- A limb times a limb, a limb and a carry: it fits into two limbs. -/
theorem mul_bd {v x : Int} (h1 : 0 ≤ v ∧ v < 4294967296) (h2 : 0 ≤ x ∧ x < 4294967296) : 0 ≤ v * x ∧ v * x ≤ 18446744065119617025 := by
  refine ⟨Int.mul_nonneg h1.1 h2.1, ?_⟩
  have a1 : v * x ≤ v * 4294967295 := Int.mul_le_mul_of_nonneg_left (by omega) h1.1
  omega
/-- Two limbs joined by bits are their number. -/
theorem or_join (r x : Int) (h1 : 0 ≤ r) (h2 : r < 4294967296) (h3 : 0 ≤ x) (h4 : x < 4294967296) : bits .or .u64 (r * 4294967296) x = r * 4294967296 + x :=
  bits_join .u64 64 (by decide) (fun n a b => by rw [IntKind.wrap_u64]; omega) 32 (r * 4294967296) x (by omega) (by omega) (by omega) h3 (by omega) (by omega)

theorem drop_cons (l : List Int) (j : Nat) (h : j < l.length) : l.drop j = gx l j :: l.drop (j + 1) := by rw [gx_mem l j h]; exact List.drop_eq_getElem_cons h
theorem drop_set_after (l : List Int) (n j : Nat) (v : Int) (hj : j < n) (h : n ≤ l.length) : ((l.set j v).take n).drop j = v :: (l.take n).drop (j + 1) := by
  rw [drop_cons _ j (by simp; omega), gx_take _ _ _ hj, gx_set_eq l j v (by omega)]
  congr 1
  rw [List.take_set, List.drop_set_of_lt (by omega)]
theorem quo_bd {r x d : Int} (h1 : 0 ≤ r) (h2 : r < d) (h3 : 0 ≤ x) (h4 : x < 4294967296) : 0 ≤ (r * 4294967296 + x) / d ∧ (r * 4294967296 + x) / d < 4294967296 := by
  refine ⟨Int.ediv_nonneg (by omega) (by omega), ?_⟩
  apply Int.ediv_lt_of_lt_mul (by omega)
  omega

theorem or_comm64 (a b : Int) (h1 : 0 ≤ a) (h2 : a < 18446744073709551616) (h3 : 0 ≤ b) (h4 : b < 18446744073709551616) : bits .or .u64 a b = bits .or .u64 b a := by
  obtain ⟨x, rfl⟩ := Int.eq_ofNat_of_zero_le h1
  obtain ⟨y, rfl⟩ := Int.eq_ofNat_of_zero_le h3
  have hk : ∀ n : Int, 0 ≤ n → n < 2 ^ 64 → IntKind.u64.wrap n = n := fun n a b => by rw [IntKind.wrap_u64]; omega
  rw [(bits_nat .u64 64 (by decide) hk x y (by omega) (by omega)).2, (bits_nat .u64 64 (by decide) hk y x (by omega) (by omega)).2, Nat.or_comm]
theorem or_join' (r x : Int) (h1 : 0 ≤ r) (h2 : r < 4294967296) (h3 : 0 ≤ x) (h4 : x < 4294967296) : bits .or .u64 x (r * 4294967296) = r * 4294967296 + x := by
  rw [or_comm64 _ _ h3 (by omega) (by omega) (by omega), or_join r x h1 h2 h3 h4]

end Go.Proofs.YtcdfckjlmifjiaaGreat
/-
  limbs.Of, join, Mod, divideByLimb.
-/
namespace Go.Proofs.YtcdfckjlmifjiaaGreat
open Go.RowKit
set_option linter.unusedVariables false
set_option linter.unusedSimpArgs false

theorem words_u32 (m : Int) (h0 : 0 ≤ m) (h1 : m < 18446744073709551616) : U32 [m % 4294967296, m / 4294967296] := u32_append (u32_one (by omega)) (u32_one (by omega))
theorem words_val (m : Int) : val [m % 4294967296, m / 4294967296] = m := by simp only [val]; omega

set_option maxHeartbeats 1000000 in
/-- limbs.Of. -/
theorem Of_any (z : Int) (w : World) (h0 : -9223372036854775808 ≤ z) (h1 : z ≤ 9223372036854775807) :
    Calls Tryz.prog 102 #[.int .i64 z] w fun e w' => ∃ s' p' n' zs, e = .returned (.agg #[.bool s', .slice p' n' n']) ∧ NI w.heap.size w' s' p' n' zs z ∧ n' ≤ 2 ∧ Below w.heap.size w w' := by
  by_cases hn : z < 0
  · have HL : tlen [(-(z + 1) + 1) % 4294967296, (-(z + 1) + 1) / 4294967296] ≤ 2 := tlen_le _
    go_enter Tryz.func102, Tryz.ntmps102
    go_wp2_with fail
    refine (words_any (-(z + 1) + 1) _ (by omega) (by omega)).mono ?_
    rintro e w' ⟨rfl, rfl⟩
    go_wp2_with fail
    refine (number_any true (some ⟨w.heap.size + 1, 0, none⟩) 2 2 [(-(z + 1) + 1) % 4294967296, (-(z + 1) + 1) / 4294967296] _ rfl (Nat.le_refl _) (by unfold maxLen; decide) (Row.new1 w _ _ _ _).rd_all).mono ?_
    rintro e w1 ⟨rfl, hb⟩
    obtain ⟨c0, c1, f0, f1⟩ := resbox (r := w.heap.size) (u := .bool false) (v := .slice none 0 0) hb (by simp [go_sem, World.cell?_alloc_past]) (by simp [go_sem, World.cell?_alloc_past]) (by simp [go_sem]) (by simp [go_sem])
    have hU := words_u32 (-(z + 1) + 1) (by omega) (by omega)
    have hV : ival true [(-(z + 1) + 1) % 4294967296, (-(z + 1) + 1) / 4294967296] = z := by simp only [ival, words_val, if_true, if_false, Bool.false_eq_true] <;> omega
    generalize [(-(z + 1) + 1) % 4294967296, (-(z + 1) + 1) / 4294967296] = ys at *
    have hN := ni_number (B := w.heap.size + 1) (q := some ⟨w.heap.size + 1, 0, none⟩) true (Row.new1 w (.cells #[.bool false, .slice none 0 0] 50) 100 .u32 ys).rd_all hU (from_new (Nat.le_refl _)) ((Row.new1 w (.cells #[.bool false, .slice none 0 0] 50) 100 .u32 ys).fz 0)
    rw [hV] at hN
    have hN2 := hN.below hb
    have ht : tlen ys ≤ 2 := HL
    go_wp2
    refine bodyPost_ret (v := .agg #[.bool (nsg true ys), .slice (nad (some ⟨w.heap.size + 1, 0, none⟩) ys) (tlen ys) (tlen ys)]) (by simp [results, Tryz.results102, go_sem, c0, c1]) rfl ⟨_, _, _, tr ys, rfl, ?_, ht, ?_⟩
    · exact ((hN2.set (by simp) _).set (by simp) _).mono (by omega)
    · exact (((((Below.refl _ _).alloc (Nat.le_refl _) _).alloc (by simp) _).trans (hb.mono (by simp; omega))).setCell (by simp) _).setCell (by simp) _
  · have HL : tlen [z % 4294967296, z / 4294967296] ≤ 2 := tlen_le _
    go_enter Tryz.func102, Tryz.ntmps102
    go_wp2_with fail
    refine (words_any (z) _ (by omega) (by omega)).mono ?_
    rintro e w' ⟨rfl, rfl⟩
    go_wp2_with fail
    refine (number_any false (some ⟨w.heap.size + 1, 0, none⟩) 2 2 [(z) % 4294967296, (z) / 4294967296] _ rfl (Nat.le_refl _) (by unfold maxLen; decide) (Row.new1 w _ _ _ _).rd_all).mono ?_
    rintro e w1 ⟨rfl, hb⟩
    obtain ⟨c0, c1, f0, f1⟩ := resbox (r := w.heap.size) (u := .bool false) (v := .slice none 0 0) hb (by simp [go_sem, World.cell?_alloc_past]) (by simp [go_sem, World.cell?_alloc_past]) (by simp [go_sem]) (by simp [go_sem])
    have hU := words_u32 (z) (by omega) (by omega)
    have hV : ival false [(z) % 4294967296, (z) / 4294967296] = z := by simp only [ival, words_val, if_true, if_false, Bool.false_eq_true] <;> omega
    generalize [(z) % 4294967296, (z) / 4294967296] = ys at *
    have hN := ni_number (B := w.heap.size + 1) (q := some ⟨w.heap.size + 1, 0, none⟩) false (Row.new1 w (.cells #[.bool false, .slice none 0 0] 50) 100 .u32 ys).rd_all hU (from_new (Nat.le_refl _)) ((Row.new1 w (.cells #[.bool false, .slice none 0 0] 50) 100 .u32 ys).fz 0)
    rw [hV] at hN
    have hN2 := hN.below hb
    have ht : tlen ys ≤ 2 := HL
    go_wp2
    refine bodyPost_ret (v := .agg #[.bool (nsg false ys), .slice (nad (some ⟨w.heap.size + 1, 0, none⟩) ys) (tlen ys) (tlen ys)]) (by simp [results, Tryz.results102, go_sem, c0, c1]) rfl ⟨_, _, _, tr ys, rfl, ?_, ht, ?_⟩
    · exact ((hN2.set (by simp) _).set (by simp) _).mono (by omega)
    · exact (((((Below.refl _ _).alloc (Nat.le_refl _) _).alloc (by simp) _).trans (hb.mono (by simp; omega))).setCell (by simp) _).setCell (by simp) _

set_option maxHeartbeats 1000000 in
/-- limbs.divideByLimb. -/
theorem divideByLimb_any (g cap : Nat) (n : Nat) (Z : List Int) (d : Int) (w : World) (hz : n ≤ Z.length) (hn : n ≤ cap) (hcap : cap ≤ 1099511627776) (hR : Row w g 100 .u32 Z) (hU : U32 Z) (hd : 0 < d) (hd' : d < 4294967296) :
    Calls Tryz.prog 116 #[.slice (some ⟨g, 0, none⟩) n cap, .int .u32 d] w fun e w' => ∃ R r, e = .returned (.int .u32 r) ∧ R.length = Z.length ∧ U32 R ∧ 0 ≤ r ∧ r < d ∧ val (R.take n) * d + r = val (Z.take n) ∧ Row w' g 100 .u32 R ∧ w.grownBy w' (some g) := by
  go_enter Tryz.func116, Tryz.ntmps116
  go_wp2
  go_loopw [5, 6] (fun rv iv wr => ∃ (k : Nat) (r : Int) (R : List Int), k ≤ n ∧ iv = .int .i64 ((k : Int) - 1) ∧ rv = .int .u64 r ∧ 0 ≤ r ∧ r < d ∧ Hid (R.length = Z.length ∧ U32 R ∧ (∀ j, j < k → gx R j = gx Z j) ∧ val ((R.take n).drop k) * d + r = val ((Z.take n).drop k) ∧ Row wr g 100 .u32 R ∧ w.grownBy wr (some g)))
    (fun _ iv _ => (intOf iv + 1).toNat)
  case atStart => exact ⟨n, 0, Z, Nat.le_refl _, by go_num, rfl, by decide, hd, rfl, hU, fun _ _ => rfl, by rw [List.drop_of_length_le (by simp; omega)]; simp [val], hR, grownBy_refl _ _⟩
  case round =>
    obtain ⟨k, r, R, hk, rfl, rfl, hr0, hr1, H⟩ := hrel
    by_cases h0 : k = 0
    · subst h0
      go_wp2
      go_ret
      obtain ⟨a1, a2, a3, a4, a5, a6⟩ := H.out
      rw [List.drop_zero, List.drop_zero] at a4
      exact ⟨R, r, rfl, a1, a2, hr0, hr1, a4, a5, a6⟩
    · obtain ⟨j, rfl⟩ : ∃ j, k = j + 1 := ⟨k - 1, by omega⟩
      have ej : ((j + 1 : Nat) : Int) - 1 = (j : Int) := by omega
      rw [ej]
      clear ej
      obtain ⟨a1, a2, a3, a4, a5, a6⟩ := H.out
      have hc := a5.cell j (by omega)
      have hf := a5.frozen j
      obtain ⟨b0, b1⟩ := a2 j
      have ho := or_join r (gx R j) hr0 (by omega) b0 b1
      obtain ⟨q0, q1⟩ := quo_bd hr0 hr1 b0 b1
      have hdz : (d == 0) = false := beq_eq_false_iff_ne.2 (by omega)
      clear a1 a2 a3 a4 a5 a6
      go_wp2
      go_region
      all_goals go_wp2
      obtain ⟨a1, a2, a3, a4, a5, a6⟩ := H.out
      refine ⟨⟨j, _, R.set j ((r * 4294967296 + gx R j) / d), by omega, rfl, rfl, Int.emod_nonneg _ (by omega), Int.emod_lt_of_pos _ hd, by rw [List.length_set]; exact a1, u32_set a2 _ ⟨q0, q1⟩, fun k hk => ?_, ?_, (a5.set j _).drew, grownBy_drew (grownBy_setCell a6 _ _)⟩, by simp [intOf]⟩
      · rw [gx_set_ne R _ _ _ (by omega)]; exact a3 k (by omega)
      · rw [drop_set_after R n j _ (by omega) (by omega), drop_cons (Z.take n) j (by simp; omega), gx_take Z n j (by omega)]
        simp only [val]
        rw [← a4, ← a3 j (by omega)]
        have e := Int.emod_add_mul_ediv (r * 4294967296 + gx R j) d
        rw [Int.mul_comm d] at e
        rw [Int.add_mul, Int.mul_add, Int.mul_assoc]
        omega

set_option maxHeartbeats 1000000 in
/-- limbs.join: at most two limbs. -/
theorem join_any (p : Option Addr) (n nc : Nat) (xs : List Int) (w : World) (hl : xs.length = n) (hn : n ≤ 2) (hX : Rd w p .u32 xs) (hU : U32 xs) :
    Calls Tryz.prog 115 #[.slice p n nc] w fun e w' => e = .returned (.int .u64 (val xs)) ∧ w = w' := by
  go_enter Tryz.func115, Tryz.ntmps115
  go_wp2
  go_loop [3, 8] (fun mv iv => ∃ (k : Nat) (v : Int), k ≤ n ∧ iv = .int .i64 k ∧ mv = .int .u64 v ∧ Hid (v = val (xs.take k))) (fun _ iv => n - (intOf iv).toNat)
  case atStart => exact ⟨0, 0, Nat.zero_le _, rfl, rfl, by simp [val, Hid]⟩
  case round =>
    obtain ⟨k, v, hk, rfl, rfl, HV⟩ := hrel
    by_cases hlt : k < n
    · obtain ⟨b, off, rfl, hcell⟩ := hX (by omega)
      have hc := hcell k (by omega)
      obtain ⟨b0, b1⟩ := hU k
      clear hcell
      have hk01 : k = 0 ∨ k = 1 := by omega
      rcases hk01 with rfl | rfl
      · have hv : v = 0 := by have := HV.out; simpa [val] using this
        subst hv
        have ho : bits .or .u64 0 (gx xs 0) = gx xs 0 := by simpa using or_join 0 (gx xs 0) (by decide) (by decide) b0 b1
        rw [Nat.add_zero] at hc
        go_wp2
        refine ⟨⟨1, _, by omega, rfl, rfl, ?_⟩, by simp [intOf]; omega⟩
        show _ = _
        rw [val_take_succ xs 0 (by omega)]
        simp [val, pw_zero]
      · have hv : v = gx xs 0 := by
          have := HV.out
          rw [val_take_succ xs 0 (by omega)] at this
          simpa [val, pw_zero] using this
        subst hv
        obtain ⟨d0, d1⟩ := hU 0
        have ho := or_join' (gx xs 1) (gx xs 0) b0 b1 d0 d1
        go_wp2
        refine ⟨⟨2, _, by omega, rfl, rfl, ?_⟩, by simp [intOf]; omega⟩
        show _ = _
        rw [val_take_succ xs 1 (by omega), val_take_succ xs 0 (by omega)]
        simp only [List.take_zero, val, pw_succ, pw_zero]
        omega
    · have : k = n := by omega
      subst this
      go_wp2
      go_ret
      have := HV.out
      rw [List.take_of_length_le (by omega)] at this
      rw [this]
      exact ⟨rfl, rfl⟩

theorem neg_emod {m x r : Int} (h1 : 1 ≤ m) (h : r = x % m) (hr : r ≠ 0) : (-x) % m = m - r := by
  have e := Int.emod_add_mul_ediv x m
  have b0 := Int.emod_nonneg x (show m ≠ 0 by omega)
  have b1 := Int.emod_lt_of_pos x (show 0 < m by omega)
  rw [← h] at e b0 b1
  have e2 : -x = (m - r) + m * (-(x / m) - 1) := by rw [Int.mul_sub, Int.mul_neg]; omega
  rw [e2, Int.add_mul_emod_self_left]
  exact Int.emod_eq_of_lt (by omega) (by omega)

end Go.Proofs.YtcdfckjlmifjiaaGreat
