/-
  Numbers as the program hands them about: a sign and limbs.
-/
import Derived.Test.YtejnhpjejcpekaaGreatDoorWbWcWdWe
namespace Go.Proofs.YtejnhpjejcpekaaGreatDoor
open Go.RowKit
set_option linter.unusedVariables false
set_option linter.unusedSimpArgs false
set_option maxHeartbeats 8000000
def ival (s : Bool) (xs : List Int) : Int := if s then - val xs else val xs
structure AI (w : World) (p : Option Addr) (n nc : Nat) (xs : List Int) : Prop where
  len : xs.length = n
  cap : n ≤ nc
  bnd : nc ≤ maxLen
  sml : n ≤ 100000000
  rd : Rd w p .u32 xs
  u : U32 xs
structure NI (B : Nat) (w : World) (s : Bool) (p : Option Addr) (n : Nat) (xs : List Int) (z : Int) : Prop where
  len : xs.length = n
  rd : Rd w p .u32 xs
  u : U32 xs
  nrm : tlen xs = n
  sg : n = 0 → s = false
  pn : n = 0 → p = none
  v : ival s xs = z
  fr : From B p
  fz : Fz w p
theorem AI.below {w w' : World} {p : Option Addr} {n nc : Nat} {xs : List Int} (h : AI w p n nc xs) (hb : Below w.heap.size w w') : AI w' p n nc xs := ⟨h.len, h.cap, h.bnd, h.sml, h.rd.below hb, h.u⟩
theorem AI.alloc {w : World} {p : Option Addr} {n nc : Nat} {xs : List Int} (h : AI w p n nc xs) (o : Obj) : AI (w.alloc o) p n nc xs := ⟨h.len, h.cap, h.bnd, h.sml, h.rd.alloc o, h.u⟩
theorem NI.below {B : Nat} {w w' : World} {s : Bool} {p : Option Addr} {n : Nat} {xs : List Int} {z : Int} (h : NI B w s p n xs z) (hb : Below w.heap.size w w') : NI B w' s p n xs z :=
  ⟨h.len, h.rd.below hb, h.u, h.nrm, h.sg, h.pn, h.v, h.fr, h.fz.below hb⟩
theorem NI.mono {B B' : Nat} {w : World} {s : Bool} {p : Option Addr} {n : Nat} {xs : List Int} {z : Int} (h : NI B w s p n xs z) (hB : B' ≤ B) : NI B' w s p n xs z :=
  ⟨h.len, h.rd, h.u, h.nrm, h.sg, h.pn, h.v, fun a ha => Nat.le_trans hB (h.fr a ha), h.fz⟩
theorem NI.ai {B : Nat} {w : World} {s : Bool} {p : Option Addr} {n : Nat} {xs : List Int} {z : Int} (h : NI B w s p n xs z) (hn : n ≤ 100000000) : AI w p n n xs :=
  ⟨h.len, Nat.le_refl _, by unfold maxLen; omega, hn, h.rd, h.u⟩
theorem ival_tr (s : Bool) (xs : List Int) : ival s (tr xs) = ival s xs := by simp only [ival, val_tr]
theorem ni_number {B : Nat} {w : World} {q : Option Addr} {xs : List Int} (neg : Bool) (hX : Rd w q .u32 xs) (hU : U32 xs) (hf : From B q) (hz : Fz w q) : NI B w (nsg neg xs) (nad q xs) (tlen xs) (tr xs) (ival neg xs) := by
  refine ⟨length_tr xs, ?_, u32_tr hU, tlen_tr xs, fun h => by rw [nsg, if_pos h], fun h => by rw [nad, if_pos h], ?_, ?_, ?_⟩
  · intro h
    rw [length_tr] at h
    rw [nad, if_neg (by omega)]
    exact hX.tr (by rw [length_tr]; exact h)
  · rw [ival_tr, nsg]
    split
    · rename_i h
      have := (tlen_zero_iff hU).1 h
      simp [ival, this]
    · rfl
  · rw [nad]
    split
    · intro a ha; cases ha
    · exact hf
  · rw [nad]
    split
    · exact Fz.nil _
    · exact hz
theorem Row.new3 (w : World) (a b c : Obj) (e : TypeId) (k : IntKind) (xs : List Int) : Row ((((w.alloc a).alloc b).alloc c).alloc (.cells (ca k xs) e)) (w.heap.size + 1 + 1 + 1) e k xs := by
  have := Row.new (((w.alloc a).alloc b).alloc c) e k xs
  rwa [World.size_alloc, World.size_alloc, World.size_alloc] at this
theorem keepc2 {w1 w2 : World} {a b : Addr} {u v : Value} (h : w1.cell? a = some u ∧ w1.cell? b = some v) (hb : Below w1.heap.size w1 w2) : w2.cell? a = some u ∧ w2.cell? b = some v :=
  ⟨cell_later hb h.1, cell_later hb h.2⟩
theorem keepc4 {w1 w2 : World} {a b c d : Addr} {u v x y : Value} (h : w1.cell? a = some u ∧ w1.cell? b = some v ∧ w1.cell? c = some x ∧ w1.cell? d = some y) (hb : Below w1.heap.size w1 w2) : w2.cell? a = some u ∧ w2.cell? b = some v ∧ w2.cell? c = some x ∧ w2.cell? d = some y :=
  ⟨cell_later hb h.1, cell_later hb h.2.1, cell_later hb h.2.2.1, cell_later hb h.2.2.2⟩
theorem NI.set {B : Nat} {w : World} {s : Bool} {p : Option Addr} {n : Nat} {xs : List Int} {z : Int} (h : NI B w s p n xs z) {a : Addr} (ha : a.block < B) (v : Value) : NI B (w.setCell a v) s p n xs z :=
  ⟨h.len, h.rd.set_other a v (fun b hb e => by have := h.fr b hb; omega), h.u, h.nrm, h.sg, h.pn, h.v, h.fr, h.fz.set a v⟩
theorem NI.drew {B : Nat} {w : World} {s : Bool} {p : Option Addr} {n : Nat} {xs : List Int} {z : Int} (h : NI B w s p n xs z) : NI B w.drew s p n xs z := ⟨h.len, h.rd.drew, h.u, h.nrm, h.sg, h.pn, h.v, h.fr, h.fz.drew⟩
theorem AI.drew {w : World} {p : Option Addr} {n nc : Nat} {xs : List Int} (h : AI w p n nc xs) : AI w.drew p n nc xs := ⟨h.len, h.cap, h.bnd, h.sml, h.rd, h.u⟩
theorem AI.tr {w : World} {p : Option Addr} {n nc : Nat} {xs : List Int} (h : AI w p n nc xs) : AI w p (tlen xs) nc (tr xs) :=
  ⟨length_tr xs, by have := tlen_le xs; have := h.len; have := h.cap; omega, h.bnd, by have := tlen_le xs; have := h.len; have := h.sml; omega, h.rd.tr, u32_tr h.u⟩
theorem from_new {B b o : Nat} (h : B ≤ b) : From B (some ⟨b, o, none⟩) := fun a ha => by cases ha; exact h
theorem from_none {B : Nat} : From B none := fun a ha => by cases ha
theorem resbox {W w1 : World} {r : Nat} {u v : Value} (hb : Below W.heap.size W w1) (h0 : W.cell? ⟨r, 0, none⟩ = some u) (h1 : W.cell? ⟨r, 1, none⟩ = some v) (f0 : W.frozen? ⟨r, 0, none⟩ = false) (f1 : W.frozen? ⟨r, 1, none⟩ = false) :
    w1.cell? ⟨r, 0, none⟩ = some u ∧ w1.cell? ⟨r, 1, none⟩ = some v ∧ w1.frozen? ⟨r, 0, none⟩ = false ∧ w1.frozen? ⟨r, 1, none⟩ = false := by
  have hr : r < W.heap.size := block_lt_of_cell h0
  exact ⟨cell_later hb h0, cell_later hb h1, by rw [hb.frozen (p := ⟨r, 0, none⟩) hr]; exact f0, by rw [hb.frozen (p := ⟨r, 1, none⟩) hr]; exact f1⟩
structure Boxes (w W : World) (a0 a1 b0 b1 r0 r1 : Value) : Prop where
  size : w.heap.size + 1 + 1 + 1 ≤ W.heap.size
  below : Below w.heap.size w W
  ca0 : W.cell? ⟨w.heap.size, 0, none⟩ = some a0
  ca1 : W.cell? ⟨w.heap.size, 1, none⟩ = some a1
  cb0 : W.cell? ⟨w.heap.size + 1, 0, none⟩ = some b0
  cb1 : W.cell? ⟨w.heap.size + 1, 1, none⟩ = some b1
  cr0 : W.cell? ⟨w.heap.size + 1 + 1, 0, none⟩ = some r0
  cr1 : W.cell? ⟨w.heap.size + 1 + 1, 1, none⟩ = some r1
  fr0 : W.frozen? ⟨w.heap.size + 1 + 1, 0, none⟩ = false
  fr1 : W.frozen? ⟨w.heap.size + 1 + 1, 1, none⟩ = false
theorem boxes3 (w : World) (a0 a1 b0 b1 r0 r1 : Value) (ta tb tr k : Nat) : Boxes w ((((w.alloc (.cells #[a0, a1] ta)).alloc (.cells #[b0, b1] tb)).alloc (.cells #[r0, r1] tr)).drewN k) a0 a1 b0 b1 r0 r1 := by
  refine ⟨by simp, below_drewN ((((Below.refl _ _).alloc (Nat.le_refl _) _).alloc (by simp) _).alloc (by simp; omega) _) k, ?_, ?_, ?_, ?_, ?_, ?_, ?_, ?_⟩ <;> simp [go_sem, World.cell?_alloc_past, World.frozen?_alloc_past]
theorem boxes3' (w : World) (a0 a1 b0 b1 r0 r1 : Value) (ta tb tr : Nat) : Boxes w (((w.alloc (.cells #[a0, a1] ta)).alloc (.cells #[b0, b1] tb)).alloc (.cells #[r0, r1] tr)) a0 a1 b0 b1 r0 r1 := by
  refine ⟨by simp, (((Below.refl _ _).alloc (Nat.le_refl _) _).alloc (by simp) _).alloc (by simp; omega) _, ?_, ?_, ?_, ?_, ?_, ?_, ?_, ?_⟩ <;> simp [go_sem, World.cell?_alloc_past, World.frozen?_alloc_past]
theorem Boxes.later {w W W' : World} {a0 a1 b0 b1 r0 r1 : Value} (h : Boxes w W a0 a1 b0 b1 r0 r1) (hb : Below W.heap.size W W') : Boxes w W' a0 a1 b0 b1 r0 r1 := by
  obtain ⟨c0, c1, f0, f1⟩ := resbox hb h.cr0 h.cr1 h.fr0 h.fr1
  exact ⟨Nat.le_trans h.size hb.size, h.below.trans (hb.mono (by have := h.size; omega)), cell_later hb h.ca0, cell_later hb h.ca1, cell_later hb h.cb0, cell_later hb h.cb1, c0, c1, f0, f1⟩
theorem end_number {w W w1 w2 : World} {r : Nat} {sg : Bool} {zs : List Int} {e : TypeId} {z : Int} {u v : Value} (hw : Below w.heap.size w W) (hr : w.heap.size ≤ r) (hr' : r < W.heap.size)
    (hz : Row w1 W.heap.size e .u32 zs) (hu : U32 zs) (hb1 : Below W.heap.size W w1) (hb2 : Below w1.heap.size w1 w2) (hv : ival sg zs = z) :
    NI w.heap.size ((w2.setCell ⟨r, 0, none⟩ u).setCell ⟨r, 1, none⟩ v) (nsg sg zs) (nad (some ⟨W.heap.size, 0, none⟩) zs) (tlen zs) (tr zs) z ∧ Below w.heap.size w ((w2.setCell ⟨r, 0, none⟩ u).setCell ⟨r, 1, none⟩ v) := by
  have s1 := hw.size
  have s2 := hb1.size
  subst hv
  exact ⟨((((ni_number (B := W.heap.size) sg hz.rd_all hu (from_new (Nat.le_refl _)) (hz.fz 0)).below hb2).set hr' _).set hr' _).mono s1,
    (((hw.trans (hb1.mono s1)).trans (hb2.mono (by omega))).setCell (p := ⟨r, 0, none⟩) hr _).setCell (p := ⟨r, 1, none⟩) hr _⟩
theorem end_ni {w W w1 : World} {r : Nat} {s : Bool} {p : Option Addr} {n : Nat} {xs : List Int} {z : Int} {u v : Value} (hw : Below w.heap.size w W) (hr : w.heap.size ≤ r) (hr' : r < W.heap.size)
    (hN : NI W.heap.size w1 s p n xs z) (hb : Below W.heap.size W w1) :
    NI w.heap.size ((w1.setCell ⟨r, 0, none⟩ u).setCell ⟨r, 1, none⟩ v) s p n xs z ∧ Below w.heap.size w ((w1.setCell ⟨r, 0, none⟩ u).setCell ⟨r, 1, none⟩ v) :=
  ⟨((hN.set hr' _).set hr' _).mono hw.size, ((hw.trans (hb.mono hw.size)).setCell (p := ⟨r, 0, none⟩) hr _).setCell (p := ⟨r, 1, none⟩) hr _⟩
theorem ival_not (s : Bool) (xs : List Int) : ival (!s) xs = - ival s xs := by cases s <;> simp [ival]
structure Box2 (w W : World) (a0 a1 b0 b1 : Value) : Prop where
  size : w.heap.size + 1 + 1 ≤ W.heap.size
  below : Below w.heap.size w W
  ca0 : W.cell? ⟨w.heap.size, 0, none⟩ = some a0
  ca1 : W.cell? ⟨w.heap.size, 1, none⟩ = some a1
  cb0 : W.cell? ⟨w.heap.size + 1, 0, none⟩ = some b0
  cb1 : W.cell? ⟨w.heap.size + 1, 1, none⟩ = some b1
theorem boxes2 (w : World) (a0 a1 b0 b1 : Value) (ta tb : Nat) : Box2 w ((w.alloc (.cells #[a0, a1] ta)).alloc (.cells #[b0, b1] tb)) a0 a1 b0 b1 := by
  refine ⟨by simp, ((Below.refl _ _).alloc (Nat.le_refl _) _).alloc (by simp) _, ?_, ?_, ?_, ?_⟩ <;> simp [go_sem, World.cell?_alloc_past, World.frozen?_alloc_past]
theorem Box2.later {w W W' : World} {a0 a1 b0 b1 : Value} (h : Box2 w W a0 a1 b0 b1) (hb : Below W.heap.size W W') : Box2 w W' a0 a1 b0 b1 :=
  ⟨Nat.le_trans h.size hb.size, h.below.trans (hb.mono (by have := h.size; omega)), cell_later hb h.ca0, cell_later hb h.ca1, cell_later hb h.cb0, cell_later hb h.cb1⟩
theorem undrew {W w1 : World} (h : Below W.drew.heap.size W.drew w1) : Below W.heap.size W w1 := ⟨h.os, h.tape, h.output, h.size, h.block⟩
structure Ent where
  s : Bool
  p : Option Addr
  n : Nat
  c : Nat
def ez : Ent := ⟨false, none, 0, 0⟩
def ge (es : List Ent) (i : Nat) : Ent := (es[i]?).getD ez
theorem ge_take (es : List Ent) (n i : Nat) (h : i < n) : ge (es.take n) i = ge es i := by simp [ge, List.getElem?_take, h]
theorem ge_set_same (es : List Ent) (i : Nat) (e : Ent) (h : i < es.length) : ge (es.set i e) i = e := by simp [ge, h]
theorem ge_set_other (es : List Ent) (i j : Nat) (e : Ent) (h : j ≠ i) : ge (es.set i e) j = ge es j := by simp [ge, List.getElem?_set, Ne.symm h]
theorem ge_append_left (a b : List Ent) (i : Nat) (h : i < a.length) : ge (a ++ b) i = ge a i := by simp [ge, List.getElem?_append, h]
theorem ge_snoc (a : List Ent) (e : Ent) : ge (a ++ [e]) a.length = e := by simp [ge]
def PL (w : World) (p : Option Addr) (es : List Ent) : Prop :=
  0 < es.length → ∃ b o, p = some ⟨b, o, none⟩ ∧ ∀ j, j < es.length → w.cell? ⟨b, o + j * 2, none⟩ = some (.bool (ge es j).s) ∧ w.cell? ⟨b, o + j * 2 + 1, none⟩ = some (.slice (ge es j).p (ge es j).n (ge es j).c)
def ca2 (es : List Ent) : Array Value := (es.flatMap fun e => [.bool e.s, .slice e.p e.n e.c]).toArray
def Row2 (w : World) (g : Nat) (t : TypeId) (es : List Ent) : Prop := w.heap[g]? = some (.cells (ca2 es) t (0, 0))
theorem flat_get (es : List Ent) : ∀ j, j < es.length → (es.flatMap fun e => [Value.bool e.s, .slice e.p e.n e.c])[j * 2]? = some (.bool (ge es j).s) ∧ (es.flatMap fun e => [Value.bool e.s, .slice e.p e.n e.c])[j * 2 + 1]? = some (.slice (ge es j).p (ge es j).n (ge es j).c) := by
  induction es with
  | nil => intro j hj; simp at hj
  | cons e r ih =>
    intro j hj
    cases j with
    | zero => exact ⟨rfl, rfl⟩
    | succ j =>
      have h := ih j (by simpa using hj)
      have e1 : (j + 1) * 2 = j * 2 + 1 + 1 := by omega
      have e2 : (j + 1) * 2 + 1 = j * 2 + 1 + 1 + 1 := by omega
      have e3 : ge (e :: r) (j + 1) = ge r j := by simp [ge]
      rw [e1, e3]
      simp only [List.flatMap_cons, List.cons_append, List.nil_append, List.getElem?_cons_succ]
      exact h
theorem flat_length (es : List Ent) : (es.flatMap fun e => [Value.bool e.s, .slice e.p e.n e.c]).length = es.length * 2 := by
  induction es with
  | nil => rfl
  | cons e r ih => simp only [List.flatMap_cons, List.length_append, ih, List.length_cons, List.length_nil]; omega
theorem flat_set (es : List Ent) : ∀ j e, j < es.length → ((es.flatMap fun e => [Value.bool e.s, .slice e.p e.n e.c]).set (j * 2) (.bool e.s)).set (j * 2 + 1) (.slice e.p e.n e.c) = (es.set j e).flatMap fun e => [Value.bool e.s, .slice e.p e.n e.c] := by
  induction es with
  | nil => intro j e hj; simp at hj
  | cons a r ih =>
    intro j e hj
    cases j with
    | zero => rfl
    | succ j =>
      have h := ih j e (by simpa using hj)
      have e1 : (j + 1) * 2 = j * 2 + 1 + 1 := by omega
      rw [e1]
      simp only [List.flatMap_cons, List.cons_append, List.nil_append, List.set_cons_succ]
      rw [h]
theorem size_ca2 (es : List Ent) : (ca2 es).size = es.length * 2 := by rw [ca2, List.size_toArray, flat_length]
section
variable {w w' : World} {g : Nat} {t : TypeId} {es : List Ent} {p : Option Addr}
theorem Row2.lt (h : Row2 w g t es) : g < w.heap.size := (Array.getElem?_eq_some_iff.1 h).1
theorem Row2.cell (h : Row2 w g t es) (j : Nat) (hj : j < es.length) : w.cell? ⟨g, j * 2, none⟩ = some (.bool (ge es j).s) ∧ w.cell? ⟨g, j * 2 + 1, none⟩ = some (.slice (ge es j).p (ge es j).n (ge es j).c) := by
  obtain ⟨h1, h2⟩ := flat_get es j hj
  rw [cell_of_row w g (j * 2) _ t (0, 0) h, cell_of_row w g (j * 2 + 1) _ t (0, 0) h]
  simp only [ca2, List.getElem?_toArray]
  exact ⟨h1, h2⟩
theorem Row2.frozen (h : Row2 w g t es) (j : Nat) : w.frozen? ⟨g, j, none⟩ = false := frozen_of_row w g j _ t h
theorem Row2.set (h : Row2 w g t es) (j : Nat) (e : Ent) (hj : j < es.length) : Row2 ((w.setCell ⟨g, j * 2, none⟩ (.bool e.s)).setCell ⟨g, j * 2 + 1, none⟩ (.slice e.p e.n e.c)) g t (es.set j e) := by
  unfold Row2
  have h1 := heap_setCell_same w g (j * 2) _ t (.bool e.s) h
  rw [heap_setCell_same _ g (j * 2 + 1) _ t (.slice e.p e.n e.c) h1]
  simp only [ca2, List.setIfInBounds_toArray]
  rw [flat_set es j e hj]
theorem Row2.below {B : Nat} (h : Row2 w g t es) (hb : Below B w w') (hg : g < B) : Row2 w' g t es := (hb.block g hg).trans h
theorem Row2.drew (h : Row2 w g t es) : Row2 w.drew g t es := h
theorem Row2.alloc (h : Row2 w g t es) (o : Obj) : Row2 (w.alloc o) g t es := (Below.heap_alloc w o g h.lt).trans h
theorem Row2.new (w : World) (t : TypeId) (es : List Ent) : Row2 (w.alloc (.cells (ca2 es) t)) w.heap.size t es := heap_alloc_new w _
theorem Row2.set_other (h : Row2 w g t es) (a : Addr) (v : Value) (hne : g ≠ a.block) : Row2 (w.setCell a v) g t es := (heap_setCell_other w a g v hne).trans h
theorem Row2.pl (h : Row2 w g t es) : PL w (some ⟨g, 0, none⟩) es := fun _ => ⟨g, 0, rfl, fun j hj => by
  simp only [Nat.zero_add]; exact h.cell j hj⟩
theorem PL.nil : PL w p [] := fun h => by simp at h
theorem PL.lt (h : PL w p es) (hx : 0 < es.length) : ∃ b o, p = some ⟨b, o, none⟩ ∧ b < w.heap.size := by
  obtain ⟨b, o, hp, hc⟩ := h hx
  exact ⟨b, o, hp, block_lt_of_cell (hc 0 hx).1⟩
theorem PL.same (h : PL w p es) (hs : ∀ a, p = some a → a.block < w.heap.size → w'.heap[a.block]? = w.heap[a.block]?) : PL w' p es := fun hx => by
  obtain ⟨b, o, hp, hc⟩ := h hx
  refine ⟨b, o, hp, fun j hj => ?_⟩
  have hlt : b < w.heap.size := block_lt_of_cell (hc 0 hx).1
  have hb := hs ⟨b, o, none⟩ hp hlt
  exact ⟨(World.cell?_of_block (a := ⟨b, o + j * 2, none⟩) hb).trans (hc j hj).1, (World.cell?_of_block (a := ⟨b, o + j * 2 + 1, none⟩) hb).trans (hc j hj).2⟩
theorem PL.below (h : PL w p es) (hb : Below w.heap.size w w') : PL w' p es := h.same fun a _ hlt => hb.block a.block hlt
theorem PL.off (h : PL w p es) (hg : w.heap.size ≤ g) (hx : 0 < es.length) : Off g p := fun a ha e => by
  obtain ⟨b, o, hp, hlt⟩ := h.lt hx
  rw [hp] at ha
  cases ha
  simp at e; omega
theorem PL.drew (h : PL w p es) : PL w.drew p es := h
theorem PL.alloc (h : PL w p es) (o : Obj) : PL (w.alloc o) p es := h.same fun a _ hlt => Below.heap_alloc w o a.block hlt
theorem PL.set_other (h : PL w p es) (a : Addr) (v : Value) (hne : Off a.block p) : PL (w.setCell a v) p es := h.same fun b hb _ => heap_setCell_other w a b.block v (hne b hb)
theorem PL.take (h : PL w p es) (n : Nat) : PL w p (es.take n) := fun hx => by
  obtain ⟨b, o, hp, hc⟩ := h (by simp at hx; omega)
  refine ⟨b, o, hp, fun j hj => ?_⟩
  have : j < n ∧ j < es.length := by simp at hj; omega
  rw [ge_take _ _ _ this.1]; exact hc j this.2
end
def EV (w : World) (K : Nat) (z : Int) (e : Ent) : Prop := ∃ xs, AI w e.p e.n e.c xs ∧ ival e.s xs = z ∧ e.n ≤ K
structure PA (w : World) (K : Nat) (p : Option Addr) (n nc : Nat) (es : List Ent) (zs : List Int) : Prop where
  el : es.length = n
  zl : zs.length = n
  cap : n ≤ nc
  bnd : nc ≤ maxLen
  pn : p = none → nc = 0
  pl : PL w p es
  ev : ∀ j, j < n → EV w K (gx zs j) (ge es j)
section
variable {w w' : World} {K : Nat} {z : Int} {e : Ent} {p : Option Addr} {n nc : Nat} {es : List Ent} {zs : List Int}
theorem EV.below (h : EV w K z e) (hb : Below w.heap.size w w') : EV w' K z e := by
  obtain ⟨xs, h1, h2⟩ := h
  exact ⟨xs, h1.below hb, h2⟩
theorem EV.drew (h : EV w K z e) : EV w.drew K z e := by
  obtain ⟨xs, h1, h2⟩ := h
  exact ⟨xs, h1.drew, h2⟩
theorem PA.below (h : PA w K p n nc es zs) (hb : Below w.heap.size w w') : PA w' K p n nc es zs := ⟨h.el, h.zl, h.cap, h.bnd, h.pn, h.pl.below hb, fun j hj => (h.ev j hj).below hb⟩
theorem PA.drew (h : PA w K p n nc es zs) : PA w.drew K p n nc es zs := ⟨h.el, h.zl, h.cap, h.bnd, h.pn, h.pl.drew, fun j hj => (h.ev j hj).drew⟩
theorem PA.take (h : PA w K p n nc es zs) (m : Nat) (hm : m ≤ n) : PA w K p m nc (es.take m) (zs.take m) :=
  ⟨by have := h.el; simp; omega, by have := h.zl; simp; omega, by have := h.cap; omega, h.bnd, h.pn, h.pl.take m, fun j hj => by rw [gx_take _ _ _ hj, ge_take _ _ _ hj]; exact h.ev j (by omega)⟩
theorem PA.clip (h : PA w K p n nc es zs) : (p = none → n = 0) → PA w K p n n es zs := fun hp => ⟨h.el, h.zl, Nat.le_refl _, by have := h.cap; have := h.bnd; omega, hp, h.pl, h.ev⟩
end
end Go.Proofs.YtejnhpjejcpekaaGreatDoor
