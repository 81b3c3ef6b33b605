/-
  Two numbers behind Cut, as the laws hold them.
-/
import Derived.Test.YtgdbhgpabehcfaaDoorCy
namespace Go.Proofs.YtgdbhgpabehcfaaDoor
open Go.RowKit
set_option linter.unusedVariables false
set_option linter.unusedSimpArgs false

/-- Two numbers in variables of their own, behind Cut. -/
structure C2 (w wc : World) (sa sb : Bool) (pa pb : Option Addr) (na nac nb nbc : Nat) (xa xb : List Int) : Prop where
  a : Vr wc w.heap.size sa pa na nac (w.heap.size + 1 + 1) xa
  b : Vr wc (w.heap.size + 1) sb pb nb nbc (w.heap.size + 1 + 1) xb
  la : na ≤ 24
  lb : nb ≤ 24
  bel : Below w.heap.size w wc
theorem C2.later {w wc w' : World} {sa sb : Bool} {pa pb : Option Addr} {na nac nb nbc : Nat} {xa xb : List Int} (h : C2 w wc sa sb pa pb na nac nb nbc xa xb) (hb : Below wc.heap.size wc w') : C2 w w' sa sb pa pb na nac nb nbc xa xb :=
  ⟨h.a.later hb, h.b.later hb, h.la, h.lb, bnext h.bel (Nat.le_refl _) hb⟩


theorem keepc8 {w1 w2 : World} {a b c d e f g h : Addr} {u v x y z t r s : Value} (k : w1.cell? a = some u ∧ w1.cell? b = some v ∧ w1.cell? c = some x ∧ w1.cell? d = some y ∧ w1.cell? e = some z ∧ w1.cell? f = some t ∧ w1.cell? g = some r ∧ w1.cell? h = some s) (hb : Below w1.heap.size w1 w2) :
    w2.cell? a = some u ∧ w2.cell? b = some v ∧ w2.cell? c = some x ∧ w2.cell? d = some y ∧ w2.cell? e = some z ∧ w2.cell? f = some t ∧ w2.cell? g = some r ∧ w2.cell? h = some s :=
  ⟨cell_later hb k.1, cell_later hb k.2.1, cell_later hb k.2.2.1, cell_later hb k.2.2.2.1, cell_later hb k.2.2.2.2.1, cell_later hb k.2.2.2.2.2.1, cell_later hb k.2.2.2.2.2.2.1, cell_later hb k.2.2.2.2.2.2.2⟩
theorem unfr {W : World} {p : Option Addr} (h : Go.Proofs.YtgdbhgpabehcfaaDoor.From W.drew.heap.size p) : Go.Proofs.YtgdbhgpabehcfaaDoor.From W.heap.size p := h
theorem s4set {w : World} {b c g : Nat} {u v x y r s : Value} (h : w.cell? ⟨b, 0, none⟩ = some u ∧ w.cell? ⟨b, 1, none⟩ = some v ∧ w.cell? ⟨c, 0, none⟩ = some x ∧ w.cell? ⟨c, 1, none⟩ = some y) (h1 : b ≠ g) (h2 : c ≠ g) :
    ((w.setCell ⟨g, 0, none⟩ r).setCell ⟨g, 1, none⟩ s).cell? ⟨b, 0, none⟩ = some u ∧ ((w.setCell ⟨g, 0, none⟩ r).setCell ⟨g, 1, none⟩ s).cell? ⟨b, 1, none⟩ = some v ∧ ((w.setCell ⟨g, 0, none⟩ r).setCell ⟨g, 1, none⟩ s).cell? ⟨c, 0, none⟩ = some x ∧ ((w.setCell ⟨g, 0, none⟩ r).setCell ⟨g, 1, none⟩ s).cell? ⟨c, 1, none⟩ = some y := by
  obtain ⟨a1, a2, a3, a4⟩ := h
  refine ⟨?_, ?_, ?_, ?_⟩
  · rw [World.cell?_of_block (heap_setCell_other _ _ _ _ h1), World.cell?_of_block (heap_setCell_other _ _ _ _ h1)]; exact a1
  · rw [World.cell?_of_block (heap_setCell_other _ _ _ _ h1), World.cell?_of_block (heap_setCell_other _ _ _ _ h1)]; exact a2
  · rw [World.cell?_of_block (heap_setCell_other _ _ _ _ h2), World.cell?_of_block (heap_setCell_other _ _ _ _ h2)]; exact a3
  · rw [World.cell?_of_block (heap_setCell_other _ _ _ _ h2), World.cell?_of_block (heap_setCell_other _ _ _ _ h2)]; exact a4
/-- A reference number in a variable of its own, with its value. -/
structure Vx (w : World) (g : Nat) (s : Bool) (p : Option Addr) (n : Nat) (ds : List Int) (z : Int) : Prop where
  b : Bx w g (.bool s) (.slice p n n)
  r : RN w s p n ds
  v : rval s ds = z
  l : n ≤ 48
theorem Vx.later {w w' : World} {g : Nat} {s : Bool} {p : Option Addr} {n : Nat} {ds : List Int} {z : Int} (h : Vx w g s p n ds z) (hb : Below w.heap.size w w') : Vx w' g s p n ds z := ⟨h.b.later hb, h.r.below hb, h.v, h.l⟩
end Go.Proofs.YtgdbhgpabehcfaaDoor
