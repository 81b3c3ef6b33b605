/-
  What the walks of the laws share: numbers and boxes carried on.
-/
import Derived.Test.YtongkalfdgleaaaDoorBf
import Derived.Test.YtongkalfdgleaaaDoorRe
namespace Go.Proofs.YtongkalfdgleaaaDoor
open Go.RowKit
set_option linter.unusedVariables false
set_option linter.unusedSimpArgs false

theorem AI.setF {w : World} {p : Option Addr} {n nc F : Nat} {xs : List Int} (h : AI w p n nc xs) (hF : Go.Proofs.YtongkalfdgleaaaDoor.From F p) {a : Addr} (ha : a.block < F) (v : Value) : AI (w.setCell a v) p n nc xs :=
  ⟨h.len, h.cap, h.bnd, h.sml, h.rd.set_other a v (fun b hb e => by have := hF b hb; omega), h.u⟩
theorem AI.set2 {w : World} {p : Option Addr} {n nc F : Nat} {xs : List Int} (h : AI w p n nc xs) (hF : Go.Proofs.YtongkalfdgleaaaDoor.From F p) {g : Nat} (hg : g < F) (u v : Value) : AI ((w.setCell ⟨g, 0, none⟩ u).setCell ⟨g, 1, none⟩ v) p n nc xs :=
  (h.setF hF (a := ⟨g, 0, none⟩) hg u).setF hF (a := ⟨g, 1, none⟩) hg v
theorem From.mono {B F : Nat} {p : Option Addr} (h : Go.Proofs.YtongkalfdgleaaaDoor.From F p) (hB : B ≤ F) : Go.Proofs.YtongkalfdgleaaaDoor.From B p := fun a ha => Nat.le_trans hB (h a ha)
/-- One call more. -/
theorem bnext {B : Nat} {a b c : World} (h : Below B a b) (hB : B ≤ a.heap.size) (k : Below b.heap.size b c) : Below B a c := h.trans (k.mono (Nat.le_trans hB h.size))
theorem bnext' {a b c : World} (h : Below a.heap.size a b) (k : Below b.heap.size b c) : Below a.heap.size a c := bnext h (Nat.le_refl _) k
theorem bset2 {B g : Nat} {a b : World} (h : Below B a b) (hg : B ≤ g) (u v : Value) : Below B a ((b.setCell ⟨g, 0, none⟩ u).setCell ⟨g, 1, none⟩ v) := (h.setCell (p := ⟨g, 0, none⟩) hg u).setCell (p := ⟨g, 1, none⟩) hg v
theorem keepc6 {w1 w2 : World} {a b c d e f : Addr} {u v x y z t : Value} (h : w1.cell? a = some u ∧ w1.cell? b = some v ∧ w1.cell? c = some x ∧ w1.cell? d = some y ∧ w1.cell? e = some z ∧ w1.cell? f = some t) (hb : Below w1.heap.size w1 w2) :
    w2.cell? a = some u ∧ w2.cell? b = some v ∧ w2.cell? c = some x ∧ w2.cell? d = some y ∧ w2.cell? e = some z ∧ w2.cell? f = some t :=
  ⟨cell_later hb h.1, cell_later hb h.2.1, cell_later hb h.2.2.1, cell_later hb h.2.2.2.1, cell_later hb h.2.2.2.2.1, cell_later hb h.2.2.2.2.2⟩
/-- A number in a variable of its own: the variable's block, its sign, its limbs, from block F on. -/
structure Vr (w : World) (g : Nat) (s : Bool) (p : Option Addr) (n nc F : Nat) (xs : List Int) : Prop where
  b : Bx w g (.bool s) (.slice p n nc)
  a : AI w p n nc xs
  f : Go.Proofs.YtongkalfdgleaaaDoor.From F p
theorem Vr.later {w w' : World} {g : Nat} {s : Bool} {p : Option Addr} {n nc F : Nat} {xs : List Int} (h : Vr w g s p n nc F xs) (hb : Below w.heap.size w w') : Vr w' g s p n nc F xs := ⟨h.b.later hb, h.a.below hb, h.f⟩
end Go.Proofs.YtongkalfdgleaaaDoor
