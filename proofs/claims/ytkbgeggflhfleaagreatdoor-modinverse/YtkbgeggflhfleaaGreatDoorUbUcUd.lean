/-
  upoly.trim.
-/
import Derived.Test.YtkbgeggflhfleaaGreatDoorUa
import Derived.Test.YtkbgeggflhfleaaGreatDoorWhPn
import Derived.Test.YtkbgeggflhfleaaGreatDoorWlBxBbCvNj
import Derived.Test.YtkbgeggflhfleaaGreatDoorWk
namespace Go.Proofs.YtkbgeggflhfleaaGreatDoor
open Go.RowKit
set_option linter.unusedVariables false
set_option linter.unusedSimpArgs false
set_option maxHeartbeats 8000000
def NV (B : Nat) (w : World) (K : Nat) (z : Int) (e : Ent) : Prop := ∃ xs, NI B w e.s e.p e.n xs z ∧ e.c = e.n ∧ e.n ≤ K
section
variable {B : Nat} {w w' : World} {K : Nat} {z : Int} {e : Ent} {p : Option Addr} {n : Nat} {es : List Ent} {zs : List Int}
theorem NV.below (h : NV B w K z e) (hb : Below w.heap.size w w') : NV B w' K z e := by
  obtain ⟨xs, h1, h2⟩ := h
  exact ⟨xs, h1.below hb, h2⟩
theorem NV.ev (h : NV B w K z e) (hK : K ≤ 1000) : EV w K z e := by
  obtain ⟨xs, h1, h2, h3⟩ := h
  exact ⟨xs, by rw [h2]; exact h1.ai (by omega), h1.v, h3⟩
end
end Go.Proofs.YtkbgeggflhfleaaGreatDoor
