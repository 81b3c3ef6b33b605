/-
  How many bits a number has: plain facts.
-/
import Derived.Test.YtkbgeggflhfleaaGreatDoorOwRaWmBeRdLnWr
import Derived.Test.YtkbgeggflhfleaaGreatDoorNi
import Derived.Test.YtkbgeggflhfleaaGreatDoorUbUcUd
import Derived.StillTailTactics
namespace Go.Proofs.YtkbgeggflhfleaaGreatDoor
open Go.RowKit
set_option linter.unusedVariables false
set_option linter.unusedSimpArgs false
set_option maxHeartbeats 8000000
def EN (w : World) (K : Nat) (z : Int) (e : Ent) : Prop := ∃ xs, AI w e.p e.n e.c xs ∧ ival e.s xs = z ∧ tlen xs = e.n ∧ (e.n = 0 → e.s = false) ∧ e.n ≤ K
theorem EN.ev {w : World} {K : Nat} {z : Int} {e : Ent} (h : EN w K z e) : EV w K z e := by
  obtain ⟨xs, h1, h2, h3, h4, h5⟩ := h
  exact ⟨xs, h1, h2, h5⟩
end Go.Proofs.YtkbgeggflhfleaaGreatDoor
