/-
  Plain facts on lists of limbs: no program in sight.
-/
import Derived.WalkKit
import Derived.WalkSpells
import Derived.WalkLawsBesides
namespace Go.Proofs.YtkbgeggflhfleaaGreatDoor
open Go.RowKit
set_option linter.unusedVariables false
set_option linter.unusedSimpArgs false

def gx (xs : List Int) (j : Nat) : Int := xs.getD j 0
def tlen : List Int → Nat
  | [] => 0
  | x :: r => if tlen r = 0 then (if x = 0 then 0 else 1) else tlen r + 1

def val : List Int → Int
  | [] => 0
  | x :: r => x + 4294967296 * val r

def U32 (xs : List Int) : Prop := ∀ j, 0 ≤ gx xs j ∧ gx xs j < 4294967296

theorem gx_mem (xs : List Int) (j : Nat) (h : j < xs.length) : gx xs j = xs[j] := by simp [gx, h]
theorem gx_take (xs : List Int) (k j : Nat) (h : j < k) : gx (xs.take k) j = gx xs j := by simp [gx, h]
theorem gx_drop (xs : List Int) (k j : Nat) : gx (xs.drop k) j = gx xs (k + j) := by simp [gx, List.getElem?_drop]
end Go.Proofs.YtkbgeggflhfleaaGreatDoor
