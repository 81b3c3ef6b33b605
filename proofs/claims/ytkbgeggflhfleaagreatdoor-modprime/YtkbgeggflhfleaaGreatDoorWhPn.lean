/-
  limbs.Sign.
-/
import Derived.Test.YtkbgeggflhfleaaGreatDoorNi
import Derived.Test.YtkbgeggflhfleaaGreatDoorMm
namespace Go.Proofs.YtkbgeggflhfleaaGreatDoor
open Go.RowKit
set_option linter.unusedVariables false
set_option linter.unusedSimpArgs false
set_option maxHeartbeats 8000000
def mid (Z : List Int) (o : Nat) (R : List Int) : List Int := Z.take o ++ R ++ Z.drop (o + R.length)
end Go.Proofs.YtkbgeggflhfleaaGreatDoor
