/-
  Variables of two cells.
-/
import Derived.Test.YtkbgeggflhfleaaGreatDoorWkWl
import Derived.Deep.DeepCutAuto
namespace Go.Proofs.YtkbgeggflhfleaaGreatDoor
open Go.RowKit
set_option linter.unusedVariables false
set_option linter.unusedSimpArgs false
set_option maxHeartbeats 8000000
end Go.Proofs.YtkbgeggflhfleaaGreatDoor
