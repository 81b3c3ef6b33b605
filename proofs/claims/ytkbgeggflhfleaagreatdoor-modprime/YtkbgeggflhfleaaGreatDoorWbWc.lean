/-
  limbs.takeFrom.
-/
import Derived.Test.YtkbgeggflhfleaaGreatDoorProg
import Derived.Test.YtkbgeggflhfleaaGreatDoorMm
import Derived.Test.YtkbgeggflhfleaaGreatDoorWa
namespace Go.Proofs.YtkbgeggflhfleaaGreatDoor
open Go.RowKit
set_option linter.unusedVariables false
set_option linter.unusedSimpArgs false
set_option maxHeartbeats 8000000
end Go.Proofs.YtkbgeggflhfleaaGreatDoor
