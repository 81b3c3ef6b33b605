/-
  limbs: sums and differences of sizes, the order of sizes.
-/
import Derived.Test.YtkbgeggflhfleaaGreatDoorWc
namespace Go.Proofs.YtkbgeggflhfleaaGreatDoor
open Go.RowKit
set_option linter.unusedVariables false
set_option linter.unusedSimpArgs false
set_option maxHeartbeats 8000000
end Go.Proofs.YtkbgeggflhfleaaGreatDoor
