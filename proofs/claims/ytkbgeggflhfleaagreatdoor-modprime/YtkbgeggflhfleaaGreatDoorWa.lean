/-
  The contracts of the small functions of limbs, read off the program by walking it.
-/
import Derived.Test.YtkbgeggflhfleaaGreatDoorProg
import Derived.Test.YtkbgeggflhfleaaGreatDoorMm
namespace Go.Proofs.YtkbgeggflhfleaaGreatDoor
open Go.RowKit
set_option linter.unusedVariables false
set_option linter.unusedSimpArgs false

end Go.Proofs.YtkbgeggflhfleaaGreatDoor
