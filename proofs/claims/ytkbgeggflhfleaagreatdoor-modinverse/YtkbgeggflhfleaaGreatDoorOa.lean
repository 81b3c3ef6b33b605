/-
  Arguments, read as data: what every card wants.
-/
import Derived.Test.YtkbgeggflhfleaaGreatDoorMm
import Derived.Test.YtkbgeggflhfleaaGreatDoorProg
import Derived.ProofKit
import Derived.OpenShut
import Derived.Lib.SmallJoins
import Derived.Lay
import Derived.LaidOnce
import Derived.SevenTiedAt
namespace Go.Proofs.YtkbgeggflhfleaaGreatDoor
open Go.ChangeShapes Go.WideShapes Go.ChangeAt Go.RowKit Go.Joins
set_option linter.unusedVariables false
set_option linter.unusedSimpArgs false

theorem own : ownKnob Tryz.prog.godebug = none := by kernel_rfl
end Go.Proofs.YtkbgeggflhfleaaGreatDoor
