/-
  Owned rows are read.
-/
import Derived.Test.YtkbgeggflhfleaaGreatDoorMm
import Derived.Test.YtkbgeggflhfleaaGreatDoorWlBxBbCvNj
import Derived.Test.YtkbgeggflhfleaaGreatDoorWhPn
import Derived.Test.YtkbgeggflhfleaaGreatDoorProg
import Derived.Shelf.Small.Bits
import Derived.Test.YtkbgeggflhfleaaGreatDoorNi
namespace Go.Proofs.YtkbgeggflhfleaaGreatDoor
open Go.RowKit
set_option linter.unusedVariables false
set_option linter.unusedSimpArgs false
set_option maxHeartbeats 8000000
def pd (k : Nat) : Int := 65536 ^ k
open Go.Shelf
end Go.Proofs.YtkbgeggflhfleaaGreatDoor
