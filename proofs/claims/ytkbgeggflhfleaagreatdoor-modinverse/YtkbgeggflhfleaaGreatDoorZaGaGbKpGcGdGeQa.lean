/-
  Plain facts on rationals: lowest terms.
-/
import Derived.Test.YtkbgeggflhfleaaGreatDoorPl
import Derived.Test.YtkbgeggflhfleaaGreatDoorWhPn
import Derived.Lib.EndianBits
import Derived.Test.YtkbgeggflhfleaaGreatDoorMm
import Derived.Test.YtkbgeggflhfleaaGreatDoorWk
import Derived.Test.YtkbgeggflhfleaaGreatDoorIbWgUeUf
import Derived.Test.YtkbgeggflhfleaaGreatDoorWlBxBbCvNj
import Derived.Test.YtkbgeggflhfleaaGreatDoorWaWb
namespace Go.Proofs.YtkbgeggflhfleaaGreatDoor
open Go.RowKit
set_option linter.unusedVariables false
set_option linter.unusedSimpArgs false
set_option maxHeartbeats 8000000
def Good (a b aa ab ba bb : Int) : Prop :=
  -1073741824 < aa ∧ aa < 1073741824 ∧ -1073741824 < ab ∧ ab < 1073741824 ∧ -1073741824 < ba ∧ ba < 1073741824 ∧ -1073741824 < bb ∧ bb < 1073741824 ∧ 0 ≤ ba * a + bb * b ∧ ba * a + bb * b < aa * a + ab * b ∧ aa * a + ab * b ≤ b ∧ Int.gcd (aa * a + ab * b) (ba * a + bb * b) = Int.gcd a b
end Go.Proofs.YtkbgeggflhfleaaGreatDoor
