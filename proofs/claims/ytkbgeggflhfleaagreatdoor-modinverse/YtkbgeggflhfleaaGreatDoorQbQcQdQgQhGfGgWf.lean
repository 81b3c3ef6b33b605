/-
  limbs.guess.
-/
import Derived.Test.YtkbgeggflhfleaaGreatDoorWhPn
import Derived.Test.YtkbgeggflhfleaaGreatDoorWaWb
import Derived.Deep.DeepCutAuto
import Derived.Test.YtkbgeggflhfleaaGreatDoorZaGaGbKpGcGdGeQa
import Derived.Test.YtkbgeggflhfleaaGreatDoorWc
import Derived.Lib.EndianBits
import Derived.Test.YtkbgeggflhfleaaGreatDoorIbWgUeUf
import Derived.Test.YtkbgeggflhfleaaGreatDoorWlBxBbCvNj
import Derived.Test.YtkbgeggflhfleaaGreatDoorOwRaWmBeRdLnWr
import Derived.Test.YtkbgeggflhfleaaGreatDoorNi
namespace Go.Proofs.YtkbgeggflhfleaaGreatDoor
open Go.RowKit
set_option linter.unusedVariables false
set_option linter.unusedSimpArgs false
set_option maxHeartbeats 8000000
structure Hd (P lu lv u0 u1 u2 nx hd U V : Int) : Prop where
  p : 0 < P
  lu0 : 0 ≤ lu
  lu1 : lu < P
  lv0 : 0 ≤ lv
  lv1 : lv < P
  a0 : 0 ≤ u0 ∧ u0 < 4294967296
  a1 : 0 ≤ u1 ∧ u1 < 4294967296
  a2 : 0 ≤ u2 ∧ u2 < 4294967296
  b0 : 0 ≤ nx ∧ nx < 4294967296
  b1 : 1 ≤ hd ∧ hd < 4294967296
  u : U = lu + P * (u0 + 4294967296 * (u1 + 4294967296 * u2))
  v : V = lv + P * (nx + 4294967296 * hd)
end Go.Proofs.YtkbgeggflhfleaaGreatDoor
