/-
  The set-up of layer 3's laws answers true, in whatever memory, and leaves what was there.
-/
import Derived.Test.YtebdbfbicbndlaaGreatDoorG9
import Derived.Test.YtebdbfbicbndlaaGreatDoorProg
namespace Go.Proofs.YtebdbfbicbndlaaGreatDoor
open Go.RowKit
theorem nong3 : Ev.NoNG Tryz.prog := Ev.nong_of (by kernel_rfl)
theorem begun3_any (w : World) : Calls Tryz.prog 4 #[] w fun r w' => r = .returned (.bool true) ∧ Below w.heap.size w w' :=
  Ev.closed_call nong3 (by kernel_rfl) (n := 100000) (by kernel_rfl) w
end Go.Proofs.YtebdbfbicbndlaaGreatDoor
