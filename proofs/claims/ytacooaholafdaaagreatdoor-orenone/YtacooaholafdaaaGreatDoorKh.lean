/-
  The law OreNone of layer 8 answers true, in whatever memory, and leaves what was there.
-/
import Derived.Test.YtacooaholafdaaaGreatDoorG9
import Derived.Test.YtacooaholafdaaaGreatDoorProg
namespace Go.Proofs.YtacooaholafdaaaGreatDoor
open Go.RowKit
theorem nong8 : Ev.NoNG Tryz.prog := Ev.nong_of (by kernel_rfl)
theorem OreNone_walk (w : World) : Calls Tryz.prog 3 #[] w fun r w' => r = .returned (.bool true) ∧ Below w.heap.size w w' :=
  Ev.closed_call nong8 (by kernel_rfl) (n := 100000) (by kernel_rfl) w
end Go.Proofs.YtacooaholafdaaaGreatDoor
