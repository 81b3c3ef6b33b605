/-
  The set-up of layer 9's laws answers true, in whatever memory, and leaves what was there.
-/
import Derived.Test.YtcdfckjlmifjiaaG9
import Derived.Test.YtcdfckjlmifjiaaProg
namespace Go.Proofs.Ytcdfckjlmifjiaa
open Go.RowKit
theorem nong7 : Ev.NoNG Try.prog := Ev.nong_of (by kernel_rfl)
theorem begun9_any (w : World) : Calls Try.prog 5 #[] w fun r w' => r = .returned (.bool true) ∧ Below w.heap.size w w' :=
  Ev.closed_call nong7 (by kernel_rfl) (n := 100000) (by kernel_rfl) w
end Go.Proofs.Ytcdfckjlmifjiaa
