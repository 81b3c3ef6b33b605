/-
  What a function leaves that writes into two rows.
-/
import Derived.Test.YtcdfckjlmifjiaaMm
namespace Go.Proofs.Ytcdfckjlmifjiaa
open Go.RowKit
set_option linter.unusedVariables false
set_option linter.unusedSimpArgs false

/-- All but the blocks g and h is as it was. -/
structure Kp (g h : Nat) (w w' : World) : Prop where
  block : ∀ k, k < w.heap.size → k ≠ g → k ≠ h → w'.heap[k]? = w.heap[k]?
  os : w'.os = w.os
  tape : w'.tape = w.tape
  output : w'.output = w.output
  size : w.heap.size ≤ w'.heap.size
theorem Kp.refl (g h : Nat) (w : World) : Kp g h w w := ⟨fun _ _ _ _ => rfl, rfl, rfl, rfl, Nat.le_refl _⟩
theorem Kp.grown {g h x : Nat} {w w1 w2 : World} (k : Kp g h w w1) (hg : w1.grownBy w2 (some x)) (hx : x = g ∨ x = h) : Kp g h w w2 :=
  ⟨fun i hi a b => (hg.block i (Nat.lt_of_lt_of_le hi k.size) (fun e => by cases e; rcases hx with rfl | rfl <;> contradiction)).trans (k.block i hi a b), hg.os.trans k.os, hg.tape.trans k.tape, hg.output.trans k.output, Nat.le_trans k.size hg.size⟩
end Go.Proofs.Ytcdfckjlmifjiaa
