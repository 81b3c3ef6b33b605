/-
  Rationals as the program hands them about; rat.zero, upright.
-/
import Derived.Test.YtkbgeggflhfleaaGreatDoorZaGaGbKpGcGdGeQa
import Derived.Test.YtkbgeggflhfleaaGreatDoorQbQcQdQgQhGfGgWf
import Derived.Test.YtkbgeggflhfleaaGreatDoorWhPn
import Derived.Test.YtkbgeggflhfleaaGreatDoorWk
import Derived.Test.YtkbgeggflhfleaaGreatDoorWlBxBbCvNj
namespace Go.Proofs.YtkbgeggflhfleaaGreatDoor
open Go.RowKit
set_option linter.unusedVariables false
set_option linter.unusedSimpArgs false
set_option maxHeartbeats 8000000
structure Bq (w : World) (r : Nat) (a0 a1 a2 a3 : Value) : Prop where
  c0 : w.cell? ⟨r, 0, none⟩ = some a0
  c1 : w.cell? ⟨r, 1, none⟩ = some a1
  c2 : w.cell? ⟨r, 2, none⟩ = some a2
  c3 : w.cell? ⟨r, 3, none⟩ = some a3
  f0 : w.frozen? ⟨r, 0, none⟩ = false
  f1 : w.frozen? ⟨r, 1, none⟩ = false
  f2 : w.frozen? ⟨r, 2, none⟩ = false
  f3 : w.frozen? ⟨r, 3, none⟩ = false
theorem Bq.lt {w : World} {r : Nat} {a0 a1 a2 a3 : Value} (h : Bq w r a0 a1 a2 a3) : r < w.heap.size := block_lt_of_cell h.c0
theorem Bq.later {w w' : World} {r : Nat} {a0 a1 a2 a3 : Value} (h : Bq w r a0 a1 a2 a3) (hb : Below w.heap.size w w') : Bq w' r a0 a1 a2 a3 := by
  have hr := h.lt
  exact ⟨cell_later hb h.c0, cell_later hb h.c1, cell_later hb h.c2, cell_later hb h.c3, by rw [hb.frozen (p := ⟨r, 0, none⟩) hr]; exact h.f0, by rw [hb.frozen (p := ⟨r, 1, none⟩) hr]; exact h.f1, by rw [hb.frozen (p := ⟨r, 2, none⟩) hr]; exact h.f2, by rw [hb.frozen (p := ⟨r, 3, none⟩) hr]; exact h.f3⟩
theorem Bq.new {w : World} {r : Nat} (a0 a1 a2 a3 : Value) (t : Nat) (hr : r = w.heap.size) : Bq (w.alloc (.cells #[a0, a1, a2, a3] t)) r a0 a1 a2 a3 := by
  subst hr
  refine ⟨?_, ?_, ?_, ?_, ?_, ?_, ?_, ?_⟩ <;> simp [go_sem, World.cell?_alloc_past, World.frozen?_alloc_past]
end Go.Proofs.YtkbgeggflhfleaaGreatDoor
