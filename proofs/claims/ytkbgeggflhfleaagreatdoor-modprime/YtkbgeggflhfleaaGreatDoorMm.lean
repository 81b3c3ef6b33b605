/-
  How slices of integers lie in memory: what is read, what is owned whole.
-/
import Derived.Test.YtkbgeggflhfleaaGreatDoorPl
import Derived.Deep.QuietTactic
import Derived.BigQuiet
import Derived.Laws.CopyOwn
import Derived.Deep.AppendLies
import Derived.Deep.RegionHeld3
import Derived.Deep.MidRow
import Derived.Deep.WholeRow
namespace Go.Proofs.YtkbgeggflhfleaaGreatDoor
open Go.RowKit
set_option linter.unusedVariables false
set_option linter.unusedSimpArgs false

def Rd (w : World) (p : Option Addr) (k : IntKind) (xs : List Int) : Prop :=
  0 < xs.length → ∃ b off, p = some ⟨b, off, none⟩ ∧ ∀ j, j < xs.length → w.cell? ⟨b, off + j, none⟩ = some (.int k (gx xs j))

def ca (k : IntKind) (xs : List Int) : Array Value := (xs.map (Value.int k)).toArray

def Row (w : World) (g : Nat) (e : TypeId) (k : IntKind) (xs : List Int) : Prop := w.heap[g]? = some (.cells (ca k xs) e (0, 0))

def From (B : Nat) (p : Option Addr) : Prop := ∀ a, p = some a → B ≤ a.block

section
variable {w w' : World} {g : Nat} {e : TypeId} {k : IntKind} {xs : List Int} {p : Option Addr}

theorem Row.cell (h : Row w g e k xs) (j : Nat) (hj : j < xs.length) : w.cell? ⟨g, j, none⟩ = some (.int k (gx xs j)) := by
  rw [cell_of_row w g j _ e (0, 0) h, gx_mem xs j hj]; simp [ca, hj]
theorem Row.frozen (h : Row w g e k xs) (j : Nat) : w.frozen? ⟨g, j, none⟩ = false := frozen_of_row w g j _ e h
theorem Row.rd (h : Row w g e k xs) (o n : Nat) (hn : o + n ≤ xs.length) : Rd w (some ⟨g, o, none⟩) k ((xs.drop o).take n) := fun _ =>
  ⟨g, o, rfl, fun j hj => by
    have hj' : j < n := by simp at hj; omega
    rw [gx_take _ _ _ hj', gx_drop]
    exact h.cell (o + j) (by omega)⟩
theorem Rd.take (h : Rd w p k xs) (n : Nat) : Rd w p k (xs.take n) := fun hx => by
  obtain ⟨b, off, hp, hc⟩ := h (by simp at hx; omega)
  refine ⟨b, off, hp, fun j hj => ?_⟩
  have : j < n ∧ j < xs.length := by simp at hj; omega
  rw [gx_take _ _ _ this.1]; exact hc j this.2
end

def Fz (w : World) (p : Option Addr) : Prop := ∀ a, p = some a → a.block < w.heap.size ∧ ∀ j, w.frozen? ⟨a.block, j, none⟩ = false
def zeros (n : Nat) : List Int := List.replicate n 0
end Go.Proofs.YtkbgeggflhfleaaGreatDoor
