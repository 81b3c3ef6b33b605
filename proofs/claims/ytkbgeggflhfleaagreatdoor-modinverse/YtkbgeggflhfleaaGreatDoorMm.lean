/-
  How slices of integers lie in memory: what is read, what is owned whole.
-/
import Derived.Test.YtkbgeggflhfleaaGreatDoorPl
import Derived.Deep.QuietTactic
import Derived.BigQuiet
import Derived.Laws.CopyOwn
import Derived.Deep.AppendLies
import Derived.Deep.RegionHeld3
import Derived.Deep.MidRow
import Derived.Deep.WholeRow
namespace Go.Proofs.YtkbgeggflhfleaaGreatDoor
open Go.RowKit
set_option linter.unusedVariables false
set_option linter.unusedSimpArgs false

def Rd (w : World) (p : Option Addr) (k : IntKind) (xs : List Int) : Prop :=
  0 < xs.length → ∃ b off, p = some ⟨b, off, none⟩ ∧ ∀ j, j < xs.length → w.cell? ⟨b, off + j, none⟩ = some (.int k (gx xs j))

def ca (k : IntKind) (xs : List Int) : Array Value := (xs.map (Value.int k)).toArray

def Row (w : World) (g : Nat) (e : TypeId) (k : IntKind) (xs : List Int) : Prop := w.heap[g]? = some (.cells (ca k xs) e (0, 0))

def From (B : Nat) (p : Option Addr) : Prop := ∀ a, p = some a → B ≤ a.block

def Off (g : Nat) (p : Option Addr) : Prop := ∀ a, p = some a → a.block ≠ g

section
variable {w w' : World} {g : Nat} {e : TypeId} {k : IntKind} {xs : List Int} {p : Option Addr}

theorem Row.lt (h : Row w g e k xs) : g < w.heap.size := (Array.getElem?_eq_some_iff.1 h).1
theorem Row.cell (h : Row w g e k xs) (j : Nat) (hj : j < xs.length) : w.cell? ⟨g, j, none⟩ = some (.int k (gx xs j)) := by
  rw [cell_of_row w g j _ e (0, 0) h, gx_mem xs j hj]; simp [ca, hj]
theorem Row.frozen (h : Row w g e k xs) (j : Nat) : w.frozen? ⟨g, j, none⟩ = false := frozen_of_row w g j _ e h
theorem Row.new (w : World) (e : TypeId) (k : IntKind) (xs : List Int) : Row (w.alloc (.cells (ca k xs) e)) w.heap.size e k xs := heap_alloc_new w _
theorem Row.rd_all (h : Row w g e k xs) : Rd w (some ⟨g, 0, none⟩) k xs := fun _ => ⟨g, 0, rfl, fun j hj => by rw [Nat.zero_add]; exact h.cell j hj⟩
theorem Row.rd_take (h : Row w g e k xs) (n : Nat) : Rd w (some ⟨g, 0, none⟩) k (xs.take n) := fun _ => ⟨g, 0, rfl, fun j hj => by
  have : j < n ∧ j < xs.length := by simp at hj; omega
  rw [Nat.zero_add, gx_take _ _ _ this.1]; exact h.cell j this.2⟩

theorem Rd.same (h : Rd w p k xs) (hs : ∀ a, p = some a → a.block < w.heap.size → w'.heap[a.block]? = w.heap[a.block]?) : Rd w' p k xs := fun hx => by
  obtain ⟨b, off, hp, hc⟩ := h hx
  refine ⟨b, off, hp, fun j hj => ?_⟩
  have hlt : b < w.heap.size := block_lt_of_cell (hc 0 hx)
  rw [← hc j hj]
  exact World.cell?_of_block (a := ⟨b, off + j, none⟩) (hs ⟨b, off, none⟩ hp hlt)
theorem Rd.below (h : Rd w p k xs) (hb : Below w.heap.size w w') : Rd w' p k xs := h.same fun a _ hlt => hb.block a.block hlt
theorem Rd.alloc (h : Rd w p k xs) (o : Obj) : Rd (w.alloc o) p k xs := h.same fun a _ hlt => Below.heap_alloc w o a.block hlt
theorem Rd.set_other (h : Rd w p k xs) (a : Addr) (v : Value) (hne : Off a.block p) : Rd (w.setCell a v) p k xs := h.same fun b hb _ => heap_setCell_other w a b.block v (hne b hb)
theorem Rd.take (h : Rd w p k xs) (n : Nat) : Rd w p k (xs.take n) := fun hx => by
  obtain ⟨b, off, hp, hc⟩ := h (by simp at hx; omega)
  refine ⟨b, off, hp, fun j hj => ?_⟩
  have : j < n ∧ j < xs.length := by simp at hj; omega
  rw [gx_take _ _ _ this.1]; exact hc j this.2
theorem Rd.tr (h : Rd w p k xs) : Rd w p k (tr xs) := h.take _
end

def Fz (w : World) (p : Option Addr) : Prop := ∀ a, p = some a → a.block < w.heap.size ∧ ∀ j, w.frozen? ⟨a.block, j, none⟩ = false
theorem Row.fz {w : World} {g : Nat} {e : TypeId} {k : IntKind} {xs : List Int} (h : Row w g e k xs) (o : Nat) : Fz w (some ⟨g, o, none⟩) := fun a ha => by cases ha; exact ⟨h.lt, h.frozen⟩
theorem Fz.nil (w : World) : Fz w none := fun a ha => by cases ha
theorem Fz.below {w w' : World} {p : Option Addr} (h : Fz w p) (hb : Below w.heap.size w w') : Fz w' p := fun a ha => ⟨Nat.lt_of_lt_of_le (h a ha).1 hb.size, fun j => (hb.frozen (p := ⟨a.block, j, none⟩) (h a ha).1).trans ((h a ha).2 j)⟩
theorem Fz.set {w : World} {p : Option Addr} (h : Fz w p) (b : Addr) (v : Value) : Fz (w.setCell b v) p := fun a ha => ⟨by simpa [World.setCell] using (h a ha).1, fun j => by rw [World.frozen?_setCell]; exact (h a ha).2 j⟩
def zeros (n : Nat) : List Int := List.replicate n 0
end Go.Proofs.YtkbgeggflhfleaaGreatDoor
