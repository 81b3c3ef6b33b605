/-
  Lists of numbers in memory: slices whose elements have two cells.
-/
import Derived.Test.YtkbgeggflhfleaaGreatDoorNi
namespace Go.Proofs.YtkbgeggflhfleaaGreatDoor
open Go.RowKit
set_option linter.unusedVariables false
set_option linter.unusedSimpArgs false

structure Ent where
  s : Bool
  p : Option Addr
  n : Nat
  c : Nat
def ez : Ent := ⟨false, none, 0, 0⟩
def ge (es : List Ent) (i : Nat) : Ent := (es[i]?).getD ez
theorem ge_take (es : List Ent) (n i : Nat) (h : i < n) : ge (es.take n) i = ge es i := by simp [ge, List.getElem?_take, h]
def PL (w : World) (p : Option Addr) (es : List Ent) : Prop :=
  0 < es.length → ∃ b o, p = some ⟨b, o, none⟩ ∧ ∀ j, j < es.length → w.cell? ⟨b, o + j * 2, none⟩ = some (.bool (ge es j).s) ∧ w.cell? ⟨b, o + j * 2 + 1, none⟩ = some (.slice (ge es j).p (ge es j).n (ge es j).c)
def ca2 (es : List Ent) : Array Value := (es.flatMap fun e => [.bool e.s, .slice e.p e.n e.c]).toArray
def Row2 (w : World) (g : Nat) (t : TypeId) (es : List Ent) : Prop := w.heap[g]? = some (.cells (ca2 es) t (0, 0))
theorem flat_get (es : List Ent) : ∀ j, j < es.length → (es.flatMap fun e => [Value.bool e.s, .slice e.p e.n e.c])[j * 2]? = some (.bool (ge es j).s) ∧ (es.flatMap fun e => [Value.bool e.s, .slice e.p e.n e.c])[j * 2 + 1]? = some (.slice (ge es j).p (ge es j).n (ge es j).c) := by
  induction es with
  | nil => intro j hj; simp at hj
  | cons e r ih =>
    intro j hj
    cases j with
    | zero => exact ⟨rfl, rfl⟩
    | succ j =>
      have h := ih j (by simpa using hj)
      have e1 : (j + 1) * 2 = j * 2 + 1 + 1 := by omega
      have e2 : (j + 1) * 2 + 1 = j * 2 + 1 + 1 + 1 := by omega
      have e3 : ge (e :: r) (j + 1) = ge r j := by simp [ge]
      rw [e1, e3]
      simp only [List.flatMap_cons, List.cons_append, List.nil_append, List.getElem?_cons_succ]
      exact h
section
variable {w w' : World} {g : Nat} {t : TypeId} {es : List Ent} {p : Option Addr}
theorem Row2.cell (h : Row2 w g t es) (j : Nat) (hj : j < es.length) : w.cell? ⟨g, j * 2, none⟩ = some (.bool (ge es j).s) ∧ w.cell? ⟨g, j * 2 + 1, none⟩ = some (.slice (ge es j).p (ge es j).n (ge es j).c) := by
  obtain ⟨h1, h2⟩ := flat_get es j hj
  rw [cell_of_row w g (j * 2) _ t (0, 0) h, cell_of_row w g (j * 2 + 1) _ t (0, 0) h]
  simp only [ca2, List.getElem?_toArray]
  exact ⟨h1, h2⟩
theorem Row2.pl (h : Row2 w g t es) : PL w (some ⟨g, 0, none⟩) es := fun _ => ⟨g, 0, rfl, fun j hj => by
  simp only [Nat.zero_add]; exact h.cell j hj⟩
theorem PL.take (h : PL w p es) (n : Nat) : PL w p (es.take n) := fun hx => by
  obtain ⟨b, o, hp, hc⟩ := h (by simp at hx; omega)
  refine ⟨b, o, hp, fun j hj => ?_⟩
  have : j < n ∧ j < es.length := by simp at hj; omega
  rw [ge_take _ _ _ this.1]; exact hc j this.2
end
def EV (w : World) (K : Nat) (z : Int) (e : Ent) : Prop := ∃ xs, AI w e.p e.n e.c xs ∧ ival e.s xs = z ∧ e.n ≤ K
structure PA (w : World) (K : Nat) (p : Option Addr) (n nc : Nat) (es : List Ent) (zs : List Int) : Prop where
  el : es.length = n
  zl : zs.length = n
  cap : n ≤ nc
  bnd : nc ≤ maxLen
  pn : p = none → nc = 0
  pl : PL w p es
  ev : ∀ j, j < n → EV w K (gx zs j) (ge es j)
section
variable {w w' : World} {K : Nat} {z : Int} {e : Ent} {p : Option Addr} {n nc : Nat} {es : List Ent} {zs : List Int}
theorem EV.below (h : EV w K z e) (hb : Below w.heap.size w w') : EV w' K z e := by
  obtain ⟨xs, h1, h2⟩ := h
  exact ⟨xs, h1.below hb, h2⟩
theorem PA.take (h : PA w K p n nc es zs) (m : Nat) (hm : m ≤ n) : PA w K p m nc (es.take m) (zs.take m) :=
  ⟨by have := h.el; simp; omega, by have := h.zl; simp; omega, by have := h.cap; omega, h.bnd, h.pn, h.pl.take m, fun j hj => by rw [gx_take _ _ _ hj, ge_take _ _ _ hj]; exact h.ev j (by omega)⟩
end
end Go.Proofs.YtkbgeggflhfleaaGreatDoor
