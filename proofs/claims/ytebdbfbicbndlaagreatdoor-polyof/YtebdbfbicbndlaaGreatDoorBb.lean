/-
  Numbers and boxes, carried on: small rules.
-/
import Derived.Test.YtebdbfbicbndlaaGreatDoorBx
import Derived.Deep.DeepCutAuto
namespace Go.Proofs.YtebdbfbicbndlaaGreatDoor
open Go.RowKit
set_option linter.unusedVariables false
set_option linter.unusedSimpArgs false

theorem NI.hai {B : Nat} {w : World} {s : Bool} {p : Option Addr} {n : Nat} {xs : List Int} {z : Int} (h : NI B w s p n xs z) (hn : n ≤ 100) : AI w p n n xs := h.ai (by omega)

/-- What a callee leaves, as rules for the walk. -/
theorem bcell {W w1 : World} (hb : Below W.heap.size W w1) : (∀ b o, b < W.heap.size → w1.cell? ⟨b, o, none⟩ = W.cell? ⟨b, o, none⟩) ∧ (∀ b o, b < W.heap.size → w1.frozen? ⟨b, o, none⟩ = W.frozen? ⟨b, o, none⟩) :=
  ⟨fun b o h => hb.cell (p := ⟨b, o, none⟩) h, fun b o h => hb.frozen (p := ⟨b, o, none⟩) h⟩

/-- The same, with what it says of sizes. -/
theorem brules {X w3 : World} (hb : Below X.heap.size X w3) : (∀ b o, b < X.heap.size → w3.cell? ⟨b, o, none⟩ = X.cell? ⟨b, o, none⟩) ∧ (∀ b o, b < X.heap.size → w3.frozen? ⟨b, o, none⟩ = X.frozen? ⟨b, o, none⟩) ∧
    (∀ r, r < X.heap.size → r < w3.heap.size) ∧ (∀ r, r < X.heap.size → r ≤ w3.heap.size) ∧ (∀ r, r < X.heap.size → r ≤ w3.heap.size + 1) :=
  ⟨(bcell hb).1, (bcell hb).2, fun r h => Nat.lt_of_lt_of_le h hb.size, fun r h => Nat.le_of_lt (Nat.lt_of_lt_of_le h hb.size), fun r h => by have := hb.size; omega⟩

theorem bne {X w3 : World} (hb : Below X.heap.size X w3) : (∀ r, r < X.heap.size → r ≠ w3.heap.size) ∧ (∀ r, r < X.heap.size → w3.heap.size ≠ r) ∧ (∀ r, r < X.heap.size → r ≠ w3.heap.size + 1) ∧ (∀ r, r < X.heap.size → w3.heap.size + 1 ≠ r) := by
  have := hb.size
  exact ⟨fun r h => by omega, fun r h => by omega, fun r h => by omega, fun r h => by omega⟩
theorem bel_al {w x : World} {o : Obj} (h : Below w.heap.size w x) : Below w.heap.size w (x.alloc o) := h.alloc h.size o
theorem comp {X2 w2 X3 w3 : World} (h2 : Below X2.heap.size X2 w2) (hX : Below w2.heap.size w2 X3) (h3 : Below X3.heap.size X3 w3) : Below X2.heap.size X2 w3 :=
  (h2.trans (hX.mono h2.size)).trans (h3.mono (Nat.le_trans h2.size hX.size))

theorem NI_al {B : Nat} {w : World} {s : Bool} {p : Option Addr} {n : Nat} {xs : List Int} {z : Int} {o : Obj} (h : NI B w s p n xs z) : NI B (w.alloc o) s p n xs z := h.below ((Below.refl _ _).alloc (Nat.le_refl _) o)
theorem NI_st {B : Nat} {w : World} {s : Bool} {p : Option Addr} {n : Nat} {xs : List Int} {z : Int} {a : Addr} {v : Value} (h : NI B w s p n xs z) (ha : a.block < B) : NI B (w.setCell a v) s p n xs z := h.set ha v
theorem NI_st2 {B U : Nat} {w : World} {s : Bool} {p : Option Addr} {n : Nat} {xs : List Int} {z : Int} {a : Addr} {v : Value} (hU : ∀ x, p = some x → x.block < U) (ha : U ≤ a.block) (h : NI B w s p n xs z) : NI B (w.setCell a v) s p n xs z :=
  ⟨h.len, h.rd.set_other a v (fun b hb e => by have := hU b hb; omega), h.u, h.nrm, h.sg, h.pn, h.v, h.fr, h.fz.set a v⟩
theorem NI_st3 {B F : Nat} {w : World} {s : Bool} {p : Option Addr} {n : Nat} {xs : List Int} {z : Int} {a : Addr} {v : Value} (hF : From F p) (ha : a.block < F) (h : NI B w s p n xs z) : NI B (w.setCell a v) s p n xs z :=
  ⟨h.len, h.rd.set_other a v (fun b hb e => by have := hF b hb; omega), h.u, h.nrm, h.sg, h.pn, h.v, h.fr, h.fz.set a v⟩
theorem NI.lt {B : Nat} {w : World} {s : Bool} {p : Option Addr} {n : Nat} {xs : List Int} {z : Int} (h : NI B w s p n xs z) : ∀ x, p = some x → x.block < w.heap.size := fun x hx => by
  rcases Nat.eq_zero_or_pos n with h0 | h0
  · rw [h.pn h0] at hx; cases hx
  · obtain ⟨b, off, hp, hlt⟩ := h.rd.lt (by rw [h.len]; exact h0)
    rw [hp] at hx; cases hx; exact hlt
theorem Bx_al {w : World} {r : Nat} {u v : Value} {o : Obj} (h : Bx w r u v) : Bx (w.alloc o) r u v := h.alloc o
theorem Bx_new {w : World} {r t : Nat} {u v : Value} (h : r = w.heap.size) : Bx (w.alloc (.cells #[u, v] t)) r u v := Bx.new u v t h
theorem Bx_set {w : World} {g : Nat} {u v x y : Value} (h : Bx w g u v) : Bx ((w.setCell ⟨g, 0, none⟩ x).setCell ⟨g, 1, none⟩ y) g x y := by
  have h1 : (w.setCell ⟨g, 0, none⟩ x).cell? ⟨g, 1, none⟩ = some v := by rw [World.cell?_setCell_other _ _ _ _ (by simp)]; exact h.c1
  refine ⟨?_, World.cell?_setCell_same _ _ _ h1, ?_, ?_⟩
  · rw [World.cell?_setCell_other _ _ _ _ (by simp)]; exact World.cell?_setCell_same _ _ _ h.c0
  · rw [World.frozen?_setCell, World.frozen?_setCell]; exact h.f0
  · rw [World.frozen?_setCell, World.frozen?_setCell]; exact h.f1
theorem Bx_oth {w : World} {r g : Nat} {u v x y : Value} (h : Bx w r u v) (hne : r ≠ g) : Bx ((w.setCell ⟨g, 0, none⟩ x).setCell ⟨g, 1, none⟩ y) r u v := by
  have e : ((w.setCell ⟨g, 0, none⟩ x).setCell ⟨g, 1, none⟩ y).heap[r]? = w.heap[r]? := (heap_setCell_other _ _ r y hne).trans (heap_setCell_other _ _ r x hne)
  exact ⟨(World.cell?_of_block (a := ⟨r, 0, none⟩) e).trans h.c0, (World.cell?_of_block (a := ⟨r, 1, none⟩) e).trans h.c1, (World.frozen?_of_block (a := ⟨r, 0, none⟩) e).trans h.f0, (World.frozen?_of_block (a := ⟨r, 1, none⟩) e).trans h.f1⟩
theorem Bel_al {B : Nat} {w x : World} {o : Obj} (h : Below B w x) (hB : B ≤ w.heap.size) : Below B w (x.alloc o) := h.alloc (Nat.le_trans hB h.size) o
theorem Bel_st {B : Nat} {w x : World} {a : Addr} {v : Value} (h : Below B w x) (ha : B ≤ a.block) : Below B w (x.setCell a v) := h.setCell ha v
end Go.Proofs.YtebdbfbicbndlaaGreatDoor
