/-
  Numbers as the program hands them about: a sign and limbs.
-/
import Derived.Test.YtkbgeggflhfleaaGreatDoorWdWe
namespace Go.Proofs.YtkbgeggflhfleaaGreatDoor
open Go.RowKit
set_option linter.unusedVariables false
set_option linter.unusedSimpArgs false
set_option maxHeartbeats 8000000
def ival (s : Bool) (xs : List Int) : Int := if s then - val xs else val xs
structure AI (w : World) (p : Option Addr) (n nc : Nat) (xs : List Int) : Prop where
  len : xs.length = n
  cap : n ≤ nc
  bnd : nc ≤ maxLen
  sml : n ≤ 100000000
  rd : Rd w p .u32 xs
  u : U32 xs
structure NI (B : Nat) (w : World) (s : Bool) (p : Option Addr) (n : Nat) (xs : List Int) (z : Int) : Prop where
  len : xs.length = n
  rd : Rd w p .u32 xs
  u : U32 xs
  nrm : tlen xs = n
  sg : n = 0 → s = false
  pn : n = 0 → p = none
  v : ival s xs = z
  fr : From B p
  fz : Fz w p
theorem AI.below {w w' : World} {p : Option Addr} {n nc : Nat} {xs : List Int} (h : AI w p n nc xs) (hb : Below w.heap.size w w') : AI w' p n nc xs := ⟨h.len, h.cap, h.bnd, h.sml, h.rd.below hb, h.u⟩
theorem NI.below {B : Nat} {w w' : World} {s : Bool} {p : Option Addr} {n : Nat} {xs : List Int} {z : Int} (h : NI B w s p n xs z) (hb : Below w.heap.size w w') : NI B w' s p n xs z :=
  ⟨h.len, h.rd.below hb, h.u, h.nrm, h.sg, h.pn, h.v, h.fr, h.fz.below hb⟩
theorem NI.mono {B B' : Nat} {w : World} {s : Bool} {p : Option Addr} {n : Nat} {xs : List Int} {z : Int} (h : NI B w s p n xs z) (hB : B' ≤ B) : NI B' w s p n xs z :=
  ⟨h.len, h.rd, h.u, h.nrm, h.sg, h.pn, h.v, fun a ha => Nat.le_trans hB (h.fr a ha), h.fz⟩
theorem NI.ai {B : Nat} {w : World} {s : Bool} {p : Option Addr} {n : Nat} {xs : List Int} {z : Int} (h : NI B w s p n xs z) (hn : n ≤ 100000000) : AI w p n n xs :=
  ⟨h.len, Nat.le_refl _, by unfold maxLen; omega, hn, h.rd, h.u⟩
theorem ival_tr (s : Bool) (xs : List Int) : ival s (tr xs) = ival s xs := by simp only [ival, val_tr]
theorem ni_number {B : Nat} {w : World} {q : Option Addr} {xs : List Int} (neg : Bool) (hX : Rd w q .u32 xs) (hU : U32 xs) (hf : From B q) (hz : Fz w q) : NI B w (nsg neg xs) (nad q xs) (tlen xs) (tr xs) (ival neg xs) := by
  refine ⟨length_tr xs, ?_, u32_tr hU, tlen_tr xs, fun h => by rw [nsg, if_pos h], fun h => by rw [nad, if_pos h], ?_, ?_, ?_⟩
  · intro h
    rw [length_tr] at h
    rw [nad, if_neg (by omega)]
    exact hX.tr (by rw [length_tr]; exact h)
  · rw [ival_tr, nsg]
    split
    · rename_i h
      have := (tlen_zero_iff hU).1 h
      simp [ival, this]
    · rfl
  · rw [nad]
    split
    · intro a ha; cases ha
    · exact hf
  · rw [nad]
    split
    · exact Fz.nil _
    · exact hz
theorem Row.new1 (w : World) (a : Obj) (e : TypeId) (k : IntKind) (xs : List Int) : Row ((w.alloc a).alloc (.cells (ca k xs) e)) (w.heap.size + 1) e k xs := by
  have := Row.new (w.alloc a) e k xs
  rwa [World.size_alloc] at this
theorem NI.set {B : Nat} {w : World} {s : Bool} {p : Option Addr} {n : Nat} {xs : List Int} {z : Int} (h : NI B w s p n xs z) {a : Addr} (ha : a.block < B) (v : Value) : NI B (w.setCell a v) s p n xs z :=
  ⟨h.len, h.rd.set_other a v (fun b hb e => by have := h.fr b hb; omega), h.u, h.nrm, h.sg, h.pn, h.v, h.fr, h.fz.set a v⟩
theorem from_new {B b o : Nat} (h : B ≤ b) : From B (some ⟨b, o, none⟩) := fun a ha => by cases ha; exact h
theorem resbox {W w1 : World} {r : Nat} {u v : Value} (hb : Below W.heap.size W w1) (h0 : W.cell? ⟨r, 0, none⟩ = some u) (h1 : W.cell? ⟨r, 1, none⟩ = some v) (f0 : W.frozen? ⟨r, 0, none⟩ = false) (f1 : W.frozen? ⟨r, 1, none⟩ = false) :
    w1.cell? ⟨r, 0, none⟩ = some u ∧ w1.cell? ⟨r, 1, none⟩ = some v ∧ w1.frozen? ⟨r, 0, none⟩ = false ∧ w1.frozen? ⟨r, 1, none⟩ = false := by
  have hr : r < W.heap.size := block_lt_of_cell h0
  exact ⟨cell_later hb h0, cell_later hb h1, by rw [hb.frozen (p := ⟨r, 0, none⟩) hr]; exact f0, by rw [hb.frozen (p := ⟨r, 1, none⟩) hr]; exact f1⟩
end Go.Proofs.YtkbgeggflhfleaaGreatDoor
