/-
  Numbers carried on behind calls and stores.
-/
import Derived.Test.YtebdbfbicbndlaaGreatDoorBb
import Derived.Test.YtebdbfbicbndlaaGreatDoorWh
namespace Go.Proofs.YtebdbfbicbndlaaGreatDoor
open Go.RowKit
set_option linter.unusedVariables false
set_option linter.unusedSimpArgs false

theorem AI.setF {w : World} {p : Option Addr} {n nc F : Nat} {xs : List Int} (h : AI w p n nc xs) (hF : Go.Proofs.YtebdbfbicbndlaaGreatDoor.From F p) {a : Addr} (ha : a.block < F) (v : Value) : AI (w.setCell a v) p n nc xs :=
  ⟨h.len, h.cap, h.bnd, h.sml, h.rd.set_other a v (fun b hb e => by have := hF b hb; omega), h.u⟩
theorem AI.set2 {w : World} {p : Option Addr} {n nc F : Nat} {xs : List Int} (h : AI w p n nc xs) (hF : Go.Proofs.YtebdbfbicbndlaaGreatDoor.From F p) {g : Nat} (hg : g < F) (u v : Value) : AI ((w.setCell ⟨g, 0, none⟩ u).setCell ⟨g, 1, none⟩ v) p n nc xs :=
  (h.setF hF (a := ⟨g, 0, none⟩) hg u).setF hF (a := ⟨g, 1, none⟩) hg v
theorem From.mono {B F : Nat} {p : Option Addr} (h : Go.Proofs.YtebdbfbicbndlaaGreatDoor.From F p) (hB : B ≤ F) : Go.Proofs.YtebdbfbicbndlaaGreatDoor.From B p := fun a ha => Nat.le_trans hB (h a ha)
/-- One call more. -/
theorem bnext {B : Nat} {a b c : World} (h : Below B a b) (hB : B ≤ a.heap.size) (k : Below b.heap.size b c) : Below B a c := h.trans (k.mono (Nat.le_trans hB h.size))
theorem bnext' {a b c : World} (h : Below a.heap.size a b) (k : Below b.heap.size b c) : Below a.heap.size a c := bnext h (Nat.le_refl _) k
theorem bset2 {B g : Nat} {a b : World} (h : Below B a b) (hg : B ≤ g) (u v : Value) : Below B a ((b.setCell ⟨g, 0, none⟩ u).setCell ⟨g, 1, none⟩ v) := (h.setCell (p := ⟨g, 0, none⟩) hg u).setCell (p := ⟨g, 1, none⟩) hg v
theorem keepc6 {w1 w2 : World} {a b c d e f : Addr} {u v x y z t : Value} (h : w1.cell? a = some u ∧ w1.cell? b = some v ∧ w1.cell? c = some x ∧ w1.cell? d = some y ∧ w1.cell? e = some z ∧ w1.cell? f = some t) (hb : Below w1.heap.size w1 w2) :
    w2.cell? a = some u ∧ w2.cell? b = some v ∧ w2.cell? c = some x ∧ w2.cell? d = some y ∧ w2.cell? e = some z ∧ w2.cell? f = some t :=
  ⟨cell_later hb h.1, cell_later hb h.2.1, cell_later hb h.2.2.1, cell_later hb h.2.2.2.1, cell_later hb h.2.2.2.2.1, cell_later hb h.2.2.2.2.2⟩
end Go.Proofs.YtebdbfbicbndlaaGreatDoor
/-
  How long a number of a value is; numbers off a block; signs.
-/
namespace Go.Proofs.YtebdbfbicbndlaaGreatDoor
open Go.RowKit
set_option linter.unusedVariables false
set_option linter.unusedSimpArgs false

theorem NI.le {B : Nat} {w : World} {s : Bool} {p : Option Addr} {n : Nat} {xs : List Int} {z : Int} (h : NI B w s p n xs z) {k : Nat} (hz : (z.natAbs : Int) < pw k) : n ≤ k := by
  have hv : (z.natAbs : Int) = val xs := by
    have := val_nonneg h.u
    rw [← h.v, ival]
    split <;> omega
  rcases Nat.eq_zero_or_pos n with h0 | h0
  · omega
  · have h1 := val_pos_of_top h.u (by rw [h.nrm]; exact h0)
    rw [h.nrm] at h1
    have h2 : n - 1 < k := by
      rcases Nat.lt_or_ge (n - 1) k with h3 | h3
      · exact h3
      · have := pw_mono h3; omega
    omega
theorem AI.lt {w : World} {p : Option Addr} {n nc : Nat} {xs : List Int} (h : AI w p n nc xs) (s : Bool) : ((ival s xs).natAbs : Int) < pw n := by
  have h1 := val_nonneg h.u
  have h2 := val_lt_tlen h.u
  have h3 := pw_mono (tlen_le xs)
  rw [h.len] at h3
  rw [ival]
  split <;> omega
theorem off_from {B g : Nat} {p : Option Addr} (h : Go.Proofs.YtebdbfbicbndlaaGreatDoor.From B p) (hg : g < B) : Off g p := fun a ha e => by have := h a ha; omega
theorem AI.off {w : World} {p : Option Addr} {n nc : Nat} {xs : List Int} (h : AI w p n nc xs) {g : Nat} (hg : w.heap.size ≤ g) : 0 < n → Off g p := fun hn => h.rd.off hg (by rw [h.len]; exact hn)
theorem isgn_pos {z : Int} (h : 0 < z) : isgn z = 1 := by unfold isgn; rw [if_neg (by omega), if_neg (by omega)]
theorem isgn_neg {z : Int} (h : z < 0) : isgn z = -1 := by unfold isgn; rw [if_neg (by omega), if_pos h]
theorem isgn_zero {z : Int} (h : z = 0) : isgn z = 0 := by unfold isgn; rw [if_pos h]
end Go.Proofs.YtebdbfbicbndlaaGreatDoor
