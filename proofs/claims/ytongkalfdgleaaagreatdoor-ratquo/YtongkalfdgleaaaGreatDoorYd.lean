/-
  Reference numbers and reference rationals with their values and a bound of their size; ashlarref2.Make for them.
-/
import Derived.Test.YtongkalfdgleaaaGreatDoorYc
import Derived.Test.YtongkalfdgleaaaGreatDoorZjZn
import Derived.Test.YtongkalfdgleaaaGreatDoorRhCyCz
import Derived.Test.YtongkalfdgleaaaGreatDoorRm
namespace Go.Proofs.YtongkalfdgleaaaGreatDoor
open Go.RowKit
set_option linter.unusedVariables false
set_option linter.unusedSimpArgs false

/-- A reference number of the value z, of at most N digits. -/
def RV (w : World) (N : Nat) (z : Int) (s : Bool) (p : Option Addr) (n : Nat) : Prop := ∃ ds, RN w s p n ds ∧ rval s ds = z ∧ n ≤ N
def RVP (N : Nat) (z : Int) (w : World) (e : Ending) (w' : World) : Prop :=
  ∃ s p n, e = .returned (.agg #[.bool s, .slice p n n]) ∧ RV w' N z s p n ∧ Go.Proofs.YtongkalfdgleaaaGreatDoor.From w.heap.size p ∧ Below w.heap.size w w'
/-- A reference rational of the value r, its parts of at most 2 K digits. -/
structure MQ (w : World) (K : Nat) (s : Bool) (p : Option Addr) (n : Nat) (t : Bool) (q : Option Addr) (m : Nat) (r : Rat) : Prop where
  num : RV w (2 * K) r.num s p n
  den : RV w (2 * K) (r.den : Int) t q m
def MP (r : Rat) (K : Nat) (w : World) (e : Ending) (w' : World) : Prop :=
  ∃ s p n t q m, e = .returned (.agg #[.bool s, .slice p n n, .bool t, .slice q m m]) ∧ MQ w' K s p n t q m r ∧ Go.Proofs.YtongkalfdgleaaaGreatDoor.From w.heap.size p ∧ Go.Proofs.YtongkalfdgleaaaGreatDoor.From w.heap.size q ∧ Below w.heap.size w w'
section
variable {w w' : World} {N M K : Nat} {z x y : Int} {s t : Bool} {p q : Option Addr} {n m : Nat} {r : Rat}
theorem RV.below (h : RV w N z s p n) (hb : Below w.heap.size w w') : RV w' N z s p n := by
  obtain ⟨ds, h1, h2⟩ := h
  exact ⟨ds, h1.below hb, h2⟩
theorem RV.drew (h : RV w N z s p n) : RV w.drew N z s p n := by
  obtain ⟨ds, h1, h2⟩ := h
  exact ⟨ds, h1.drew, h2⟩
theorem RV.alloc (h : RV w N z s p n) (o : Obj) : RV (w.alloc o) N z s p n := by
  obtain ⟨ds, h1, h2⟩ := h
  exact ⟨ds, h1.alloc o, h2⟩
theorem RV.off (h : RV w N z s p n) {g : Nat} (hg : w.heap.size ≤ g) : 0 < n → Off g p := by
  obtain ⟨ds, h1, h2⟩ := h
  exact fun hn => h1.rd.off hg (by rw [h1.len]; exact hn)
theorem RV.set4 (h : RV w N z s p n) {g : Nat} (hg : 0 < n → Off g p) (u v x y : Value) : RV ((((w.setCell ⟨g, 0, none⟩ u).setCell ⟨g, 1, none⟩ v).setCell ⟨g, 2, none⟩ x).setCell ⟨g, 3, none⟩ y) N z s p n := by
  obtain ⟨ds, h1, h2⟩ := h
  exact ⟨ds, h1.set4 hg _ _ _ _, h2⟩
theorem RV.le (h : RV w N z s p n) : n ≤ N := by
  obtain ⟨ds, h1, h2, h3⟩ := h
  exact h3
theorem RV.up (h : RV w N z s p n) (hN : N ≤ M) : RV w M z s p n := by
  obtain ⟨ds, h1, h2, h3⟩ := h
  exact ⟨ds, h1, h2, by omega⟩
theorem RV.of (h : RV w N z s p n) (e : z = x) : RV w N x s p n := e ▸ h
theorem RV.bd (h : RV w N z s p n) : (z.natAbs : Int) < pd N := by
  obtain ⟨ds, h1, rfl, h3⟩ := h
  have a := vd_nonneg h1.u
  have b := vd_lt h1.u
  rw [h1.len] at b
  have c := pd_mono h3
  unfold rval
  split <;> omega
theorem RV.tight (h : RV w N z s p n) (hz : (z.natAbs : Int) < pw K) : RV w (2 * K) z s p n := by
  obtain ⟨ds, h1, rfl, h3⟩ := h
  refine ⟨ds, h1, rfl, ?_⟩
  have a := vd_nonneg h1.u
  have e : ((rval s ds).natAbs : Int) = vd ds := by unfold rval; split <;> omega
  rw [e, ← pd_two] at hz
  rcases Nat.lt_or_ge (2 * K) n with hk | hk
  · have b := vd_pos_of_top h1.u (by rw [h1.nrm]; omega)
    rw [h1.nrm] at b
    have c := pd_mono (show 2 * K ≤ n - 1 by omega)
    omega
  · exact hk
theorem RVP.of {e : Ending} (h : RAns N z w e w') : RVP N z w e w' := by
  obtain ⟨s, p, n, ds, h1, h2, h3, h4, h5, h6⟩ := h
  exact ⟨s, p, n, h1, ⟨ds, h2, h3, h4⟩, h5, h6⟩
theorem rMul_v (h : RV w N x s p n) (k : RV w M y t q m) (hN : N ≤ 1000) (hM : M ≤ 1000) :
    Calls Tryz.prog 41 #[.agg #[.bool s, .slice p n n], .agg #[.bool t, .slice q m m]] w (RVP (N + M + 1) (x * y) w) := by
  obtain ⟨ds, h1, rfl, h3⟩ := h
  obtain ⟨es, k1, rfl, k3⟩ := k
  refine (rMul_rn h1 k1 (by omega) (by omega)).mono ?_
  rintro e w' ⟨s', p', n', ds', g1, g2, g3, g4, g5, g6⟩
  exact ⟨s', p', n', g1, ⟨ds', g2, g3, by omega⟩, g5, g6⟩
theorem MQ.below (h : MQ w K s p n t q m r) (hb : Below w.heap.size w w') : MQ w' K s p n t q m r := ⟨h.num.below hb, h.den.below hb⟩
theorem MQ.drew (h : MQ w K s p n t q m r) : MQ w.drew K s p n t q m r := ⟨h.num.drew, h.den.drew⟩
theorem MQ.alloc (h : MQ w K s p n t q m r) (o : Obj) : MQ (w.alloc o) K s p n t q m r := ⟨h.num.alloc o, h.den.alloc o⟩
theorem MQ.of {r' : Rat} (h : MQ w K s p n t q m r) (e : r = r') : MQ w K s p n t q m r' := e ▸ h
theorem MQ.sz (h : MQ w K s p n t q m r) : Sz r K := by
  have a := h.num.bd
  have b := h.den.bd
  rw [pd_two] at a b
  exact ⟨a, b⟩
theorem Make_v (h : RV w N x s p n) (k : RV w M y t q m) (hN : N ≤ 1000) (hM : M ≤ 1000) (hs : Sz (Rat.divInt x y) K) :
    Calls Tryz.prog 27 #[.agg #[.bool s, .slice p n n], .agg #[.bool t, .slice q m m]] w (MP (Rat.divInt x y) K w) := by
  obtain ⟨ds, h1, rfl, h3⟩ := h
  obtain ⟨es, k1, rfl, k3⟩ := k
  refine (Make_any s t p q n m ds es w h1 k1 (by omega) (by omega)).mono ?_
  rintro e w' ⟨s', p', n', ds', t', q', m', es', g1, g2, g3, g4, g5⟩
  have a : RV w' n' (Rat.divInt (rval s ds) (rval t es)).num s' p' n' := ⟨ds', g2.num, g2.nv, Nat.le_refl _⟩
  have b : RV w' m' ((Rat.divInt (rval s ds) (rval t es)).den : Int) t' q' m' := ⟨es', g2.den, g2.dv, Nat.le_refl _⟩
  exact ⟨s', p', n', t', q', m', g1, ⟨a.tight hs.1, b.tight hs.2⟩, g3, g4, g5⟩
end
theorem MP.of {r r' : Rat} {K : Nat} {w w' : World} {e : Ending} (h : MP r K w e w') (h' : r = r') : MP r' K w e w' := h' ▸ h
theorem cell_s4 {w : World} {b g o : Nat} {c u v x y : Value} (h : w.cell? ⟨b, o, none⟩ = some c) (hne : Hid (b ≠ g)) : ((((w.setCell ⟨g, 0, none⟩ u).setCell ⟨g, 1, none⟩ v).setCell ⟨g, 2, none⟩ x).setCell ⟨g, 3, none⟩ y).cell? ⟨b, o, none⟩ = some c := by
  have e : ((((w.setCell ⟨g, 0, none⟩ u).setCell ⟨g, 1, none⟩ v).setCell ⟨g, 2, none⟩ x).setCell ⟨g, 3, none⟩ y).heap[b]? = w.heap[b]? := by
    rw [heap_setCell_other _ _ b y hne.out, heap_setCell_other _ _ b x hne.out, heap_setCell_other _ _ b v hne.out, heap_setCell_other _ _ b u hne.out]
  exact (World.cell?_of_block (a := ⟨b, o, none⟩) e).trans h
theorem keep4s {w1 w2 : World} {a g : Nat} {a0 a1 a2 a3 u v x y : Value} (k : w1.cell? ⟨a, 0, none⟩ = some a0 ∧ w1.cell? ⟨a, 1, none⟩ = some a1 ∧ w1.cell? ⟨a, 2, none⟩ = some a2 ∧ w1.cell? ⟨a, 3, none⟩ = some a3) (hb : Below w1.heap.size w1 w2) (na : Hid (a ≠ g)) :
    ((((w2.setCell ⟨g, 0, none⟩ u).setCell ⟨g, 1, none⟩ v).setCell ⟨g, 2, none⟩ x).setCell ⟨g, 3, none⟩ y).cell? ⟨a, 0, none⟩ = some a0 ∧ ((((w2.setCell ⟨g, 0, none⟩ u).setCell ⟨g, 1, none⟩ v).setCell ⟨g, 2, none⟩ x).setCell ⟨g, 3, none⟩ y).cell? ⟨a, 1, none⟩ = some a1 ∧ ((((w2.setCell ⟨g, 0, none⟩ u).setCell ⟨g, 1, none⟩ v).setCell ⟨g, 2, none⟩ x).setCell ⟨g, 3, none⟩ y).cell? ⟨a, 2, none⟩ = some a2 ∧ ((((w2.setCell ⟨g, 0, none⟩ u).setCell ⟨g, 1, none⟩ v).setCell ⟨g, 2, none⟩ x).setCell ⟨g, 3, none⟩ y).cell? ⟨a, 3, none⟩ = some a3 := by
  obtain ⟨h0, h1, h2, h3⟩ := k
  exact ⟨cell_s4 (cell_later hb h0) na, cell_s4 (cell_later hb h1) na, cell_s4 (cell_later hb h2) na, cell_s4 (cell_later hb h3) na⟩
theorem keep8s {w1 w2 : World} {a b g : Nat} {a0 a1 a2 a3 b0 b1 b2 b3 u v x y : Value} (k : w1.cell? ⟨a, 0, none⟩ = some a0 ∧ w1.cell? ⟨a, 1, none⟩ = some a1 ∧ w1.cell? ⟨a, 2, none⟩ = some a2 ∧ w1.cell? ⟨a, 3, none⟩ = some a3 ∧ w1.cell? ⟨b, 0, none⟩ = some b0 ∧ w1.cell? ⟨b, 1, none⟩ = some b1 ∧ w1.cell? ⟨b, 2, none⟩ = some b2 ∧ w1.cell? ⟨b, 3, none⟩ = some b3) (hb : Below w1.heap.size w1 w2) (na : Hid (a ≠ g)) (nb : Hid (b ≠ g)) :
    ((((w2.setCell ⟨g, 0, none⟩ u).setCell ⟨g, 1, none⟩ v).setCell ⟨g, 2, none⟩ x).setCell ⟨g, 3, none⟩ y).cell? ⟨a, 0, none⟩ = some a0 ∧ ((((w2.setCell ⟨g, 0, none⟩ u).setCell ⟨g, 1, none⟩ v).setCell ⟨g, 2, none⟩ x).setCell ⟨g, 3, none⟩ y).cell? ⟨a, 1, none⟩ = some a1 ∧ ((((w2.setCell ⟨g, 0, none⟩ u).setCell ⟨g, 1, none⟩ v).setCell ⟨g, 2, none⟩ x).setCell ⟨g, 3, none⟩ y).cell? ⟨a, 2, none⟩ = some a2 ∧ ((((w2.setCell ⟨g, 0, none⟩ u).setCell ⟨g, 1, none⟩ v).setCell ⟨g, 2, none⟩ x).setCell ⟨g, 3, none⟩ y).cell? ⟨a, 3, none⟩ = some a3 ∧ ((((w2.setCell ⟨g, 0, none⟩ u).setCell ⟨g, 1, none⟩ v).setCell ⟨g, 2, none⟩ x).setCell ⟨g, 3, none⟩ y).cell? ⟨b, 0, none⟩ = some b0 ∧ ((((w2.setCell ⟨g, 0, none⟩ u).setCell ⟨g, 1, none⟩ v).setCell ⟨g, 2, none⟩ x).setCell ⟨g, 3, none⟩ y).cell? ⟨b, 1, none⟩ = some b1 ∧ ((((w2.setCell ⟨g, 0, none⟩ u).setCell ⟨g, 1, none⟩ v).setCell ⟨g, 2, none⟩ x).setCell ⟨g, 3, none⟩ y).cell? ⟨b, 2, none⟩ = some b2 ∧ ((((w2.setCell ⟨g, 0, none⟩ u).setCell ⟨g, 1, none⟩ v).setCell ⟨g, 2, none⟩ x).setCell ⟨g, 3, none⟩ y).cell? ⟨b, 3, none⟩ = some b3 := by
  obtain ⟨h0, h1, h2, h3, h4, h5, h6, h7⟩ := k
  exact ⟨cell_s4 (cell_later hb h0) na, cell_s4 (cell_later hb h1) na, cell_s4 (cell_later hb h2) na, cell_s4 (cell_later hb h3) na, cell_s4 (cell_later hb h4) nb, cell_s4 (cell_later hb h5) nb, cell_s4 (cell_later hb h6) nb, cell_s4 (cell_later hb h7) nb⟩
theorem keep12s {w1 w2 : World} {a b c d g : Nat} {a0 a1 a2 a3 b0 b1 b2 b3 c0 c1 d0 d1 u v x y : Value} (k : w1.cell? ⟨a, 0, none⟩ = some a0 ∧ w1.cell? ⟨a, 1, none⟩ = some a1 ∧ w1.cell? ⟨a, 2, none⟩ = some a2 ∧ w1.cell? ⟨a, 3, none⟩ = some a3 ∧ w1.cell? ⟨b, 0, none⟩ = some b0 ∧ w1.cell? ⟨b, 1, none⟩ = some b1 ∧ w1.cell? ⟨b, 2, none⟩ = some b2 ∧ w1.cell? ⟨b, 3, none⟩ = some b3 ∧ w1.cell? ⟨c, 0, none⟩ = some c0 ∧ w1.cell? ⟨c, 1, none⟩ = some c1 ∧ w1.cell? ⟨d, 0, none⟩ = some d0 ∧ w1.cell? ⟨d, 1, none⟩ = some d1) (hb : Below w1.heap.size w1 w2) (na : Hid (a ≠ g)) (nb : Hid (b ≠ g)) (nc : Hid (c ≠ g)) (nd : Hid (d ≠ g)) :
    ((((w2.setCell ⟨g, 0, none⟩ u).setCell ⟨g, 1, none⟩ v).setCell ⟨g, 2, none⟩ x).setCell ⟨g, 3, none⟩ y).cell? ⟨a, 0, none⟩ = some a0 ∧ ((((w2.setCell ⟨g, 0, none⟩ u).setCell ⟨g, 1, none⟩ v).setCell ⟨g, 2, none⟩ x).setCell ⟨g, 3, none⟩ y).cell? ⟨a, 1, none⟩ = some a1 ∧ ((((w2.setCell ⟨g, 0, none⟩ u).setCell ⟨g, 1, none⟩ v).setCell ⟨g, 2, none⟩ x).setCell ⟨g, 3, none⟩ y).cell? ⟨a, 2, none⟩ = some a2 ∧ ((((w2.setCell ⟨g, 0, none⟩ u).setCell ⟨g, 1, none⟩ v).setCell ⟨g, 2, none⟩ x).setCell ⟨g, 3, none⟩ y).cell? ⟨a, 3, none⟩ = some a3 ∧ ((((w2.setCell ⟨g, 0, none⟩ u).setCell ⟨g, 1, none⟩ v).setCell ⟨g, 2, none⟩ x).setCell ⟨g, 3, none⟩ y).cell? ⟨b, 0, none⟩ = some b0 ∧ ((((w2.setCell ⟨g, 0, none⟩ u).setCell ⟨g, 1, none⟩ v).setCell ⟨g, 2, none⟩ x).setCell ⟨g, 3, none⟩ y).cell? ⟨b, 1, none⟩ = some b1 ∧ ((((w2.setCell ⟨g, 0, none⟩ u).setCell ⟨g, 1, none⟩ v).setCell ⟨g, 2, none⟩ x).setCell ⟨g, 3, none⟩ y).cell? ⟨b, 2, none⟩ = some b2 ∧ ((((w2.setCell ⟨g, 0, none⟩ u).setCell ⟨g, 1, none⟩ v).setCell ⟨g, 2, none⟩ x).setCell ⟨g, 3, none⟩ y).cell? ⟨b, 3, none⟩ = some b3 ∧ ((((w2.setCell ⟨g, 0, none⟩ u).setCell ⟨g, 1, none⟩ v).setCell ⟨g, 2, none⟩ x).setCell ⟨g, 3, none⟩ y).cell? ⟨c, 0, none⟩ = some c0 ∧ ((((w2.setCell ⟨g, 0, none⟩ u).setCell ⟨g, 1, none⟩ v).setCell ⟨g, 2, none⟩ x).setCell ⟨g, 3, none⟩ y).cell? ⟨c, 1, none⟩ = some c1 ∧ ((((w2.setCell ⟨g, 0, none⟩ u).setCell ⟨g, 1, none⟩ v).setCell ⟨g, 2, none⟩ x).setCell ⟨g, 3, none⟩ y).cell? ⟨d, 0, none⟩ = some d0 ∧ ((((w2.setCell ⟨g, 0, none⟩ u).setCell ⟨g, 1, none⟩ v).setCell ⟨g, 2, none⟩ x).setCell ⟨g, 3, none⟩ y).cell? ⟨d, 1, none⟩ = some d1 := by
  obtain ⟨h0, h1, h2, h3, h4, h5, h6, h7, h8, h9, h10, h11⟩ := k
  exact ⟨cell_s4 (cell_later hb h0) na, cell_s4 (cell_later hb h1) na, cell_s4 (cell_later hb h2) na, cell_s4 (cell_later hb h3) na, cell_s4 (cell_later hb h4) nb, cell_s4 (cell_later hb h5) nb, cell_s4 (cell_later hb h6) nb, cell_s4 (cell_later hb h7) nb, cell_s4 (cell_later hb h8) nc, cell_s4 (cell_later hb h9) nc, cell_s4 (cell_later hb h10) nd, cell_s4 (cell_later hb h11) nd⟩
/-- The end of a function that answers a rational of a callee's. -/
theorem end_mp {w W w1 : World} {g : Nat} {s t : Bool} {p q : Option Addr} {n m K : Nat} {r : Rat} {u v x y : Value} (hw : Below w.heap.size w W) (hg : w.heap.size ≤ g) (hg' : g < W.heap.size) (hb : Below W.heap.size W w1)
    (h : MQ w1 K s p n t q m r) (hp : Go.Proofs.YtongkalfdgleaaaGreatDoor.From W.heap.size p) (hq : Go.Proofs.YtongkalfdgleaaaGreatDoor.From W.heap.size q) :
    MP r K w (.returned (.agg #[.bool s, .slice p n n, .bool t, .slice q m m])) ((((w1.setCell ⟨g, 0, none⟩ u).setCell ⟨g, 1, none⟩ v).setCell ⟨g, 2, none⟩ x).setCell ⟨g, 3, none⟩ y) :=
  ⟨s, p, n, t, q, m, rfl, ⟨h.num.set4 (fun _ => off_from hp hg') _ _ _ _, h.den.set4 (fun _ => off_from hq hg') _ _ _ _⟩, fun a ha => Nat.le_trans hw.size (hp a ha), fun a ha => Nat.le_trans hw.size (hq a ha), bset4 (bnext' hw hb) hg _ _ _ _⟩
end Go.Proofs.YtongkalfdgleaaaGreatDoor
