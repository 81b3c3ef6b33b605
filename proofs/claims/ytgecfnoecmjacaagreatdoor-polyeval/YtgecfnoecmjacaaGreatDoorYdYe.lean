/-
  Reference numbers and reference rationals with their values and a bound of their size; ashlarref2.Make for them.
-/
import Derived.Test.YtgecfnoecmjacaaGreatDoorRnYbYc
import Derived.Test.YtgecfnoecmjacaaGreatDoorZdZsHr
import Derived.Test.YtgecfnoecmjacaaGreatDoorRbCyVi
import Derived.Test.YtgecfnoecmjacaaGreatDoorRfRhCqRr
import Derived.Test.YtgecfnoecmjacaaGreatDoorRpVnVp
namespace Go.Proofs.YtgecfnoecmjacaaGreatDoor
open Go.RowKit
set_option linter.unusedVariables false
set_option linter.unusedSimpArgs false

/-- A reference rational of the value r, its parts of at most 2 K digits. -/
structure MQ (w : World) (K : Nat) (s : Bool) (p : Option Addr) (n : Nat) (t : Bool) (q : Option Addr) (m : Nat) (r : Rat) : Prop where
  num : RV w (2 * K) r.num s p n
  den : RV w (2 * K) (r.den : Int) t q m
def MP (r : Rat) (K : Nat) (w : World) (e : Ending) (w' : World) : Prop :=
  ∃ s p n t q m, e = .returned (.agg #[.bool s, .slice p n n, .bool t, .slice q m m]) ∧ MQ w' K s p n t q m r ∧ Go.Proofs.YtgecfnoecmjacaaGreatDoor.From w.heap.size p ∧ Go.Proofs.YtgecfnoecmjacaaGreatDoor.From w.heap.size q ∧ Below w.heap.size w w'
section
variable {w w' : World} {N M K : Nat} {z x y : Int} {s t : Bool} {p q : Option Addr} {n m : Nat} {r : Rat}
theorem RV.set4 (h : RV w N z s p n) {g : Nat} (hg : 0 < n → Off g p) (u v x y : Value) : RV ((((w.setCell ⟨g, 0, none⟩ u).setCell ⟨g, 1, none⟩ v).setCell ⟨g, 2, none⟩ x).setCell ⟨g, 3, none⟩ y) N z s p n := by
  obtain ⟨ds, h1, h2⟩ := h
  exact ⟨ds, h1.set4 hg _ _ _ _, h2⟩
theorem MQ.below (h : MQ w K s p n t q m r) (hb : Below w.heap.size w w') : MQ w' K s p n t q m r := ⟨h.num.below hb, h.den.below hb⟩
theorem MQ.drew (h : MQ w K s p n t q m r) : MQ w.drew K s p n t q m r := ⟨h.num.drew, h.den.drew⟩
theorem MQ.alloc (h : MQ w K s p n t q m r) (o : Obj) : MQ (w.alloc o) K s p n t q m r := ⟨h.num.alloc o, h.den.alloc o⟩
theorem MQ.of {r' : Rat} (h : MQ w K s p n t q m r) (e : r = r') : MQ w K s p n t q m r' := e ▸ h
theorem MQ.sz (h : MQ w K s p n t q m r) : Sz r K := by
  have a := h.num.bd
  have b := h.den.bd
  rw [pd_two] at a b
  exact ⟨a, b⟩
theorem Make_v (h : RV w N x s p n) (k : RV w M y t q m) (hN : N ≤ 1000) (hM : M ≤ 1000) (hs : Sz (Rat.divInt x y) K) :
    Calls Tryz.prog 92 #[.agg #[.bool s, .slice p n n], .agg #[.bool t, .slice q m m]] w (MP (Rat.divInt x y) K w) := by
  obtain ⟨ds, h1, rfl, h3⟩ := h
  obtain ⟨es, k1, rfl, k3⟩ := k
  refine (Make_any s t p q n m ds es w h1 k1 (by omega) (by omega)).mono ?_
  rintro e w' ⟨s', p', n', ds', t', q', m', es', g1, g2, g3, g4, g5⟩
  have a : RV w' n' (Rat.divInt (rval s ds) (rval t es)).num s' p' n' := ⟨ds', g2.num, g2.nv, Nat.le_refl _⟩
  have b : RV w' m' ((Rat.divInt (rval s ds) (rval t es)).den : Int) t' q' m' := ⟨es', g2.den, g2.dv, Nat.le_refl _⟩
  exact ⟨s', p', n', t', q', m', g1, ⟨a.tight hs.1, b.tight hs.2⟩, g3, g4, g5⟩
end
theorem MP.of {r r' : Rat} {K : Nat} {w w' : World} {e : Ending} (h : MP r K w e w') (h' : r = r') : MP r' K w e w' := h' ▸ h
theorem cell_s4 {w : World} {b g o : Nat} {c u v x y : Value} (h : w.cell? ⟨b, o, none⟩ = some c) (hne : Hid (b ≠ g)) : ((((w.setCell ⟨g, 0, none⟩ u).setCell ⟨g, 1, none⟩ v).setCell ⟨g, 2, none⟩ x).setCell ⟨g, 3, none⟩ y).cell? ⟨b, o, none⟩ = some c := by
  have e : ((((w.setCell ⟨g, 0, none⟩ u).setCell ⟨g, 1, none⟩ v).setCell ⟨g, 2, none⟩ x).setCell ⟨g, 3, none⟩ y).heap[b]? = w.heap[b]? := by
    rw [heap_setCell_other _ _ b y hne.out, heap_setCell_other _ _ b x hne.out, heap_setCell_other _ _ b v hne.out, heap_setCell_other _ _ b u hne.out]
  exact (World.cell?_of_block (a := ⟨b, o, none⟩) e).trans h
theorem keep4s {w1 w2 : World} {a g : Nat} {a0 a1 a2 a3 u v x y : Value} (k : w1.cell? ⟨a, 0, none⟩ = some a0 ∧ w1.cell? ⟨a, 1, none⟩ = some a1 ∧ w1.cell? ⟨a, 2, none⟩ = some a2 ∧ w1.cell? ⟨a, 3, none⟩ = some a3) (hb : Below w1.heap.size w1 w2) (na : Hid (a ≠ g)) :
    ((((w2.setCell ⟨g, 0, none⟩ u).setCell ⟨g, 1, none⟩ v).setCell ⟨g, 2, none⟩ x).setCell ⟨g, 3, none⟩ y).cell? ⟨a, 0, none⟩ = some a0 ∧ ((((w2.setCell ⟨g, 0, none⟩ u).setCell ⟨g, 1, none⟩ v).setCell ⟨g, 2, none⟩ x).setCell ⟨g, 3, none⟩ y).cell? ⟨a, 1, none⟩ = some a1 ∧ ((((w2.setCell ⟨g, 0, none⟩ u).setCell ⟨g, 1, none⟩ v).setCell ⟨g, 2, none⟩ x).setCell ⟨g, 3, none⟩ y).cell? ⟨a, 2, none⟩ = some a2 ∧ ((((w2.setCell ⟨g, 0, none⟩ u).setCell ⟨g, 1, none⟩ v).setCell ⟨g, 2, none⟩ x).setCell ⟨g, 3, none⟩ y).cell? ⟨a, 3, none⟩ = some a3 := by
  obtain ⟨h0, h1, h2, h3⟩ := k
  exact ⟨cell_s4 (cell_later hb h0) na, cell_s4 (cell_later hb h1) na, cell_s4 (cell_later hb h2) na, cell_s4 (cell_later hb h3) na⟩
theorem keep8s {w1 w2 : World} {a b g : Nat} {a0 a1 a2 a3 b0 b1 b2 b3 u v x y : Value} (k : w1.cell? ⟨a, 0, none⟩ = some a0 ∧ w1.cell? ⟨a, 1, none⟩ = some a1 ∧ w1.cell? ⟨a, 2, none⟩ = some a2 ∧ w1.cell? ⟨a, 3, none⟩ = some a3 ∧ w1.cell? ⟨b, 0, none⟩ = some b0 ∧ w1.cell? ⟨b, 1, none⟩ = some b1 ∧ w1.cell? ⟨b, 2, none⟩ = some b2 ∧ w1.cell? ⟨b, 3, none⟩ = some b3) (hb : Below w1.heap.size w1 w2) (na : Hid (a ≠ g)) (nb : Hid (b ≠ g)) :
    ((((w2.setCell ⟨g, 0, none⟩ u).setCell ⟨g, 1, none⟩ v).setCell ⟨g, 2, none⟩ x).setCell ⟨g, 3, none⟩ y).cell? ⟨a, 0, none⟩ = some a0 ∧ ((((w2.setCell ⟨g, 0, none⟩ u).setCell ⟨g, 1, none⟩ v).setCell ⟨g, 2, none⟩ x).setCell ⟨g, 3, none⟩ y).cell? ⟨a, 1, none⟩ = some a1 ∧ ((((w2.setCell ⟨g, 0, none⟩ u).setCell ⟨g, 1, none⟩ v).setCell ⟨g, 2, none⟩ x).setCell ⟨g, 3, none⟩ y).cell? ⟨a, 2, none⟩ = some a2 ∧ ((((w2.setCell ⟨g, 0, none⟩ u).setCell ⟨g, 1, none⟩ v).setCell ⟨g, 2, none⟩ x).setCell ⟨g, 3, none⟩ y).cell? ⟨a, 3, none⟩ = some a3 ∧ ((((w2.setCell ⟨g, 0, none⟩ u).setCell ⟨g, 1, none⟩ v).setCell ⟨g, 2, none⟩ x).setCell ⟨g, 3, none⟩ y).cell? ⟨b, 0, none⟩ = some b0 ∧ ((((w2.setCell ⟨g, 0, none⟩ u).setCell ⟨g, 1, none⟩ v).setCell ⟨g, 2, none⟩ x).setCell ⟨g, 3, none⟩ y).cell? ⟨b, 1, none⟩ = some b1 ∧ ((((w2.setCell ⟨g, 0, none⟩ u).setCell ⟨g, 1, none⟩ v).setCell ⟨g, 2, none⟩ x).setCell ⟨g, 3, none⟩ y).cell? ⟨b, 2, none⟩ = some b2 ∧ ((((w2.setCell ⟨g, 0, none⟩ u).setCell ⟨g, 1, none⟩ v).setCell ⟨g, 2, none⟩ x).setCell ⟨g, 3, none⟩ y).cell? ⟨b, 3, none⟩ = some b3 := by
  obtain ⟨h0, h1, h2, h3, h4, h5, h6, h7⟩ := k
  exact ⟨cell_s4 (cell_later hb h0) na, cell_s4 (cell_later hb h1) na, cell_s4 (cell_later hb h2) na, cell_s4 (cell_later hb h3) na, cell_s4 (cell_later hb h4) nb, cell_s4 (cell_later hb h5) nb, cell_s4 (cell_later hb h6) nb, cell_s4 (cell_later hb h7) nb⟩
theorem keep12s {w1 w2 : World} {a b c d g : Nat} {a0 a1 a2 a3 b0 b1 b2 b3 c0 c1 d0 d1 u v x y : Value} (k : w1.cell? ⟨a, 0, none⟩ = some a0 ∧ w1.cell? ⟨a, 1, none⟩ = some a1 ∧ w1.cell? ⟨a, 2, none⟩ = some a2 ∧ w1.cell? ⟨a, 3, none⟩ = some a3 ∧ w1.cell? ⟨b, 0, none⟩ = some b0 ∧ w1.cell? ⟨b, 1, none⟩ = some b1 ∧ w1.cell? ⟨b, 2, none⟩ = some b2 ∧ w1.cell? ⟨b, 3, none⟩ = some b3 ∧ w1.cell? ⟨c, 0, none⟩ = some c0 ∧ w1.cell? ⟨c, 1, none⟩ = some c1 ∧ w1.cell? ⟨d, 0, none⟩ = some d0 ∧ w1.cell? ⟨d, 1, none⟩ = some d1) (hb : Below w1.heap.size w1 w2) (na : Hid (a ≠ g)) (nb : Hid (b ≠ g)) (nc : Hid (c ≠ g)) (nd : Hid (d ≠ g)) :
    ((((w2.setCell ⟨g, 0, none⟩ u).setCell ⟨g, 1, none⟩ v).setCell ⟨g, 2, none⟩ x).setCell ⟨g, 3, none⟩ y).cell? ⟨a, 0, none⟩ = some a0 ∧ ((((w2.setCell ⟨g, 0, none⟩ u).setCell ⟨g, 1, none⟩ v).setCell ⟨g, 2, none⟩ x).setCell ⟨g, 3, none⟩ y).cell? ⟨a, 1, none⟩ = some a1 ∧ ((((w2.setCell ⟨g, 0, none⟩ u).setCell ⟨g, 1, none⟩ v).setCell ⟨g, 2, none⟩ x).setCell ⟨g, 3, none⟩ y).cell? ⟨a, 2, none⟩ = some a2 ∧ ((((w2.setCell ⟨g, 0, none⟩ u).setCell ⟨g, 1, none⟩ v).setCell ⟨g, 2, none⟩ x).setCell ⟨g, 3, none⟩ y).cell? ⟨a, 3, none⟩ = some a3 ∧ ((((w2.setCell ⟨g, 0, none⟩ u).setCell ⟨g, 1, none⟩ v).setCell ⟨g, 2, none⟩ x).setCell ⟨g, 3, none⟩ y).cell? ⟨b, 0, none⟩ = some b0 ∧ ((((w2.setCell ⟨g, 0, none⟩ u).setCell ⟨g, 1, none⟩ v).setCell ⟨g, 2, none⟩ x).setCell ⟨g, 3, none⟩ y).cell? ⟨b, 1, none⟩ = some b1 ∧ ((((w2.setCell ⟨g, 0, none⟩ u).setCell ⟨g, 1, none⟩ v).setCell ⟨g, 2, none⟩ x).setCell ⟨g, 3, none⟩ y).cell? ⟨b, 2, none⟩ = some b2 ∧ ((((w2.setCell ⟨g, 0, none⟩ u).setCell ⟨g, 1, none⟩ v).setCell ⟨g, 2, none⟩ x).setCell ⟨g, 3, none⟩ y).cell? ⟨b, 3, none⟩ = some b3 ∧ ((((w2.setCell ⟨g, 0, none⟩ u).setCell ⟨g, 1, none⟩ v).setCell ⟨g, 2, none⟩ x).setCell ⟨g, 3, none⟩ y).cell? ⟨c, 0, none⟩ = some c0 ∧ ((((w2.setCell ⟨g, 0, none⟩ u).setCell ⟨g, 1, none⟩ v).setCell ⟨g, 2, none⟩ x).setCell ⟨g, 3, none⟩ y).cell? ⟨c, 1, none⟩ = some c1 ∧ ((((w2.setCell ⟨g, 0, none⟩ u).setCell ⟨g, 1, none⟩ v).setCell ⟨g, 2, none⟩ x).setCell ⟨g, 3, none⟩ y).cell? ⟨d, 0, none⟩ = some d0 ∧ ((((w2.setCell ⟨g, 0, none⟩ u).setCell ⟨g, 1, none⟩ v).setCell ⟨g, 2, none⟩ x).setCell ⟨g, 3, none⟩ y).cell? ⟨d, 1, none⟩ = some d1 := by
  obtain ⟨h0, h1, h2, h3, h4, h5, h6, h7, h8, h9, h10, h11⟩ := k
  exact ⟨cell_s4 (cell_later hb h0) na, cell_s4 (cell_later hb h1) na, cell_s4 (cell_later hb h2) na, cell_s4 (cell_later hb h3) na, cell_s4 (cell_later hb h4) nb, cell_s4 (cell_later hb h5) nb, cell_s4 (cell_later hb h6) nb, cell_s4 (cell_later hb h7) nb, cell_s4 (cell_later hb h8) nc, cell_s4 (cell_later hb h9) nc, cell_s4 (cell_later hb h10) nd, cell_s4 (cell_later hb h11) nd⟩
/-- The end of a function that answers a rational of a callee's. -/
theorem end_mp {w W w1 : World} {g : Nat} {s t : Bool} {p q : Option Addr} {n m K : Nat} {r : Rat} {u v x y : Value} (hw : Below w.heap.size w W) (hg : w.heap.size ≤ g) (hg' : g < W.heap.size) (hb : Below W.heap.size W w1)
    (h : MQ w1 K s p n t q m r) (hp : Go.Proofs.YtgecfnoecmjacaaGreatDoor.From W.heap.size p) (hq : Go.Proofs.YtgecfnoecmjacaaGreatDoor.From W.heap.size q) :
    MP r K w (.returned (.agg #[.bool s, .slice p n n, .bool t, .slice q m m])) ((((w1.setCell ⟨g, 0, none⟩ u).setCell ⟨g, 1, none⟩ v).setCell ⟨g, 2, none⟩ x).setCell ⟨g, 3, none⟩ y) :=
  ⟨s, p, n, t, q, m, rfl, ⟨h.num.set4 (fun _ => off_from hp hg') _ _ _ _, h.den.set4 (fun _ => off_from hq hg') _ _ _ _⟩, fun a ha => Nat.le_trans hw.size (hp a ha), fun a ha => Nat.le_trans hw.size (hq a ha), bset4 (bnext' hw hb) hg _ _ _ _⟩
end Go.Proofs.YtgecfnoecmjacaaGreatDoor
/-
  ashlarref2.Mul, Quo.
-/
namespace Go.Proofs.YtgecfnoecmjacaaGreatDoor
open Go.RowKit
set_option linter.unusedVariables false
set_option linter.unusedSimpArgs false

theorem mul_mk (a b : Rat) : Rat.divInt (a.num * b.num) (a.den * b.den) = a * b := by
  have := Rat.divInt_mul_divInt a.num b.num (d₁ := a.den) (d₂ := b.den)
  rw [← this, Rat.num_divInt_den, Rat.num_divInt_den]
theorem add_mk (a b : Rat) : Rat.divInt (a.num * b.den + b.num * a.den) (a.den * b.den) = a + b := by
  have := Rat.divInt_add_divInt a.num b.num (d₁ := a.den) (d₂ := b.den) (by have := a.den_nz; omega) (by have := b.den_nz; omega)
  rw [← this, Rat.num_divInt_den, Rat.num_divInt_den]
set_option maxRecDepth 100000 in
set_option maxHeartbeats 4000000 in
/-- ashlarref2.Mul. -/
theorem rMul_q {w : World} {Ka Kb : Nat} {sa ta sb tb : Bool} {pa qa pb qb : Option Addr} {na ma nb mb : Nat} {ra rb : Rat} (ha : MQ w Ka sa pa na ta qa ma ra) (hb : MQ w Kb sb pb nb tb qb mb rb) (hKa : 1 ≤ Ka) (hKb : 1 ≤ Kb) (hK : Ka + Kb ≤ 240) :
    Calls Tryz.prog 90 #[.agg #[.bool sa, .slice pa na na, .bool ta, .slice qa ma ma], .agg #[.bool sb, .slice pb nb nb, .bool tb, .slice qb mb mb]] w (MP (ra * rb) (Ka + Kb) w) := by
  have hs : Hid (Sz (ra * rb) (Ka + Kb)) := mul_sz ha.sz hb.sz hKa
  have hval : Hid (Rat.divInt (ra.num * rb.num) (ra.den * rb.den) = ra * rb) := mul_mk ra rb
  have la := ha.num.le
  go_enter Tryz.func90, Tryz.ntmps90
  go_wp2_with fail
  have hA0 : Bq ((((w).alloc (.cells #[.bool sa, .slice pa na na, .bool ta, .slice qa ma ma] 60)).alloc (.cells #[.bool sb, .slice pb nb nb, .bool tb, .slice qb mb mb] 60)).alloc (.cells #[.bool false, .slice none 0 0, .bool false, .slice none 0 0] 60)) w.heap.size (.bool sa) (.slice pa na na) (.bool ta) (.slice qa ma ma) := ((Bq.new _ _ _ _ _ rfl).alloc _).alloc _
  have hB0 : Bq ((((w).alloc (.cells #[.bool sa, .slice pa na na, .bool ta, .slice qa ma ma] 60)).alloc (.cells #[.bool sb, .slice pb nb nb, .bool tb, .slice qb mb mb] 60)).alloc (.cells #[.bool false, .slice none 0 0, .bool false, .slice none 0 0] 60)) (w.heap.size + 1) (.bool sb) (.slice pb nb nb) (.bool tb) (.slice qb mb mb) := (Bq.new _ _ _ _ _ (by simp)).alloc _
  have hR0 : Bq ((((w).alloc (.cells #[.bool sa, .slice pa na na, .bool ta, .slice qa ma ma] 60)).alloc (.cells #[.bool sb, .slice pb nb nb, .bool tb, .slice qb mb mb] 60)).alloc (.cells #[.bool false, .slice none 0 0, .bool false, .slice none 0 0] 60)) (w.heap.size + 1 + 1) (.bool false) (.slice none 0 0) (.bool false) (.slice none 0 0) := Bq.new _ _ _ _ _ (by simp)
  have hW : Below w.heap.size w ((((w).alloc (.cells #[.bool sa, .slice pa na na, .bool ta, .slice qa ma ma] 60)).alloc (.cells #[.bool sb, .slice pb nb nb, .bool tb, .slice qb mb mb] 60)).alloc (.cells #[.bool false, .slice none 0 0, .bool false, .slice none 0 0] 60)) := (((Below.refl _ _).alloc (Nat.le_refl _) _).alloc (by simp) _).alloc (by simp; omega) _
  generalize (((w).alloc (.cells #[.bool sa, .slice pa na na, .bool ta, .slice qa ma ma] 60)).alloc (.cells #[.bool sb, .slice pb nb nb, .bool tb, .slice qb mb mb] 60)).alloc (.cells #[.bool false, .slice none 0 0, .bool false, .slice none 0 0] 60) = W at *
  have hqa := ha.below hW
  have hqb := hb.below hW
  have nA : Hid (w.heap.size ≠ w.heap.size + 1 + 1) := (by omega : w.heap.size ≠ w.heap.size + 1 + 1)
  have nB : Hid (w.heap.size + 1 ≠ w.heap.size + 1 + 1) := (by omega : w.heap.size + 1 ≠ w.heap.size + 1 + 1)
  have a0 := hA0.c0
  have a1 := hA0.c1
  have a2 := hA0.c2
  have a3 := hA0.c3
  have b0 := hB0.c0
  have b1 := hB0.c1
  have b2 := hB0.c2
  have b3 := hB0.c3
  go_region_held3 (fun w' => w'.cell? ⟨w.heap.size, 0, none⟩ = some (.bool sa) ∧ w'.cell? ⟨w.heap.size, 1, none⟩ = some (.slice pa na na) ∧ w'.cell? ⟨w.heap.size, 2, none⟩ = some (.bool ta) ∧ w'.cell? ⟨w.heap.size, 3, none⟩ = some (.slice qa ma ma) ∧ w'.cell? ⟨w.heap.size + 1, 0, none⟩ = some (.bool sb) ∧ w'.cell? ⟨w.heap.size + 1, 1, none⟩ = some (.slice pb nb nb) ∧ w'.cell? ⟨w.heap.size + 1, 2, none⟩ = some (.bool tb) ∧ w'.cell? ⟨w.heap.size + 1, 3, none⟩ = some (.slice qb mb mb)) (first | with_reducible exact ⟨a0, a1, a2, a3, b0, b1, b2, b3⟩ | with_reducible exact keepq ⟨a0, a1, a2, a3, b0, b1, b2, b3⟩ hV1 | with_reducible exact keepq ⟨a0, a1, a2, a3, b0, b1, b2, b3⟩ hV2 | with_reducible exact keepq ⟨a0, a1, a2, a3, b0, b1, b2, b3⟩ hV3 | with_reducible exact keep8s ⟨a0, a1, a2, a3, b0, b1, b2, b3⟩ hV3 nA nB | (simp [go_sem, *]; done))
    (first
      | (go_at_call_of 51 (Value.agg #[.bool sa, .slice pa na na]); go_at_call_of 51 (Value.agg #[.bool sb, .slice pb nb nb]); refine (rMul_v hqa.num.drew hqb.num.drew (by omega) (by omega)).mono ?_; rintro e v1 ⟨s1, p1, n1, rfl, hr1, hF1, hv1⟩; have hV1 := undrew hv1)
      | (go_at_call_of 51 (Value.agg #[.bool ta, .slice qa ma ma]); go_at_call_of 51 (Value.agg #[.bool tb, .slice qb mb mb]); refine (rMul_v (hqa.den.below hV1) (hqb.den.below hV1) (by omega) (by omega)).mono ?_; rintro e v2 ⟨s2, p2, n2, rfl, hr2, hF2, hv2⟩; have hV2 := bnext' hV1 hv2)
      | (go_at_call 92; refine (Make_v (K := Ka + Kb) (hr1.below hv2) hr2 (by omega) (by omega) (by rw [hval.out]; exact hs.out)).mono ?_; rintro e v3 ⟨s3, p3, n3, t3, q3, m3, rfl, hm, hF3, hF3', hv3⟩; have hV3 := bnext' hV2 hv3; rw [hval.out] at hm; obtain ⟨r0, r1, r2, r3, f0, f1, f2, f3⟩ := hR0.later hV3))
  clear a0 a1 a2 a3 b0 b1 b2 b3
  go_wp2
  refine bodyPost_ret (v := .agg #[.bool s3, .slice p3 n3 n3, .bool t3, .slice q3 m3 m3]) (by simp [results, Tryz.results90, go_sem, r0, r1, r2, r3]) rfl ?_
  have sV := hV2.size
  exact end_mp hW (by omega) hR0.lt hV3 hm (fun a ha => Nat.le_trans sV (hF3 a ha)) (fun a ha => Nat.le_trans sV (hF3' a ha))
end Go.Proofs.YtgecfnoecmjacaaGreatDoor
