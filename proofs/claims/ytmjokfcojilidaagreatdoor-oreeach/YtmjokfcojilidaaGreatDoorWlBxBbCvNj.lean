/-
  limbs.quotient by a size that is greater or has one limb; limbs.Quo out of a contract of quotient.
-/
import Derived.Test.YtmjokfcojilidaaGreatDoorWhPnWk
import Derived.Deep.DeepCutAuto
namespace Go.Proofs.YtmjokfcojilidaaGreatDoor
open Go.RowKit
set_option linter.unusedVariables false
set_option linter.unusedSimpArgs false

/-- A quotient and what is left, in memory from block B on. -/
structure QR (B : Nat) (w : World) (qa : Option Addr) (qn : Nat) (qs : List Int) (ra : Option Addr) (rn : Nat) (rs : List Int) (x y : Int) (n : Nat) : Prop where
  ql : qs.length = qn
  qrd : Rd w qa .u32 qs
  qu : U32 qs
  qf : From B qa
  rl : rs.length = rn
  rrd : Rd w ra .u32 rs
  ru : U32 rs
  rf : From B ra
  eq : val qs * y + val rs = x
  lt : val rs < y
  qb : qn ≤ n + 1
  rb : rn ≤ n + 1
  row : ∃ g Z, ra = some ⟨g, 0, none⟩ ∧ Row w g 79 .u32 Z ∧ Z.take rn = rs ∧ U32 Z
  qz : Fz w qa
  rz : Fz w ra
theorem QR.below {B : Nat} {w w' : World} {qa : Option Addr} {qn : Nat} {qs : List Int} {ra : Option Addr} {rn : Nat} {rs : List Int} {x y : Int} {n : Nat} (h : QR B w qa qn qs ra rn rs x y n) (hb : Below w.heap.size w w') : QR B w' qa qn qs ra rn rs x y n :=
  ⟨h.ql, h.qrd.below hb, h.qu, h.qf, h.rl, h.rrd.below hb, h.ru, h.rf, h.eq, h.lt, h.qb, h.rb, by obtain ⟨g, Z, h1, h2, h3⟩ := h.row; exact ⟨g, Z, h1, h2.below hb h2.lt, h3⟩, h.qz.below hb, h.rz.below hb⟩

set_option maxHeartbeats 1000000 in
/-- limbs.quotient: the size is below the other. -/
theorem quotient_lt (p q : Option Addr) (n nc m mc : Nat) (xs ys : List Int) (w : World) (hA : AI w p n nc xs) (hB : AI w q m mc ys) (hlt : val xs < val ys) :
    Calls Tryz.prog 185 #[.slice p n nc, .slice q m mc] w fun e w' => ∃ qa qn qs ra rn rs, e = .returned (.tuple #[.slice qa qn qn, .slice ra rn rn]) ∧ QR w.heap.size w' qa qn qs ra rn rs (val xs) (val ys) n ∧ Below w.heap.size w w' := by
  have hs := hA.sml
  go_enter Tryz.func185, Tryz.ntmps185
  go_wp2_with fail
  refine (compare_any p q n nc m mc xs ys _ hA.len hB.len hA.cap hA.bnd hB.cap hB.bnd hA.rd hA.u hB.rd hB.u).mono ?_
  rw [icmp_lt hlt]
  rintro e w1 ⟨rfl, hb1⟩
  go_wp2_with fail
  refine (clone_any p n nc xs _ hA.len (by omega) (hA.rd.below hb1)).mono ?_
  rintro e w2 ⟨rfl, rfl⟩
  go_wp2
  go_ret2
  refine ⟨none, 0, [], some ⟨w1.heap.size, 0, none⟩, n, xs, rfl, ⟨rfl, Rd.nil, u32_nil, from_none, hA.len, (Row.new w1 _ _ _).rd_all, hA.u, from_new hb1.size, by simp [val], hlt, by omega, by omega, ⟨w1.heap.size, xs, rfl, Row.new w1 _ _ _, List.take_of_length_le (by rw [hA.len]; omega), hA.u⟩, Fz.nil _, (Row.new w1 _ _ _).fz 0⟩, hb1.alloc hb1.size _⟩

set_option maxHeartbeats 1000000 in
/-- limbs.quotient: by one limb. -/
theorem quotient_one (p q : Option Addr) (n nc mc : Nat) (xs : List Int) (d : Int) (w : World) (hA : AI w p n nc xs) (hB : AI w q 1 mc [d]) (hd : 0 < d) (hle : d ≤ val xs) :
    Calls Tryz.prog 185 #[.slice p n nc, .slice q 1 mc] w fun e w' => ∃ qa qn qs ra rn rs, e = .returned (.tuple #[.slice qa qn qn, .slice ra rn rn]) ∧ QR w.heap.size w' qa qn qs ra rn rs (val xs) (val [d]) n ∧ Below w.heap.size w w' := by
  have hs := hA.sml
  have hd' : d < 4294967296 := by have := hB.u 0; rw [gx_zero] at this; omega
  have hic : ¬ icmp (val xs) (val [d]) < 0 := by
    rw [val_one, icmp, if_neg (by omega)]; split <;> decide
  go_enter Tryz.func185, Tryz.ntmps185
  go_wp2_with fail
  refine (compare_any p q n nc 1 mc xs [d] _ hA.len hB.len hA.cap hA.bnd hB.cap hB.bnd hA.rd hA.u hB.rd hB.u).mono ?_
  rintro e w1 ⟨rfl, hb1⟩
  go_wp2_with fail
  refine (clone_any p n nc xs _ hA.len (by omega) (hA.rd.below hb1)).mono ?_
  rintro e w2 ⟨rfl, rfl⟩
  obtain ⟨b, off, hq, hc⟩ := ((hB.rd.below hb1).alloc (.cells (ca .u32 xs) 79)) (by simp)
  have hc0 := hc 0 (by simp)
  rw [gx_zero, Nat.add_zero] at hc0
  subst hq
  clear hc
  go_wp2_with fail
  refine (divideByLimb_any w1.heap.size n n xs d _ (by rw [hA.len]; omega) (Nat.le_refl _) (by omega) (Row.new w1 _ _ _) hA.u hd hd').mono ?_
  rintro e w3 ⟨R, r, rfl, r1, r2, r3, r4, r5, r6, r7⟩
  go_wp2
  go_ret2
  have hl := hA.len
  rw [List.take_of_length_le (by omega), List.take_of_length_le (by omega)] at r5
  have hb3 : Below w.heap.size w w3 := below_grown (hb1.alloc hb1.size _) r7 (by simp; have := hb1.size; omega) hb1.size
  refine ⟨some ⟨w1.heap.size, 0, none⟩, n, R, some ⟨w3.heap.size, 0, none⟩, 1, [r], rfl, ⟨by omega, r6.rd_all.alloc _, r2, from_new hb1.size, rfl, (Row.new w3 79 .u32 [r]).rd_all, u32_one (by omega), from_new hb3.size, by rw [val_one, val_one]; exact r5, by rw [val_one, val_one]; exact r4, by omega, by omega, ⟨w3.heap.size, [r], rfl, Row.new w3 79 .u32 [r], rfl, u32_one (by omega)⟩, (r6.alloc _).fz 0, (Row.new w3 79 .u32 [r]).fz 0⟩, hb3.alloc hb3.size _⟩

end Go.Proofs.YtmjokfcojilidaaGreatDoor
/-
  Variables of two cells.
-/
namespace Go.Proofs.YtmjokfcojilidaaGreatDoor
open Go.RowKit
set_option linter.unusedVariables false
set_option linter.unusedSimpArgs false

/-- Two boxed arguments and two results' variables, in a world that is a letter. -/
structure Box4 (w W : World) (a0 a1 b0 b1 : Value) : Prop where
  size : w.heap.size + 1 + 1 + 1 + 1 ≤ W.heap.size
  below : Below w.heap.size w W
  ca0 : W.cell? ⟨w.heap.size, 0, none⟩ = some a0
  ca1 : W.cell? ⟨w.heap.size, 1, none⟩ = some a1
  cb0 : W.cell? ⟨w.heap.size + 1, 0, none⟩ = some b0
  cb1 : W.cell? ⟨w.heap.size + 1, 1, none⟩ = some b1
  cr0 : W.cell? ⟨w.heap.size + 1 + 1, 0, none⟩ = some (.bool false)
  cr1 : W.cell? ⟨w.heap.size + 1 + 1, 1, none⟩ = some (.slice none 0 0)
  cs0 : W.cell? ⟨w.heap.size + 1 + 1 + 1, 0, none⟩ = some (.bool false)
  cs1 : W.cell? ⟨w.heap.size + 1 + 1 + 1, 1, none⟩ = some (.slice none 0 0)
  fr0 : W.frozen? ⟨w.heap.size + 1 + 1, 0, none⟩ = false
  fr1 : W.frozen? ⟨w.heap.size + 1 + 1, 1, none⟩ = false
  fs0 : W.frozen? ⟨w.heap.size + 1 + 1 + 1, 0, none⟩ = false
  fs1 : W.frozen? ⟨w.heap.size + 1 + 1 + 1, 1, none⟩ = false
/-- A variable of two cells. -/
structure Bx (w : World) (r : Nat) (a0 a1 : Value) : Prop where
  c0 : w.cell? ⟨r, 0, none⟩ = some a0
  c1 : w.cell? ⟨r, 1, none⟩ = some a1
  f0 : w.frozen? ⟨r, 0, none⟩ = false
  f1 : w.frozen? ⟨r, 1, none⟩ = false
theorem Bx.later {w w' : World} {r : Nat} {a0 a1 : Value} (h : Bx w r a0 a1) (hb : Below w.heap.size w w') : Bx w' r a0 a1 := by
  obtain ⟨a, b, c, d⟩ := resbox hb h.c0 h.c1 h.f0 h.f1
  exact ⟨a, b, c, d⟩
theorem Bx.alloc {w : World} {r : Nat} {a0 a1 : Value} (h : Bx w r a0 a1) (o : Obj) : Bx (w.alloc o) r a0 a1 := h.later ((Below.refl _ _).alloc (Nat.le_refl _) o)
theorem Bx.drewN {w : World} {r : Nat} {a0 a1 : Value} (h : Bx w r a0 a1) (k : Nat) : Bx (w.drewN k) r a0 a1 := ⟨h.c0, h.c1, h.f0, h.f1⟩
theorem Bx.new {w : World} {r : Nat} (a0 a1 : Value) (t : Nat) (hr : r = w.heap.size) : Bx (w.alloc (.cells #[a0, a1] t)) r a0 a1 := by
  subst hr
  refine ⟨?_, ?_, ?_, ?_⟩ <;> simp [go_sem]
theorem boxes4 (w : World) (a0 a1 b0 b1 : Value) (t k : Nat) : Box4 w (((((w.alloc (.cells #[a0, a1] t)).alloc (.cells #[b0, b1] t)).alloc (.cells #[.bool false, .slice none 0 0] t)).alloc (.cells #[.bool false, .slice none 0 0] t)).drewN k) a0 a1 b0 b1 := by
  have h1 := ((((Bx.new (w := w) a0 a1 t rfl).alloc (.cells #[b0, b1] t)).alloc (.cells #[.bool false, .slice none 0 0] t)).alloc (.cells #[.bool false, .slice none 0 0] t)).drewN k
  have h2 := (((Bx.new (w := w.alloc (.cells #[a0, a1] t)) b0 b1 t (r := w.heap.size + 1) (World.size_alloc ..).symm).alloc (.cells #[.bool false, .slice none 0 0] t)).alloc (.cells #[.bool false, .slice none 0 0] t)).drewN k
  have h3 := ((Bx.new (w := (w.alloc (.cells #[a0, a1] t)).alloc (.cells #[b0, b1] t)) (.bool false) (.slice none 0 0) t (r := w.heap.size + 1 + 1) (by rw [World.size_alloc, World.size_alloc])).alloc (.cells #[.bool false, .slice none 0 0] t)).drewN k
  have h4 := (Bx.new (w := ((w.alloc (.cells #[a0, a1] t)).alloc (.cells #[b0, b1] t)).alloc (.cells #[.bool false, .slice none 0 0] t)) (.bool false) (.slice none 0 0) t (r := w.heap.size + 1 + 1 + 1) (by rw [World.size_alloc, World.size_alloc, World.size_alloc])).drewN k
  exact ⟨by simp, below_drewN (((((Below.refl _ _).alloc (Nat.le_refl _) _).alloc (by simp) _).alloc (by simp; omega) _).alloc (by simp; omega) _) k, h1.c0, h1.c1, h2.c0, h2.c1, h3.c0, h3.c1, h4.c0, h4.c1, h3.f0, h3.f1, h4.f0, h4.f1⟩
theorem Box4.later {w W W' : World} {a0 a1 b0 b1 : Value} (h : Box4 w W a0 a1 b0 b1) (hb : Below W.heap.size W W') : Box4 w W' a0 a1 b0 b1 := by
  obtain ⟨c0, c1, f0, f1⟩ := resbox hb h.cr0 h.cr1 h.fr0 h.fr1
  obtain ⟨d0, d1, g0, g1⟩ := resbox hb h.cs0 h.cs1 h.fs0 h.fs1
  exact ⟨Nat.le_trans h.size hb.size, h.below.trans (hb.mono (by have := h.size; omega)), cell_later hb h.ca0, cell_later hb h.ca1, cell_later hb h.cb0, cell_later hb h.cb1, c0, c1, d0, d1, f0, f1, g0, g1⟩

end Go.Proofs.YtmjokfcojilidaaGreatDoor
/-
  Numbers and boxes, carried on: small rules.
-/
namespace Go.Proofs.YtmjokfcojilidaaGreatDoor
open Go.RowKit
set_option linter.unusedVariables false
set_option linter.unusedSimpArgs false

theorem NI.hai {B : Nat} {w : World} {s : Bool} {p : Option Addr} {n : Nat} {xs : List Int} {z : Int} (h : NI B w s p n xs z) (hn : n ≤ 100) : AI w p n n xs := h.ai (by omega)

/-- What a callee leaves, as rules for the walk. -/
theorem bcell {W w1 : World} (hb : Below W.heap.size W w1) : (∀ b o, b < W.heap.size → w1.cell? ⟨b, o, none⟩ = W.cell? ⟨b, o, none⟩) ∧ (∀ b o, b < W.heap.size → w1.frozen? ⟨b, o, none⟩ = W.frozen? ⟨b, o, none⟩) :=
  ⟨fun b o h => hb.cell (p := ⟨b, o, none⟩) h, fun b o h => hb.frozen (p := ⟨b, o, none⟩) h⟩

/-- The same, with what it says of sizes. -/
theorem brules {X w3 : World} (hb : Below X.heap.size X w3) : (∀ b o, b < X.heap.size → w3.cell? ⟨b, o, none⟩ = X.cell? ⟨b, o, none⟩) ∧ (∀ b o, b < X.heap.size → w3.frozen? ⟨b, o, none⟩ = X.frozen? ⟨b, o, none⟩) ∧
    (∀ r, r < X.heap.size → r < w3.heap.size) ∧ (∀ r, r < X.heap.size → r ≤ w3.heap.size) ∧ (∀ r, r < X.heap.size → r ≤ w3.heap.size + 1) :=
  ⟨(bcell hb).1, (bcell hb).2, fun r h => Nat.lt_of_lt_of_le h hb.size, fun r h => Nat.le_of_lt (Nat.lt_of_lt_of_le h hb.size), fun r h => by have := hb.size; omega⟩

theorem bne {X w3 : World} (hb : Below X.heap.size X w3) : (∀ r, r < X.heap.size → r ≠ w3.heap.size) ∧ (∀ r, r < X.heap.size → w3.heap.size ≠ r) ∧ (∀ r, r < X.heap.size → r ≠ w3.heap.size + 1) ∧ (∀ r, r < X.heap.size → w3.heap.size + 1 ≠ r) := by
  have := hb.size
  exact ⟨fun r h => by omega, fun r h => by omega, fun r h => by omega, fun r h => by omega⟩
theorem bel_al {w x : World} {o : Obj} (h : Below w.heap.size w x) : Below w.heap.size w (x.alloc o) := h.alloc h.size o
theorem comp {X2 w2 X3 w3 : World} (h2 : Below X2.heap.size X2 w2) (hX : Below w2.heap.size w2 X3) (h3 : Below X3.heap.size X3 w3) : Below X2.heap.size X2 w3 :=
  (h2.trans (hX.mono h2.size)).trans (h3.mono (Nat.le_trans h2.size hX.size))

theorem NI_al {B : Nat} {w : World} {s : Bool} {p : Option Addr} {n : Nat} {xs : List Int} {z : Int} {o : Obj} (h : NI B w s p n xs z) : NI B (w.alloc o) s p n xs z := h.below ((Below.refl _ _).alloc (Nat.le_refl _) o)
theorem NI_st {B : Nat} {w : World} {s : Bool} {p : Option Addr} {n : Nat} {xs : List Int} {z : Int} {a : Addr} {v : Value} (h : NI B w s p n xs z) (ha : a.block < B) : NI B (w.setCell a v) s p n xs z := h.set ha v
theorem NI_st2 {B U : Nat} {w : World} {s : Bool} {p : Option Addr} {n : Nat} {xs : List Int} {z : Int} {a : Addr} {v : Value} (hU : ∀ x, p = some x → x.block < U) (ha : U ≤ a.block) (h : NI B w s p n xs z) : NI B (w.setCell a v) s p n xs z :=
  ⟨h.len, h.rd.set_other a v (fun b hb e => by have := hU b hb; omega), h.u, h.nrm, h.sg, h.pn, h.v, h.fr, h.fz.set a v⟩
theorem NI_st3 {B F : Nat} {w : World} {s : Bool} {p : Option Addr} {n : Nat} {xs : List Int} {z : Int} {a : Addr} {v : Value} (hF : From F p) (ha : a.block < F) (h : NI B w s p n xs z) : NI B (w.setCell a v) s p n xs z :=
  ⟨h.len, h.rd.set_other a v (fun b hb e => by have := hF b hb; omega), h.u, h.nrm, h.sg, h.pn, h.v, h.fr, h.fz.set a v⟩
theorem NI.lt {B : Nat} {w : World} {s : Bool} {p : Option Addr} {n : Nat} {xs : List Int} {z : Int} (h : NI B w s p n xs z) : ∀ x, p = some x → x.block < w.heap.size := fun x hx => by
  rcases Nat.eq_zero_or_pos n with h0 | h0
  · rw [h.pn h0] at hx; cases hx
  · obtain ⟨b, off, hp, hlt⟩ := h.rd.lt (by rw [h.len]; exact h0)
    rw [hp] at hx; cases hx; exact hlt
theorem Bx_al {w : World} {r : Nat} {u v : Value} {o : Obj} (h : Bx w r u v) : Bx (w.alloc o) r u v := h.alloc o
theorem Bx_new {w : World} {r t : Nat} {u v : Value} (h : r = w.heap.size) : Bx (w.alloc (.cells #[u, v] t)) r u v := Bx.new u v t h
theorem Bx_set {w : World} {g : Nat} {u v x y : Value} (h : Bx w g u v) : Bx ((w.setCell ⟨g, 0, none⟩ x).setCell ⟨g, 1, none⟩ y) g x y := by
  have h1 : (w.setCell ⟨g, 0, none⟩ x).cell? ⟨g, 1, none⟩ = some v := by rw [World.cell?_setCell_other _ _ _ _ (by simp)]; exact h.c1
  refine ⟨?_, World.cell?_setCell_same _ _ _ h1, ?_, ?_⟩
  · rw [World.cell?_setCell_other _ _ _ _ (by simp)]; exact World.cell?_setCell_same _ _ _ h.c0
  · rw [World.frozen?_setCell, World.frozen?_setCell]; exact h.f0
  · rw [World.frozen?_setCell, World.frozen?_setCell]; exact h.f1
theorem Bx_oth {w : World} {r g : Nat} {u v x y : Value} (h : Bx w r u v) (hne : r ≠ g) : Bx ((w.setCell ⟨g, 0, none⟩ x).setCell ⟨g, 1, none⟩ y) r u v := by
  have e : ((w.setCell ⟨g, 0, none⟩ x).setCell ⟨g, 1, none⟩ y).heap[r]? = w.heap[r]? := (heap_setCell_other _ _ r y hne).trans (heap_setCell_other _ _ r x hne)
  exact ⟨(World.cell?_of_block (a := ⟨r, 0, none⟩) e).trans h.c0, (World.cell?_of_block (a := ⟨r, 1, none⟩) e).trans h.c1, (World.frozen?_of_block (a := ⟨r, 0, none⟩) e).trans h.f0, (World.frozen?_of_block (a := ⟨r, 1, none⟩) e).trans h.f1⟩
theorem Bel_al {B : Nat} {w x : World} {o : Obj} (h : Below B w x) (hB : B ≤ w.heap.size) : Below B w (x.alloc o) := h.alloc (Nat.le_trans hB h.size) o
theorem Bel_st {B : Nat} {w x : World} {a : Addr} {v : Value} (h : Below B w x) (ha : B ≤ a.block) : Below B w (x.setCell a v) := h.setCell ha v
end Go.Proofs.YtmjokfcojilidaaGreatDoor
/-
  Numbers carried on behind calls and stores.
-/
namespace Go.Proofs.YtmjokfcojilidaaGreatDoor
open Go.RowKit
set_option linter.unusedVariables false
set_option linter.unusedSimpArgs false

theorem AI.setF {w : World} {p : Option Addr} {n nc F : Nat} {xs : List Int} (h : AI w p n nc xs) (hF : Go.Proofs.YtmjokfcojilidaaGreatDoor.From F p) {a : Addr} (ha : a.block < F) (v : Value) : AI (w.setCell a v) p n nc xs :=
  ⟨h.len, h.cap, h.bnd, h.sml, h.rd.set_other a v (fun b hb e => by have := hF b hb; omega), h.u⟩
theorem AI.set2 {w : World} {p : Option Addr} {n nc F : Nat} {xs : List Int} (h : AI w p n nc xs) (hF : Go.Proofs.YtmjokfcojilidaaGreatDoor.From F p) {g : Nat} (hg : g < F) (u v : Value) : AI ((w.setCell ⟨g, 0, none⟩ u).setCell ⟨g, 1, none⟩ v) p n nc xs :=
  (h.setF hF (a := ⟨g, 0, none⟩) hg u).setF hF (a := ⟨g, 1, none⟩) hg v
theorem From.mono {B F : Nat} {p : Option Addr} (h : Go.Proofs.YtmjokfcojilidaaGreatDoor.From F p) (hB : B ≤ F) : Go.Proofs.YtmjokfcojilidaaGreatDoor.From B p := fun a ha => Nat.le_trans hB (h a ha)
/-- One call more. -/
theorem bnext {B : Nat} {a b c : World} (h : Below B a b) (hB : B ≤ a.heap.size) (k : Below b.heap.size b c) : Below B a c := h.trans (k.mono (Nat.le_trans hB h.size))
theorem bnext' {a b c : World} (h : Below a.heap.size a b) (k : Below b.heap.size b c) : Below a.heap.size a c := bnext h (Nat.le_refl _) k
theorem bset2 {B g : Nat} {a b : World} (h : Below B a b) (hg : B ≤ g) (u v : Value) : Below B a ((b.setCell ⟨g, 0, none⟩ u).setCell ⟨g, 1, none⟩ v) := (h.setCell (p := ⟨g, 0, none⟩) hg u).setCell (p := ⟨g, 1, none⟩) hg v
theorem keepc6 {w1 w2 : World} {a b c d e f : Addr} {u v x y z t : Value} (h : w1.cell? a = some u ∧ w1.cell? b = some v ∧ w1.cell? c = some x ∧ w1.cell? d = some y ∧ w1.cell? e = some z ∧ w1.cell? f = some t) (hb : Below w1.heap.size w1 w2) :
    w2.cell? a = some u ∧ w2.cell? b = some v ∧ w2.cell? c = some x ∧ w2.cell? d = some y ∧ w2.cell? e = some z ∧ w2.cell? f = some t :=
  ⟨cell_later hb h.1, cell_later hb h.2.1, cell_later hb h.2.2.1, cell_later hb h.2.2.2.1, cell_later hb h.2.2.2.2.1, cell_later hb h.2.2.2.2.2⟩
end Go.Proofs.YtmjokfcojilidaaGreatDoor
/-
  How long a number of a value is; numbers off a block; signs.
-/
namespace Go.Proofs.YtmjokfcojilidaaGreatDoor
open Go.RowKit
set_option linter.unusedVariables false
set_option linter.unusedSimpArgs false

theorem NI.le {B : Nat} {w : World} {s : Bool} {p : Option Addr} {n : Nat} {xs : List Int} {z : Int} (h : NI B w s p n xs z) {k : Nat} (hz : (z.natAbs : Int) < pw k) : n ≤ k := by
  have hv : (z.natAbs : Int) = val xs := by
    have := val_nonneg h.u
    rw [← h.v, ival]
    split <;> omega
  rcases Nat.eq_zero_or_pos n with h0 | h0
  · omega
  · have h1 := val_pos_of_top h.u (by rw [h.nrm]; exact h0)
    rw [h.nrm] at h1
    have h2 : n - 1 < k := by
      rcases Nat.lt_or_ge (n - 1) k with h3 | h3
      · exact h3
      · have := pw_mono h3; omega
    omega
theorem AI.lt {w : World} {p : Option Addr} {n nc : Nat} {xs : List Int} (h : AI w p n nc xs) (s : Bool) : ((ival s xs).natAbs : Int) < pw n := by
  have h1 := val_nonneg h.u
  have h2 := val_lt_tlen h.u
  have h3 := pw_mono (tlen_le xs)
  rw [h.len] at h3
  rw [ival]
  split <;> omega
theorem off_from {B g : Nat} {p : Option Addr} (h : Go.Proofs.YtmjokfcojilidaaGreatDoor.From B p) (hg : g < B) : Off g p := fun a ha e => by have := h a ha; omega
theorem AI.off {w : World} {p : Option Addr} {n nc : Nat} {xs : List Int} (h : AI w p n nc xs) {g : Nat} (hg : w.heap.size ≤ g) : 0 < n → Off g p := fun hn => h.rd.off hg (by rw [h.len]; exact hn)
theorem isgn_pos {z : Int} (h : 0 < z) : isgn z = 1 := by unfold isgn; rw [if_neg (by omega), if_neg (by omega)]
theorem isgn_neg {z : Int} (h : z < 0) : isgn z = -1 := by unfold isgn; rw [if_neg (by omega), if_pos h]
theorem isgn_zero {z : Int} (h : z = 0) : isgn z = 0 := by unfold isgn; rw [if_pos h]
end Go.Proofs.YtmjokfcojilidaaGreatDoor
