/-
  limbs.quotient by a size that is greater or has one limb; limbs.Quo out of a contract of quotient.
-/
import Derived.Test.YtlhgpejapmpcmaaGreatDoorWk
namespace Go.Proofs.YtlhgpejapmpcmaaGreatDoor
open Go.RowKit
set_option linter.unusedVariables false
set_option linter.unusedSimpArgs false

/-- A quotient and what is left, in memory from block B on. -/
structure QR (B : Nat) (w : World) (qa : Option Addr) (qn : Nat) (qs : List Int) (ra : Option Addr) (rn : Nat) (rs : List Int) (x y : Int) (n : Nat) : Prop where
  ql : qs.length = qn
  qrd : Rd w qa .u32 qs
  qu : U32 qs
  qf : From B qa
  rl : rs.length = rn
  rrd : Rd w ra .u32 rs
  ru : U32 rs
  rf : From B ra
  eq : val qs * y + val rs = x
  lt : val rs < y
  qb : qn ≤ n + 1
  rb : rn ≤ n + 1
  row : ∃ g Z, ra = some ⟨g, 0, none⟩ ∧ Row w g 98 .u32 Z ∧ Z.take rn = rs ∧ U32 Z
  qz : Fz w qa
  rz : Fz w ra
theorem QR.below {B : Nat} {w w' : World} {qa : Option Addr} {qn : Nat} {qs : List Int} {ra : Option Addr} {rn : Nat} {rs : List Int} {x y : Int} {n : Nat} (h : QR B w qa qn qs ra rn rs x y n) (hb : Below w.heap.size w w') : QR B w' qa qn qs ra rn rs x y n :=
  ⟨h.ql, h.qrd.below hb, h.qu, h.qf, h.rl, h.rrd.below hb, h.ru, h.rf, h.eq, h.lt, h.qb, h.rb, by obtain ⟨g, Z, h1, h2, h3⟩ := h.row; exact ⟨g, Z, h1, h2.below hb h2.lt, h3⟩, h.qz.below hb, h.rz.below hb⟩

set_option maxHeartbeats 1000000 in
/-- limbs.quotient: the size is below the other. -/
theorem quotient_lt (p q : Option Addr) (n nc m mc : Nat) (xs ys : List Int) (w : World) (hA : AI w p n nc xs) (hB : AI w q m mc ys) (hlt : val xs < val ys) :
    Calls Tryz.prog 137 #[.slice p n nc, .slice q m mc] w fun e w' => ∃ qa qn qs ra rn rs, e = .returned (.tuple #[.slice qa qn qn, .slice ra rn rn]) ∧ QR w.heap.size w' qa qn qs ra rn rs (val xs) (val ys) n ∧ Below w.heap.size w w' := by
  have hs := hA.sml
  go_enter Tryz.func137, Tryz.ntmps137
  go_wp2_with fail
  refine (compare_any p q n nc m mc xs ys _ hA.len hB.len hA.cap hA.bnd hB.cap hB.bnd hA.rd hA.u hB.rd hB.u).mono ?_
  rw [icmp_lt hlt]
  rintro e w1 ⟨rfl, hb1⟩
  go_wp2_with fail
  refine (clone_any p n nc xs _ hA.len (by omega) (hA.rd.below hb1)).mono ?_
  rintro e w2 ⟨rfl, rfl⟩
  go_wp2
  go_ret2
  refine ⟨none, 0, [], some ⟨w1.heap.size, 0, none⟩, n, xs, rfl, ⟨rfl, Rd.nil, u32_nil, from_none, hA.len, (Row.new w1 _ _ _).rd_all, hA.u, from_new hb1.size, by simp [val], hlt, by omega, by omega, ⟨w1.heap.size, xs, rfl, Row.new w1 _ _ _, List.take_of_length_le (by rw [hA.len]; omega), hA.u⟩, Fz.nil _, (Row.new w1 _ _ _).fz 0⟩, hb1.alloc hb1.size _⟩

set_option maxHeartbeats 1000000 in
/-- limbs.quotient: by one limb. -/
theorem quotient_one (p q : Option Addr) (n nc mc : Nat) (xs : List Int) (d : Int) (w : World) (hA : AI w p n nc xs) (hB : AI w q 1 mc [d]) (hd : 0 < d) (hle : d ≤ val xs) :
    Calls Tryz.prog 137 #[.slice p n nc, .slice q 1 mc] w fun e w' => ∃ qa qn qs ra rn rs, e = .returned (.tuple #[.slice qa qn qn, .slice ra rn rn]) ∧ QR w.heap.size w' qa qn qs ra rn rs (val xs) (val [d]) n ∧ Below w.heap.size w w' := by
  have hs := hA.sml
  have hd' : d < 4294967296 := by have := hB.u 0; rw [gx_zero] at this; omega
  have hic : ¬ icmp (val xs) (val [d]) < 0 := by
    rw [val_one, icmp, if_neg (by omega)]; split <;> decide
  go_enter Tryz.func137, Tryz.ntmps137
  go_wp2_with fail
  refine (compare_any p q n nc 1 mc xs [d] _ hA.len hB.len hA.cap hA.bnd hB.cap hB.bnd hA.rd hA.u hB.rd hB.u).mono ?_
  rintro e w1 ⟨rfl, hb1⟩
  go_wp2_with fail
  refine (clone_any p n nc xs _ hA.len (by omega) (hA.rd.below hb1)).mono ?_
  rintro e w2 ⟨rfl, rfl⟩
  obtain ⟨b, off, hq, hc⟩ := ((hB.rd.below hb1).alloc (.cells (ca .u32 xs) 98)) (by simp)
  have hc0 := hc 0 (by simp)
  rw [gx_zero, Nat.add_zero] at hc0
  subst hq
  clear hc
  go_wp2_with fail
  refine (divideByLimb_any w1.heap.size n n xs d _ (by rw [hA.len]; omega) (Nat.le_refl _) (by omega) (Row.new w1 _ _ _) hA.u hd hd').mono ?_
  rintro e w3 ⟨R, r, rfl, r1, r2, r3, r4, r5, r6, r7⟩
  go_wp2
  go_ret2
  have hl := hA.len
  rw [List.take_of_length_le (by omega), List.take_of_length_le (by omega)] at r5
  have hb3 : Below w.heap.size w w3 := below_grown (hb1.alloc hb1.size _) r7 (by simp; have := hb1.size; omega) hb1.size
  refine ⟨some ⟨w1.heap.size, 0, none⟩, n, R, some ⟨w3.heap.size, 0, none⟩, 1, [r], rfl, ⟨by omega, r6.rd_all.alloc _, r2, from_new hb1.size, rfl, (Row.new w3 98 .u32 [r]).rd_all, u32_one (by omega), from_new hb3.size, by rw [val_one, val_one]; exact r5, by rw [val_one, val_one]; exact r4, by omega, by omega, ⟨w3.heap.size, [r], rfl, Row.new w3 98 .u32 [r], rfl, u32_one (by omega)⟩, (r6.alloc _).fz 0, (Row.new w3 98 .u32 [r]).fz 0⟩, hb3.alloc hb3.size _⟩

end Go.Proofs.YtlhgpejapmpcmaaGreatDoor
/-
  Variables of two cells.
-/
namespace Go.Proofs.YtlhgpejapmpcmaaGreatDoor
open Go.RowKit
set_option linter.unusedVariables false
set_option linter.unusedSimpArgs false

/-- Two boxed arguments and two results' variables, in a world that is a letter. -/
structure Box4 (w W : World) (a0 a1 b0 b1 : Value) : Prop where
  size : w.heap.size + 1 + 1 + 1 + 1 ≤ W.heap.size
  below : Below w.heap.size w W
  ca0 : W.cell? ⟨w.heap.size, 0, none⟩ = some a0
  ca1 : W.cell? ⟨w.heap.size, 1, none⟩ = some a1
  cb0 : W.cell? ⟨w.heap.size + 1, 0, none⟩ = some b0
  cb1 : W.cell? ⟨w.heap.size + 1, 1, none⟩ = some b1
  cr0 : W.cell? ⟨w.heap.size + 1 + 1, 0, none⟩ = some (.bool false)
  cr1 : W.cell? ⟨w.heap.size + 1 + 1, 1, none⟩ = some (.slice none 0 0)
  cs0 : W.cell? ⟨w.heap.size + 1 + 1 + 1, 0, none⟩ = some (.bool false)
  cs1 : W.cell? ⟨w.heap.size + 1 + 1 + 1, 1, none⟩ = some (.slice none 0 0)
  fr0 : W.frozen? ⟨w.heap.size + 1 + 1, 0, none⟩ = false
  fr1 : W.frozen? ⟨w.heap.size + 1 + 1, 1, none⟩ = false
  fs0 : W.frozen? ⟨w.heap.size + 1 + 1 + 1, 0, none⟩ = false
  fs1 : W.frozen? ⟨w.heap.size + 1 + 1 + 1, 1, none⟩ = false
/-- A variable of two cells. -/
structure Bx (w : World) (r : Nat) (a0 a1 : Value) : Prop where
  c0 : w.cell? ⟨r, 0, none⟩ = some a0
  c1 : w.cell? ⟨r, 1, none⟩ = some a1
  f0 : w.frozen? ⟨r, 0, none⟩ = false
  f1 : w.frozen? ⟨r, 1, none⟩ = false
theorem Bx.later {w w' : World} {r : Nat} {a0 a1 : Value} (h : Bx w r a0 a1) (hb : Below w.heap.size w w') : Bx w' r a0 a1 := by
  obtain ⟨a, b, c, d⟩ := resbox hb h.c0 h.c1 h.f0 h.f1
  exact ⟨a, b, c, d⟩
theorem Bx.alloc {w : World} {r : Nat} {a0 a1 : Value} (h : Bx w r a0 a1) (o : Obj) : Bx (w.alloc o) r a0 a1 := h.later ((Below.refl _ _).alloc (Nat.le_refl _) o)
theorem Bx.drewN {w : World} {r : Nat} {a0 a1 : Value} (h : Bx w r a0 a1) (k : Nat) : Bx (w.drewN k) r a0 a1 := ⟨h.c0, h.c1, h.f0, h.f1⟩
theorem Bx.new {w : World} {r : Nat} (a0 a1 : Value) (t : Nat) (hr : r = w.heap.size) : Bx (w.alloc (.cells #[a0, a1] t)) r a0 a1 := by
  subst hr
  refine ⟨?_, ?_, ?_, ?_⟩ <;> simp [go_sem]
theorem boxes4 (w : World) (a0 a1 b0 b1 : Value) (t k : Nat) : Box4 w (((((w.alloc (.cells #[a0, a1] t)).alloc (.cells #[b0, b1] t)).alloc (.cells #[.bool false, .slice none 0 0] t)).alloc (.cells #[.bool false, .slice none 0 0] t)).drewN k) a0 a1 b0 b1 := by
  have h1 := ((((Bx.new (w := w) a0 a1 t rfl).alloc (.cells #[b0, b1] t)).alloc (.cells #[.bool false, .slice none 0 0] t)).alloc (.cells #[.bool false, .slice none 0 0] t)).drewN k
  have h2 := (((Bx.new (w := w.alloc (.cells #[a0, a1] t)) b0 b1 t (r := w.heap.size + 1) (World.size_alloc ..).symm).alloc (.cells #[.bool false, .slice none 0 0] t)).alloc (.cells #[.bool false, .slice none 0 0] t)).drewN k
  have h3 := ((Bx.new (w := (w.alloc (.cells #[a0, a1] t)).alloc (.cells #[b0, b1] t)) (.bool false) (.slice none 0 0) t (r := w.heap.size + 1 + 1) (by rw [World.size_alloc, World.size_alloc])).alloc (.cells #[.bool false, .slice none 0 0] t)).drewN k
  have h4 := (Bx.new (w := ((w.alloc (.cells #[a0, a1] t)).alloc (.cells #[b0, b1] t)).alloc (.cells #[.bool false, .slice none 0 0] t)) (.bool false) (.slice none 0 0) t (r := w.heap.size + 1 + 1 + 1) (by rw [World.size_alloc, World.size_alloc, World.size_alloc])).drewN k
  exact ⟨by simp, below_drewN (((((Below.refl _ _).alloc (Nat.le_refl _) _).alloc (by simp) _).alloc (by simp; omega) _).alloc (by simp; omega) _) k, h1.c0, h1.c1, h2.c0, h2.c1, h3.c0, h3.c1, h4.c0, h4.c1, h3.f0, h3.f1, h4.f0, h4.f1⟩
theorem Box4.later {w W W' : World} {a0 a1 b0 b1 : Value} (h : Box4 w W a0 a1 b0 b1) (hb : Below W.heap.size W W') : Box4 w W' a0 a1 b0 b1 := by
  obtain ⟨c0, c1, f0, f1⟩ := resbox hb h.cr0 h.cr1 h.fr0 h.fr1
  obtain ⟨d0, d1, g0, g1⟩ := resbox hb h.cs0 h.cs1 h.fs0 h.fs1
  exact ⟨Nat.le_trans h.size hb.size, h.below.trans (hb.mono (by have := h.size; omega)), cell_later hb h.ca0, cell_later hb h.ca1, cell_later hb h.cb0, cell_later hb h.cb1, c0, c1, d0, d1, f0, f1, g0, g1⟩

end Go.Proofs.YtlhgpejapmpcmaaGreatDoor
/-
  Owned rows are read.
-/
namespace Go.Proofs.YtlhgpejapmpcmaaGreatDoor
open Go.RowKit
set_option linter.unusedVariables false
set_option linter.unusedSimpArgs false

theorem rd_owns {w : World} {base g n cap : Nat} {e : TypeId} {xs : List Int} {k : IntKind} (h : w.ownsRow base e 1 (.slice (some ⟨g, 0, none⟩) n cap) n (xs.map (Value.int k))) : Rd w (some ⟨g, 0, none⟩) k xs := fun hx =>
  ⟨g, 0, rfl, fun j hj => by
    have := h.cells (g := g) rfl j (.int k (gx xs j)) (by rw [List.getElem?_map, List.getElem?_eq_getElem hj, gx_mem xs j hj]; rfl)
    rw [Addr.add_mid] at this
    exact this⟩

end Go.Proofs.YtlhgpejapmpcmaaGreatDoor
