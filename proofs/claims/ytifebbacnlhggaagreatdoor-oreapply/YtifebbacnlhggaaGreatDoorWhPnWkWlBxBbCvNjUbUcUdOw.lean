/-
  limbs.Sign.
-/
import Derived.Test.YtifebbacnlhggaaGreatDoorNiUa
import Derived.Test.YtifebbacnlhggaaGreatDoorPlMmNaWa
import Derived.Deep.DeepCutAuto
namespace Go.Proofs.YtifebbacnlhggaaGreatDoor
open Go.RowKit
set_option linter.unusedVariables false
set_option linter.unusedSimpArgs false

/-- The sign of an integer. -/
def isgn (z : Int) : Int := if z = 0 then 0 else if z < 0 then -1 else 1

theorem isgn_ival_zero {s : Bool} {xs : List Int} (hU : U32 xs) (h : tlen xs = 0) : isgn (ival s xs) = 0 := by
  have := (tlen_zero_iff hU).1 h
  cases s <;> simp [ival, isgn, this]
theorem isgn_ival {s : Bool} {xs : List Int} (hU : U32 xs) (h : tlen xs ≠ 0) : isgn (ival s xs) = if s then -1 else 1 := by
  have h1 : val xs ≠ 0 := fun e => h ((tlen_zero_iff hU).2 e)
  have h2 := val_nonneg hU
  cases s
  · simp only [ival, isgn, Bool.false_eq_true, if_false]; rw [if_neg h1, if_neg (by omega)]
  · simp only [ival, isgn, if_true]; rw [if_neg (by omega), if_pos (by omega)]

set_option maxHeartbeats 400000 in
/-- limbs.Sign. -/
theorem Sign_any (s : Bool) (p : Option Addr) (n nc : Nat) (xs : List Int) (w : World) (hA : AI w p n nc xs) :
    Calls Tryz.prog 45 #[.agg #[.bool s, .slice p n nc]] w fun e w' => e = .returned (.int .i64 (isgn (ival s xs))) ∧ Below w.heap.size w w' := by
  have tx := tlen_le xs
  by_cases h0 : tlen xs = 0
  · rw [isgn_ival_zero hA.u h0]
    go_enter Tryz.func45, Tryz.ntmps45
    go_wp2_with (go_at_call 94; refine (trim_any p n nc xs _ hA.len hA.cap hA.bnd (hA.rd.alloc _)).mono ?_; rintro e w' ⟨rfl, rfl⟩)
    go_ret
    exact ⟨rfl, (Below.refl _ _).alloc (Nat.le_refl _) _⟩
  · rw [isgn_ival hA.u h0]
    have h1 : (((tlen xs : Nat) : Int) == 0) = false := beq_eq_false_iff_ne.2 (by omega)
    cases s
    all_goals
      go_enter Tryz.func45, Tryz.ntmps45
      go_wp2_with (go_at_call 94; refine (trim_any p n nc xs _ hA.len hA.cap hA.bnd (hA.rd.alloc _)).mono ?_; rintro e w' ⟨rfl, rfl⟩)
      go_ret
      exact ⟨rfl, (Below.refl _ _).alloc (Nat.le_refl _) _⟩

end Go.Proofs.YtifebbacnlhggaaGreatDoor
/-
  Plain facts, further: a part of a row that is written entry by entry.
-/
namespace Go.Proofs.YtifebbacnlhggaaGreatDoor
open Go.RowKit
set_option linter.unusedVariables false
set_option linter.unusedSimpArgs false

/-- The row with R in the place of the n entries from o on. -/
def mid (Z : List Int) (o : Nat) (R : List Int) : List Int := Z.take o ++ R ++ Z.drop (o + R.length)
theorem mid_length (Z R : List Int) (o : Nat) (h : o + R.length ≤ Z.length) : (mid Z o R).length = Z.length := row_length Z R o h
theorem mid_gx (Z R : List Int) (o j : Nat) (h : o + R.length ≤ Z.length) (hj : j < R.length) : gx (mid Z o R) (o + j) = gx R j := row_gx_new Z R o j _ (by omega) hj
theorem mid_set (Z R : List Int) (o j : Nat) (v : Int) (h : o + R.length ≤ Z.length) (hj : j < R.length) : (mid Z o R).set (o + j) v = mid Z o (R.set j v) := by
  have hl : (Z.take o).length = o := by simp; omega
  unfold mid
  rw [List.append_assoc, List.set_append_right _ _ (by omega), hl, Nat.add_sub_cancel_left, List.set_append_left _ _ hj, List.append_assoc, List.length_set]
theorem mid_self (Z : List Int) (o n : Nat) (h : o + n ≤ Z.length) : mid Z o ((Z.drop o).take n) = Z := by
  unfold mid
  rw [part_length Z o n h, List.append_assoc]
  have : (Z.drop o).take n ++ Z.drop (o + n) = Z.drop o := by
    rw [← List.drop_drop]; exact List.take_append_drop n (Z.drop o)
  rw [this, List.take_append_drop]
theorem mid_zero (Z R : List Int) (h : R.length = Z.length) : mid Z 0 R = R := by simp [mid, h]
theorem val_set (R : List Int) (j : Nat) (v : Int) (h : j < R.length) : val (R.set j v) = val R + pw j * (v - gx R j) := by
  have e1 := val_at R j h
  have e2 := val_at (R.set j v) j (by simpa using h)
  rw [List.take_set_of_le (Nat.le_refl _), List.drop_set_of_lt (by omega), gx_set_eq R j v h] at e2
  rw [e2, e1, Int.mul_sub]
  omega
theorem u32_set {R : List Int} (h : U32 R) (j : Nat) {v : Int} (hv : 0 ≤ v ∧ v < 4294967296) : U32 (R.set j v) := fun k => by
  by_cases hk : j = k
  · subst hk
    by_cases hl : j < R.length
    · rw [gx_set_eq R j v hl]; exact hv
    · rw [gx_past _ _ (Nat.le_refl _) j (by simp; omega)]; decide
  · rw [gx_set_ne R j k v hk]; exact h k
theorem Row.mid_cell {w : World} {g : Nat} {e : TypeId} {k : IntKind} {Z R : List Int} {o : Nat} (hr : Row w g e k (mid Z o R)) (h : o + R.length ≤ Z.length) (j : Nat) (hj : j < R.length) : w.cell? ⟨g, o + j, none⟩ = some (.int k (gx R j)) := by
  have := hr.cell (o + j) (by rw [mid_length Z R o h]; omega)
  rwa [mid_gx Z R o j h hj] at this
theorem Row.mid_set {w : World} {g : Nat} {e : TypeId} {k : IntKind} {Z R : List Int} {o : Nat} (hr : Row w g e k (mid Z o R)) (h : o + R.length ≤ Z.length) (j : Nat) (hj : j < R.length) (v : Int) : Row (w.setCell ⟨g, o + j, none⟩ (.int k v)) g e k (mid Z o (R.set j v)) := by
  have := hr.set (o + j) v
  rwa [Proofs.YtifebbacnlhggaaGreatDoor.mid_set Z R o j v h hj] at this
/-- A limb times a limb, a limb and a carry: it fits into two limbs. -/
theorem mul_bd {v x : Int} (h1 : 0 ≤ v ∧ v < 4294967296) (h2 : 0 ≤ x ∧ x < 4294967296) : 0 ≤ v * x ∧ v * x ≤ 18446744065119617025 := by
  refine ⟨Int.mul_nonneg h1.1 h2.1, ?_⟩
  have a1 : v * x ≤ v * 4294967295 := Int.mul_le_mul_of_nonneg_left (by omega) h1.1
  omega
theorem drop_cons (l : List Int) (j : Nat) (h : j < l.length) : l.drop j = gx l j :: l.drop (j + 1) := by rw [gx_mem l j h]; exact List.drop_eq_getElem_cons h
end Go.Proofs.YtifebbacnlhggaaGreatDoor
/-
  limbs.Of, join, Mod, divideByLimb.
-/
namespace Go.Proofs.YtifebbacnlhggaaGreatDoor
open Go.RowKit
set_option linter.unusedVariables false
set_option linter.unusedSimpArgs false

theorem words_u32 (m : Int) (h0 : 0 ≤ m) (h1 : m < 18446744073709551616) : U32 [m % 4294967296, m / 4294967296] := u32_append (u32_one (by omega)) (u32_one (by omega))
theorem words_val (m : Int) : val [m % 4294967296, m / 4294967296] = m := by simp only [val]; omega

set_option maxHeartbeats 1000000 in
/-- limbs.Of. -/
theorem Of_any (z : Int) (w : World) (h0 : -9223372036854775808 ≤ z) (h1 : z ≤ 9223372036854775807) :
    Calls Tryz.prog 48 #[.int .i64 z] w fun e w' => ∃ s' p' n' zs, e = .returned (.agg #[.bool s', .slice p' n' n']) ∧ NI w.heap.size w' s' p' n' zs z ∧ n' ≤ 2 ∧ Below w.heap.size w w' := by
  by_cases hn : z < 0
  · have HL : tlen [(-(z + 1) + 1) % 4294967296, (-(z + 1) + 1) / 4294967296] ≤ 2 := tlen_le _
    go_enter Tryz.func48, Tryz.ntmps48
    go_wp2_with fail
    refine (words_any (-(z + 1) + 1) _ (by omega) (by omega)).mono ?_
    rintro e w' ⟨rfl, rfl⟩
    go_wp2_with fail
    refine (number_any true (some ⟨w.heap.size + 1, 0, none⟩) 2 2 [(-(z + 1) + 1) % 4294967296, (-(z + 1) + 1) / 4294967296] _ rfl (Nat.le_refl _) (by unfold maxLen; decide) (Row.new1 w _ _ _ _).rd_all).mono ?_
    rintro e w1 ⟨rfl, hb⟩
    obtain ⟨c0, c1, f0, f1⟩ := resbox (r := w.heap.size) (u := .bool false) (v := .slice none 0 0) hb (by simp [go_sem, World.cell?_alloc_past]) (by simp [go_sem, World.cell?_alloc_past]) (by simp [go_sem]) (by simp [go_sem])
    have hU := words_u32 (-(z + 1) + 1) (by omega) (by omega)
    have hV : ival true [(-(z + 1) + 1) % 4294967296, (-(z + 1) + 1) / 4294967296] = z := by simp only [ival, words_val, if_true, if_false, Bool.false_eq_true] <;> omega
    generalize [(-(z + 1) + 1) % 4294967296, (-(z + 1) + 1) / 4294967296] = ys at *
    have hN := ni_number (B := w.heap.size + 1) (q := some ⟨w.heap.size + 1, 0, none⟩) true (Row.new1 w (.cells #[.bool false, .slice none 0 0] 24) 81 .u32 ys).rd_all hU (from_new (Nat.le_refl _)) ((Row.new1 w (.cells #[.bool false, .slice none 0 0] 24) 81 .u32 ys).fz 0)
    rw [hV] at hN
    have hN2 := hN.below hb
    have ht : tlen ys ≤ 2 := HL
    go_wp2
    refine bodyPost_ret (v := .agg #[.bool (nsg true ys), .slice (nad (some ⟨w.heap.size + 1, 0, none⟩) ys) (tlen ys) (tlen ys)]) (by simp [results, Tryz.results48, go_sem, c0, c1]) rfl ⟨_, _, _, tr ys, rfl, ?_, ht, ?_⟩
    · exact ((hN2.set (by simp) _).set (by simp) _).mono (by omega)
    · exact (((((Below.refl _ _).alloc (Nat.le_refl _) _).alloc (by simp) _).trans (hb.mono (by simp; omega))).setCell (by simp) _).setCell (by simp) _
  · have HL : tlen [z % 4294967296, z / 4294967296] ≤ 2 := tlen_le _
    go_enter Tryz.func48, Tryz.ntmps48
    go_wp2_with fail
    refine (words_any (z) _ (by omega) (by omega)).mono ?_
    rintro e w' ⟨rfl, rfl⟩
    go_wp2_with fail
    refine (number_any false (some ⟨w.heap.size + 1, 0, none⟩) 2 2 [(z) % 4294967296, (z) / 4294967296] _ rfl (Nat.le_refl _) (by unfold maxLen; decide) (Row.new1 w _ _ _ _).rd_all).mono ?_
    rintro e w1 ⟨rfl, hb⟩
    obtain ⟨c0, c1, f0, f1⟩ := resbox (r := w.heap.size) (u := .bool false) (v := .slice none 0 0) hb (by simp [go_sem, World.cell?_alloc_past]) (by simp [go_sem, World.cell?_alloc_past]) (by simp [go_sem]) (by simp [go_sem])
    have hU := words_u32 (z) (by omega) (by omega)
    have hV : ival false [(z) % 4294967296, (z) / 4294967296] = z := by simp only [ival, words_val, if_true, if_false, Bool.false_eq_true] <;> omega
    generalize [(z) % 4294967296, (z) / 4294967296] = ys at *
    have hN := ni_number (B := w.heap.size + 1) (q := some ⟨w.heap.size + 1, 0, none⟩) false (Row.new1 w (.cells #[.bool false, .slice none 0 0] 24) 81 .u32 ys).rd_all hU (from_new (Nat.le_refl _)) ((Row.new1 w (.cells #[.bool false, .slice none 0 0] 24) 81 .u32 ys).fz 0)
    rw [hV] at hN
    have hN2 := hN.below hb
    have ht : tlen ys ≤ 2 := HL
    go_wp2
    refine bodyPost_ret (v := .agg #[.bool (nsg false ys), .slice (nad (some ⟨w.heap.size + 1, 0, none⟩) ys) (tlen ys) (tlen ys)]) (by simp [results, Tryz.results48, go_sem, c0, c1]) rfl ⟨_, _, _, tr ys, rfl, ?_, ht, ?_⟩
    · exact ((hN2.set (by simp) _).set (by simp) _).mono (by omega)
    · exact (((((Below.refl _ _).alloc (Nat.le_refl _) _).alloc (by simp) _).trans (hb.mono (by simp; omega))).setCell (by simp) _).setCell (by simp) _

end Go.Proofs.YtifebbacnlhggaaGreatDoor
/-
  limbs.quotient by a size that is greater or has one limb; limbs.Quo out of a contract of quotient.
-/
namespace Go.Proofs.YtifebbacnlhggaaGreatDoor
open Go.RowKit
set_option linter.unusedVariables false
set_option linter.unusedSimpArgs false

/-- A quotient and what is left, in memory from block B on. -/
structure QR (B : Nat) (w : World) (qa : Option Addr) (qn : Nat) (qs : List Int) (ra : Option Addr) (rn : Nat) (rs : List Int) (x y : Int) (n : Nat) : Prop where
  ql : qs.length = qn
  qrd : Rd w qa .u32 qs
  qu : U32 qs
  qf : From B qa
  rl : rs.length = rn
  rrd : Rd w ra .u32 rs
  ru : U32 rs
  rf : From B ra
  eq : val qs * y + val rs = x
  lt : val rs < y
  qb : qn ≤ n + 1
  rb : rn ≤ n + 1
  row : ∃ g Z, ra = some ⟨g, 0, none⟩ ∧ Row w g 81 .u32 Z ∧ Z.take rn = rs ∧ U32 Z
  qz : Fz w qa
  rz : Fz w ra
theorem QR.below {B : Nat} {w w' : World} {qa : Option Addr} {qn : Nat} {qs : List Int} {ra : Option Addr} {rn : Nat} {rs : List Int} {x y : Int} {n : Nat} (h : QR B w qa qn qs ra rn rs x y n) (hb : Below w.heap.size w w') : QR B w' qa qn qs ra rn rs x y n :=
  ⟨h.ql, h.qrd.below hb, h.qu, h.qf, h.rl, h.rrd.below hb, h.ru, h.rf, h.eq, h.lt, h.qb, h.rb, by obtain ⟨g, Z, h1, h2, h3⟩ := h.row; exact ⟨g, Z, h1, h2.below hb h2.lt, h3⟩, h.qz.below hb, h.rz.below hb⟩

end Go.Proofs.YtifebbacnlhggaaGreatDoor
/-
  Variables of two cells.
-/
namespace Go.Proofs.YtifebbacnlhggaaGreatDoor
open Go.RowKit
set_option linter.unusedVariables false
set_option linter.unusedSimpArgs false

/-- Two boxed arguments and two results' variables, in a world that is a letter. -/
structure Box4 (w W : World) (a0 a1 b0 b1 : Value) : Prop where
  size : w.heap.size + 1 + 1 + 1 + 1 ≤ W.heap.size
  below : Below w.heap.size w W
  ca0 : W.cell? ⟨w.heap.size, 0, none⟩ = some a0
  ca1 : W.cell? ⟨w.heap.size, 1, none⟩ = some a1
  cb0 : W.cell? ⟨w.heap.size + 1, 0, none⟩ = some b0
  cb1 : W.cell? ⟨w.heap.size + 1, 1, none⟩ = some b1
  cr0 : W.cell? ⟨w.heap.size + 1 + 1, 0, none⟩ = some (.bool false)
  cr1 : W.cell? ⟨w.heap.size + 1 + 1, 1, none⟩ = some (.slice none 0 0)
  cs0 : W.cell? ⟨w.heap.size + 1 + 1 + 1, 0, none⟩ = some (.bool false)
  cs1 : W.cell? ⟨w.heap.size + 1 + 1 + 1, 1, none⟩ = some (.slice none 0 0)
  fr0 : W.frozen? ⟨w.heap.size + 1 + 1, 0, none⟩ = false
  fr1 : W.frozen? ⟨w.heap.size + 1 + 1, 1, none⟩ = false
  fs0 : W.frozen? ⟨w.heap.size + 1 + 1 + 1, 0, none⟩ = false
  fs1 : W.frozen? ⟨w.heap.size + 1 + 1 + 1, 1, none⟩ = false
/-- A variable of two cells. -/
structure Bx (w : World) (r : Nat) (a0 a1 : Value) : Prop where
  c0 : w.cell? ⟨r, 0, none⟩ = some a0
  c1 : w.cell? ⟨r, 1, none⟩ = some a1
  f0 : w.frozen? ⟨r, 0, none⟩ = false
  f1 : w.frozen? ⟨r, 1, none⟩ = false
theorem Bx.later {w w' : World} {r : Nat} {a0 a1 : Value} (h : Bx w r a0 a1) (hb : Below w.heap.size w w') : Bx w' r a0 a1 := by
  obtain ⟨a, b, c, d⟩ := resbox hb h.c0 h.c1 h.f0 h.f1
  exact ⟨a, b, c, d⟩
theorem Bx.alloc {w : World} {r : Nat} {a0 a1 : Value} (h : Bx w r a0 a1) (o : Obj) : Bx (w.alloc o) r a0 a1 := h.later ((Below.refl _ _).alloc (Nat.le_refl _) o)
theorem Bx.drewN {w : World} {r : Nat} {a0 a1 : Value} (h : Bx w r a0 a1) (k : Nat) : Bx (w.drewN k) r a0 a1 := ⟨h.c0, h.c1, h.f0, h.f1⟩
theorem Bx.new {w : World} {r : Nat} (a0 a1 : Value) (t : Nat) (hr : r = w.heap.size) : Bx (w.alloc (.cells #[a0, a1] t)) r a0 a1 := by
  subst hr
  refine ⟨?_, ?_, ?_, ?_⟩ <;> simp [go_sem]
theorem Box4.later {w W W' : World} {a0 a1 b0 b1 : Value} (h : Box4 w W a0 a1 b0 b1) (hb : Below W.heap.size W W') : Box4 w W' a0 a1 b0 b1 := by
  obtain ⟨c0, c1, f0, f1⟩ := resbox hb h.cr0 h.cr1 h.fr0 h.fr1
  obtain ⟨d0, d1, g0, g1⟩ := resbox hb h.cs0 h.cs1 h.fs0 h.fs1
  exact ⟨Nat.le_trans h.size hb.size, h.below.trans (hb.mono (by have := h.size; omega)), cell_later hb h.ca0, cell_later hb h.ca1, cell_later hb h.cb0, cell_later hb h.cb1, c0, c1, d0, d1, f0, f1, g0, g1⟩

end Go.Proofs.YtifebbacnlhggaaGreatDoor
/-
  Numbers and boxes, carried on: small rules.
-/
namespace Go.Proofs.YtifebbacnlhggaaGreatDoor
open Go.RowKit
set_option linter.unusedVariables false
set_option linter.unusedSimpArgs false

theorem NI.hai {B : Nat} {w : World} {s : Bool} {p : Option Addr} {n : Nat} {xs : List Int} {z : Int} (h : NI B w s p n xs z) (hn : n ≤ 100) : AI w p n n xs := h.ai (by omega)

theorem bel_al {w x : World} {o : Obj} (h : Below w.heap.size w x) : Below w.heap.size w (x.alloc o) := h.alloc h.size o
theorem comp {X2 w2 X3 w3 : World} (h2 : Below X2.heap.size X2 w2) (hX : Below w2.heap.size w2 X3) (h3 : Below X3.heap.size X3 w3) : Below X2.heap.size X2 w3 :=
  (h2.trans (hX.mono h2.size)).trans (h3.mono (Nat.le_trans h2.size hX.size))

theorem NI_st3 {B F : Nat} {w : World} {s : Bool} {p : Option Addr} {n : Nat} {xs : List Int} {z : Int} {a : Addr} {v : Value} (hF : From F p) (ha : a.block < F) (h : NI B w s p n xs z) : NI B (w.setCell a v) s p n xs z :=
  ⟨h.len, h.rd.set_other a v (fun b hb e => by have := hF b hb; omega), h.u, h.nrm, h.sg, h.pn, h.v, h.fr, h.fz.set a v⟩
theorem NI.lt {B : Nat} {w : World} {s : Bool} {p : Option Addr} {n : Nat} {xs : List Int} {z : Int} (h : NI B w s p n xs z) : ∀ x, p = some x → x.block < w.heap.size := fun x hx => by
  rcases Nat.eq_zero_or_pos n with h0 | h0
  · rw [h.pn h0] at hx; cases hx
  · obtain ⟨b, off, hp, hlt⟩ := h.rd.lt (by rw [h.len]; exact h0)
    rw [hp] at hx; cases hx; exact hlt
theorem Bx_set {w : World} {g : Nat} {u v x y : Value} (h : Bx w g u v) : Bx ((w.setCell ⟨g, 0, none⟩ x).setCell ⟨g, 1, none⟩ y) g x y := by
  have h1 : (w.setCell ⟨g, 0, none⟩ x).cell? ⟨g, 1, none⟩ = some v := by rw [World.cell?_setCell_other _ _ _ _ (by simp)]; exact h.c1
  refine ⟨?_, World.cell?_setCell_same _ _ _ h1, ?_, ?_⟩
  · rw [World.cell?_setCell_other _ _ _ _ (by simp)]; exact World.cell?_setCell_same _ _ _ h.c0
  · rw [World.frozen?_setCell, World.frozen?_setCell]; exact h.f0
  · rw [World.frozen?_setCell, World.frozen?_setCell]; exact h.f1
theorem Bx_oth {w : World} {r g : Nat} {u v x y : Value} (h : Bx w r u v) (hne : r ≠ g) : Bx ((w.setCell ⟨g, 0, none⟩ x).setCell ⟨g, 1, none⟩ y) r u v := by
  have e : ((w.setCell ⟨g, 0, none⟩ x).setCell ⟨g, 1, none⟩ y).heap[r]? = w.heap[r]? := (heap_setCell_other _ _ r y hne).trans (heap_setCell_other _ _ r x hne)
  exact ⟨(World.cell?_of_block (a := ⟨r, 0, none⟩) e).trans h.c0, (World.cell?_of_block (a := ⟨r, 1, none⟩) e).trans h.c1, (World.frozen?_of_block (a := ⟨r, 0, none⟩) e).trans h.f0, (World.frozen?_of_block (a := ⟨r, 1, none⟩) e).trans h.f1⟩
theorem Bel_al {B : Nat} {w x : World} {o : Obj} (h : Below B w x) (hB : B ≤ w.heap.size) : Below B w (x.alloc o) := h.alloc (Nat.le_trans hB h.size) o
theorem Bel_st {B : Nat} {w x : World} {a : Addr} {v : Value} (h : Below B w x) (ha : B ≤ a.block) : Below B w (x.setCell a v) := h.setCell ha v
end Go.Proofs.YtifebbacnlhggaaGreatDoor
/-
  Numbers carried on behind calls and stores.
-/
namespace Go.Proofs.YtifebbacnlhggaaGreatDoor
open Go.RowKit
set_option linter.unusedVariables false
set_option linter.unusedSimpArgs false

theorem AI.setF {w : World} {p : Option Addr} {n nc F : Nat} {xs : List Int} (h : AI w p n nc xs) (hF : Go.Proofs.YtifebbacnlhggaaGreatDoor.From F p) {a : Addr} (ha : a.block < F) (v : Value) : AI (w.setCell a v) p n nc xs :=
  ⟨h.len, h.cap, h.bnd, h.sml, h.rd.set_other a v (fun b hb e => by have := hF b hb; omega), h.u⟩
theorem AI.set2 {w : World} {p : Option Addr} {n nc F : Nat} {xs : List Int} (h : AI w p n nc xs) (hF : Go.Proofs.YtifebbacnlhggaaGreatDoor.From F p) {g : Nat} (hg : g < F) (u v : Value) : AI ((w.setCell ⟨g, 0, none⟩ u).setCell ⟨g, 1, none⟩ v) p n nc xs :=
  (h.setF hF (a := ⟨g, 0, none⟩) hg u).setF hF (a := ⟨g, 1, none⟩) hg v
theorem From.mono {B F : Nat} {p : Option Addr} (h : Go.Proofs.YtifebbacnlhggaaGreatDoor.From F p) (hB : B ≤ F) : Go.Proofs.YtifebbacnlhggaaGreatDoor.From B p := fun a ha => Nat.le_trans hB (h a ha)
/-- One call more. -/
theorem bnext {B : Nat} {a b c : World} (h : Below B a b) (hB : B ≤ a.heap.size) (k : Below b.heap.size b c) : Below B a c := h.trans (k.mono (Nat.le_trans hB h.size))
theorem bnext' {a b c : World} (h : Below a.heap.size a b) (k : Below b.heap.size b c) : Below a.heap.size a c := bnext h (Nat.le_refl _) k
theorem bset2 {B g : Nat} {a b : World} (h : Below B a b) (hg : B ≤ g) (u v : Value) : Below B a ((b.setCell ⟨g, 0, none⟩ u).setCell ⟨g, 1, none⟩ v) := (h.setCell (p := ⟨g, 0, none⟩) hg u).setCell (p := ⟨g, 1, none⟩) hg v
end Go.Proofs.YtifebbacnlhggaaGreatDoor
/-
  How long a number of a value is; numbers off a block; signs.
-/
namespace Go.Proofs.YtifebbacnlhggaaGreatDoor
open Go.RowKit
set_option linter.unusedVariables false
set_option linter.unusedSimpArgs false

theorem NI.le {B : Nat} {w : World} {s : Bool} {p : Option Addr} {n : Nat} {xs : List Int} {z : Int} (h : NI B w s p n xs z) {k : Nat} (hz : (z.natAbs : Int) < pw k) : n ≤ k := by
  have hv : (z.natAbs : Int) = val xs := by
    have := val_nonneg h.u
    rw [← h.v, ival]
    split <;> omega
  rcases Nat.eq_zero_or_pos n with h0 | h0
  · omega
  · have h1 := val_pos_of_top h.u (by rw [h.nrm]; exact h0)
    rw [h.nrm] at h1
    have h2 : n - 1 < k := by
      rcases Nat.lt_or_ge (n - 1) k with h3 | h3
      · exact h3
      · have := pw_mono h3; omega
    omega
theorem AI.lt {w : World} {p : Option Addr} {n nc : Nat} {xs : List Int} (h : AI w p n nc xs) (s : Bool) : ((ival s xs).natAbs : Int) < pw n := by
  have h1 := val_nonneg h.u
  have h2 := val_lt_tlen h.u
  have h3 := pw_mono (tlen_le xs)
  rw [h.len] at h3
  rw [ival]
  split <;> omega
theorem off_from {B g : Nat} {p : Option Addr} (h : Go.Proofs.YtifebbacnlhggaaGreatDoor.From B p) (hg : g < B) : Off g p := fun a ha e => by have := h a ha; omega
theorem AI.off {w : World} {p : Option Addr} {n nc : Nat} {xs : List Int} (h : AI w p n nc xs) {g : Nat} (hg : w.heap.size ≤ g) : 0 < n → Off g p := fun hn => h.rd.off hg (by rw [h.len]; exact hn)
theorem isgn_pos {z : Int} (h : 0 < z) : isgn z = 1 := by unfold isgn; rw [if_neg (by omega), if_neg (by omega)]
theorem isgn_neg {z : Int} (h : z < 0) : isgn z = -1 := by unfold isgn; rw [if_neg (by omega), if_pos h]
theorem isgn_zero {z : Int} (h : z = 0) : isgn z = 0 := by unfold isgn; rw [if_pos h]
end Go.Proofs.YtifebbacnlhggaaGreatDoor
/-
  upoly.trim.
-/
namespace Go.Proofs.YtifebbacnlhggaaGreatDoor
open Go.RowKit
set_option linter.unusedVariables false
set_option linter.unusedSimpArgs false

theorem Sign_ev {w : World} {K : Nat} {z : Int} {e : Ent} (h : EV w K z e) : Calls Tryz.prog 45 #[.agg #[.bool e.s, .slice e.p e.n e.c]] w fun r w' => r = .returned (.int .i64 (isgn z)) ∧ Below w.heap.size w w' := by
  obtain ⟨xs, h1, rfl, h3⟩ := h
  exact Sign_any e.s e.p e.n e.c xs w h1
set_option maxHeartbeats 1000000 in
/-- upoly.trim. -/
theorem utrim_any (K : Nat) (p : Option Addr) (n nc : Nat) (es : List Ent) (zs : List Int) (w : World) (h : PA w K p n nc es zs) (hn : n ≤ 1000000) :
    Calls Tryz.prog 102 #[.slice p n nc] w fun e w' => e = .returned (.slice p (tlen zs) (tlen zs)) ∧ Below w.heap.size w w' := by
  have hle := h.el
  go_enter Tryz.func102, Tryz.ntmps102
  go_wp2
  go_loopw [3] (fun nv wr => ∃ k : Nat, k ≤ n ∧ nv = .int .i64 k ∧ Hid ((∀ j, k ≤ j → gx zs j = 0) ∧ Below w.heap.size w wr)) (fun nv _ => (intOf nv).toNat)
  case atStart => exact ⟨n, Nat.le_refl _, by go_num, fun j hj => gx_past zs n (by rw [h.zl]; exact Nat.le_refl _) j hj, Below.refl _ _⟩
  case round =>
    obtain ⟨k, hk, rfl, H⟩ := hrel
    rcases Nat.eq_zero_or_pos k with h0 | h0
    · subst h0
      have HT : Hid (tlen zs = 0) := tlen_eq zs 0 (fun j _ => H.out.1 j (Nat.zero_le _)) (.inl rfl)
      go_wp2
      go_ret
      exact ⟨by rw [HT.out]; rfl, H.out.2⟩
    · obtain ⟨i, rfl⟩ : ∃ i, k = i + 1 := ⟨k - 1, by omega⟩
      obtain ⟨H1, H2⟩ := H.out
      have HH : Hid ((∀ j, i + 1 ≤ j → gx zs j = 0) ∧ Below w.heap.size w wr) := ⟨H1, H2⟩
      have hw := h.below H2
      obtain ⟨b, o, hp, hc⟩ := hw.pl (by omega)
      subst hp
      obtain ⟨c0, c1⟩ := hc i (by omega)
      have hv := hw.ev i (by omega)
      have hcap := h.cap
      have hbnd := h.bnd
      unfold maxLen at hbnd
      clear H H1 H2 hc
      go_wp2_with fail
      refine (Sign_ev hv).mono ?_
      rintro e w1 ⟨rfl, hb1⟩
      have hB := bnext' HH.out.2 hb1
      have hcs : Hid (gx zs i = 0 ∨ ¬ gx zs i = 0) := Classical.em _
      rcases hcs.out with hz | hz
      · rw [isgn_zero hz]
        have HZ : Hid (gx zs i = 0) := hz
        clear hz hcs c0 c1 hv
        go_wp2
        go_roundw
        case rel => exact ⟨i, by omega, by go_num, fun j hj => by
          rcases Nat.lt_or_ge i j with h | h
          · exact HH.out.1 j h
          · have : j = i := by omega
            subst this; exact HZ.out, hB⟩
        case measure => simp [intOf]
      · have HT : Hid (tlen zs = i + 1) := tlen_eq zs (i + 1) HH.out.1 (.inr hz)
        have hi : isgn (gx zs i) = 1 ∨ isgn (gx zs i) = -1 := by
          rcases (show 0 < gx zs i ∨ gx zs i < 0 by omega) with h | h
          · exact .inl (isgn_pos h)
          · exact .inr (isgn_neg h)
        clear hz hcs c0 c1 hv
        rcases hi with hi | hi
        all_goals
          rw [hi]
          clear hi
          go_wp2
          go_ret
          exact ⟨by rw [HT.out]; rfl, hB⟩
end Go.Proofs.YtifebbacnlhggaaGreatDoor
/-
  Lists of numbers that are made.
-/
namespace Go.Proofs.YtifebbacnlhggaaGreatDoor
open Go.RowKit
set_option linter.unusedVariables false
set_option linter.unusedSimpArgs false

def ezs (n : Nat) : List Ent := List.replicate n ez
theorem length_ezs (n : Nat) : (ezs n).length = n := by simp [ezs]
theorem ge_ezs (n i : Nat) : ge (ezs n) i = ez := by
  unfold ge ezs
  by_cases h : i < n
  · simp [List.getElem?_replicate, h]
  · simp [List.getElem?_replicate, h]
theorem made_ez (n : Nat) : madeCells #[.bool false, .slice none 0 0] (n * 2) = ca2 (ezs n) := by
  apply Array.ext
  · simp [size_madeCells, size_ca2, length_ezs]
  · intro i h1 h2
    have hl : i < n * 2 := by simpa [size_madeCells] using h1
    have hj : i / 2 < (ezs n).length := by rw [length_ezs]; omega
    obtain ⟨g0, g1⟩ := flat_get (ezs n) (i / 2) hj
    have e : (ca2 (ezs n))[i]? = ((ezs n).flatMap fun e => [Value.bool e.s, .slice e.p e.n e.c])[i]? := by unfold ca2; exact List.getElem?_toArray
    rw [Array.getElem?_eq_getElem h2] at e
    rcases Nat.mod_two_eq_zero_or_one i with h | h
    · have hi : i / 2 * 2 = i := by omega
      rw [hi, ← e, ge_ezs] at g0
      rw [Option.some.inj g0]
      simp [madeCells, h, ez]
    · have hi : i / 2 * 2 + 1 = i := by omega
      rw [hi, ← e, ge_ezs] at g1
      rw [Option.some.inj g1]
      simp [madeCells, h, ez]
theorem info_api : (Tryz.prog.info? 24).map (fun i => (i.zero, i.size, i.bytes)) = some (some (.agg #[.bool false, .slice none 0 0]), 2, 32) := by kernel_rfl
theorem mk_poly (n : Nat) (h : n ≤ 1000000000) (w : World) : (Instr.makeSlice 26 (.int .i64 n) (.int .i64 n)).run Tryz.prog w =
    .ok (.slice (some ⟨w.heap.size, 0, none⟩) n n) (w.alloc (.cells (ca2 (ezs n)) 24)) := by
  have hi := info_api
  cases hq : Tryz.prog.info? 24 with
  | none => rw [hq] at hi; cases hi
  | some i =>
    rw [hq] at hi
    simp only [Option.map_some, Option.some.injEq, Prod.mk.injEq] at hi
    obtain ⟨h1, h2, h3⟩ := hi
    have hr := run_make (P := Tryz.prog) w 26 24 i (.agg #[.bool false, .slice none 0 0]) Tryz.underlying26 hq h1 .i64 .i64 n n (by omega) (Int.le_refl _) (by rw [h3]; omega) (by omega)
    rw [Int.toNat_natCast, h2] at hr
    rw [hr]
    exact congrArg (fun c => Result.ok (Value.slice (some ⟨w.heap.size, 0, none⟩) n n) (w.alloc (.cells c 24))) (made_ez n)
end Go.Proofs.YtifebbacnlhggaaGreatDoor
/-
  upoly.Of.
-/
namespace Go.Proofs.YtifebbacnlhggaaGreatDoor
open Go.RowKit
set_option linter.unusedVariables false
set_option linter.unusedSimpArgs false

/-- The number of an element that is answered. -/
def NV (B : Nat) (w : World) (K : Nat) (z : Int) (e : Ent) : Prop := ∃ xs, NI B w e.s e.p e.n xs z ∧ e.c = e.n ∧ e.n ≤ K
/-- A polynomial that is answered: in normal form, in memory from block B on. -/
structure PN (B : Nat) (w : World) (K : Nat) (p : Option Addr) (n : Nat) (es : List Ent) (zs : List Int) : Prop where
  el : es.length = n
  zl : zs.length = n
  nrm : tlen zs = n
  pl : PL w p es
  fr : Go.Proofs.YtifebbacnlhggaaGreatDoor.From B p
  ev : ∀ j, j < n → NV B w K (gx zs j) (ge es j)
section
variable {B : Nat} {w w' : World} {K : Nat} {z : Int} {e : Ent} {p : Option Addr} {n : Nat} {es : List Ent} {zs : List Int}
theorem NV.below (h : NV B w K z e) (hb : Below w.heap.size w w') : NV B w' K z e := by
  obtain ⟨xs, h1, h2⟩ := h
  exact ⟨xs, h1.below hb, h2⟩
theorem NV.mono {B' : Nat} (h : NV B w K z e) (hB : B' ≤ B) : NV B' w K z e := by
  obtain ⟨xs, h1, h2⟩ := h
  exact ⟨xs, h1.mono hB, h2⟩
theorem NV.ez (B : Nat) (w : World) (K : Nat) : NV B w K 0 ez := ⟨[], ⟨rfl, Rd.nil, fun j => by simp [gx], by decide, fun _ => rfl, fun _ => rfl, by decide, (fun a ha => by cases ha), Fz.nil _⟩, rfl, Nat.zero_le _⟩
theorem NV.set2 (h : NV B w K z e) {g o : Nat} (hg : g < B) (u v : Value) : NV B ((w.setCell ⟨g, o, none⟩ u).setCell ⟨g, o + 1, none⟩ v) K z e := by
  obtain ⟨xs, h1, h2⟩ := h
  exact ⟨xs, (h1.set (a := ⟨g, o, none⟩) hg u).set (a := ⟨g, o + 1, none⟩) hg v, h2⟩
theorem NV.ev (h : NV B w K z e) (hK : K ≤ 1000) : EV w K z e := by
  obtain ⟨xs, h1, h2, h3⟩ := h
  exact ⟨xs, by rw [h2]; exact h1.ai (by omega), h1.v, h3⟩
theorem PN.below (h : PN B w K p n es zs) (hb : Below w.heap.size w w') : PN B w' K p n es zs := ⟨h.el, h.zl, h.nrm, h.pl.below hb, h.fr, fun j hj => (h.ev j hj).below hb⟩
theorem PN.mono {B' : Nat} (h : PN B w K p n es zs) (hB : B' ≤ B) : PN B' w K p n es zs := ⟨h.el, h.zl, h.nrm, h.pl, fun a ha => Nat.le_trans hB (h.fr a ha), fun j hj => (h.ev j hj).mono hB⟩
theorem PN.pa (h : PN B w K p n es zs) (hK : K ≤ 1000) (hn : n ≤ 1000000) : PA w K p n n es zs :=
  ⟨h.el, h.zl, Nat.le_refl _, by unfold maxLen; omega, fun e => by
    rcases Nat.eq_zero_or_pos n with h0 | h0
    · exact h0
    · obtain ⟨b, o, hp, -⟩ := h.pl (by rw [h.el]; exact h0)
      rw [hp] at e
      exact absurd e (by simp), h.pl, fun j hj => (h.ev j hj).ev hK⟩
end
/-- What a function answers that gives a polynomial. -/
def PnP (zs : List Int) (K : Nat) (w : World) (e : Ending) (w' : World) : Prop :=
  ∃ p n es, e = .returned (.slice p n n) ∧ PN w.heap.size w' K p n es zs ∧ Below w.heap.size w w'
end Go.Proofs.YtifebbacnlhggaaGreatDoor
/-
  Owned rows are read.
-/
namespace Go.Proofs.YtifebbacnlhggaaGreatDoor
open Go.RowKit
set_option linter.unusedVariables false
set_option linter.unusedSimpArgs false

theorem rd_owns {w : World} {base g n cap : Nat} {e : TypeId} {xs : List Int} {k : IntKind} (h : w.ownsRow base e 1 (.slice (some ⟨g, 0, none⟩) n cap) n (xs.map (Value.int k))) : Rd w (some ⟨g, 0, none⟩) k xs := fun hx =>
  ⟨g, 0, rfl, fun j hj => by
    have := h.cells (g := g) rfl j (.int k (gx xs j)) (by rw [List.getElem?_map, List.getElem?_eq_getElem hj, gx_mem xs j hj]; rfl)
    rw [Addr.add_mid] at this
    exact this⟩

end Go.Proofs.YtifebbacnlhggaaGreatDoor
