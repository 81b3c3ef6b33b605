/-
  The 64 bits of a number from a place on; a row times small numbers with signs: plain facts.
-/
import Derived.Test.YtifebbacnlhggaaGreatDoorFpCdDeGa
import Derived.Test.YtifebbacnlhggaaGreatDoorWhPnWkWlBx
import Derived.Lib.EndianBits
import Derived.Test.YtifebbacnlhggaaGreatDoorMmNaWa
import Derived.Test.YtifebbacnlhggaaGreatDoorLnWrIbWg
import Derived.Test.YtifebbacnlhggaaGreatDoorBbCvNjUbUcUdOw
import Derived.Deep.DeepCutAuto
import Derived.Test.YtifebbacnlhggaaGreatDoorWbWcWdWe
import Derived.Test.YtifebbacnlhggaaGreatDoorRaWmBeRd
import Derived.Test.YtifebbacnlhggaaGreatDoorUjBsLeUkUiWiWjUlDdReRx
import Derived.Test.YtifebbacnlhggaaGreatDoorNiUa
namespace Go.Proofs.YtifebbacnlhggaaGreatDoor
open Go.RowKit
set_option linter.unusedVariables false
set_option linter.unusedSimpArgs false

end Go.Proofs.YtifebbacnlhggaaGreatDoor
/-
  What a function leaves that writes into two rows.
-/
namespace Go.Proofs.YtifebbacnlhggaaGreatDoor
open Go.RowKit
set_option linter.unusedVariables false
set_option linter.unusedSimpArgs false

/-- All but the blocks g and h is as it was. -/
structure Kp (g h : Nat) (w w' : World) : Prop where
  block : ∀ k, k < w.heap.size → k ≠ g → k ≠ h → w'.heap[k]? = w.heap[k]?
  os : w'.os = w.os
  tape : w'.tape = w.tape
  output : w'.output = w.output
  size : w.heap.size ≤ w'.heap.size
theorem Kp.refl (g h : Nat) (w : World) : Kp g h w w := ⟨fun _ _ _ _ => rfl, rfl, rfl, rfl, Nat.le_refl _⟩
theorem Kp.grown {g h x : Nat} {w w1 w2 : World} (k : Kp g h w w1) (hg : w1.grownBy w2 (some x)) (hx : x = g ∨ x = h) : Kp g h w w2 :=
  ⟨fun i hi a b => (hg.block i (Nat.lt_of_lt_of_le hi k.size) (fun e => by cases e; rcases hx with rfl | rfl <;> contradiction)).trans (k.block i hi a b), hg.os.trans k.os, hg.tape.trans k.tape, hg.output.trans k.output, Nat.le_trans k.size hg.size⟩
end Go.Proofs.YtifebbacnlhggaaGreatDoor
/-
  (limbs.steps).walk.
-/
namespace Go.Proofs.YtifebbacnlhggaaGreatDoor
open Go.RowKit
set_option linter.unusedVariables false
set_option linter.unusedSimpArgs false

theorem Kp.set2 {g h : Nat} {w w1 : World} (k : Kp g h w w1) (j : Nat) (v : Value) : Kp g h w (w1.setCell ⟨h, j, none⟩ v) :=
  ⟨fun i hi a b => (heap_setCell_other w1 ⟨h, j, none⟩ i v b).trans (k.block i hi a b), k.os, k.tape, k.output, by simp [World.setCell]; exact k.size⟩
theorem Kp.drew {g h : Nat} {w w1 : World} (k : Kp g h w w1) : Kp g h w w1.drew := ⟨k.block, k.os, k.tape, k.output, k.size⟩
theorem Kp.alloc {g h : Nat} {w w1 : World} (k : Kp g h w w1) (o : Obj) : Kp g h w (w1.alloc o) :=
  ⟨fun i hi a b => (Below.heap_alloc w1 o i (Nat.lt_of_lt_of_le hi k.size)).trans (k.block i hi a b), k.os, k.tape, k.output, by simp; have := k.size; omega⟩

end Go.Proofs.YtifebbacnlhggaaGreatDoor
/-
  limbs.bitsFrom.
-/
namespace Go.Proofs.YtifebbacnlhggaaGreatDoor
open Go.RowKit
set_option linter.unusedVariables false
set_option linter.unusedSimpArgs false

end Go.Proofs.YtifebbacnlhggaaGreatDoor
/-
  limbs.lookAhead: Lehmer's steps.
-/
namespace Go.Proofs.YtifebbacnlhggaaGreatDoor
open Go.RowKit
set_option linter.unusedVariables false
set_option linter.unusedSimpArgs false

/-- What the steps are worth. -/
def Good (a b aa ab ba bb : Int) : Prop :=
  -1073741824 < aa ∧ aa < 1073741824 ∧ -1073741824 < ab ∧ ab < 1073741824 ∧ -1073741824 < ba ∧ ba < 1073741824 ∧ -1073741824 < bb ∧ bb < 1073741824 ∧ 0 ≤ ba * a + bb * b ∧ ba * a + bb * b < aa * a + ab * b ∧ aa * a + ab * b ≤ b ∧ Int.gcd (aa * a + ab * b) (ba * a + bb * b) = Int.gcd a b
end Go.Proofs.YtifebbacnlhggaaGreatDoor
/-
  limbs.takeTimes.
-/
namespace Go.Proofs.YtifebbacnlhggaaGreatDoor
open Go.RowKit
set_option linter.unusedVariables false
set_option linter.unusedSimpArgs false

end Go.Proofs.YtifebbacnlhggaaGreatDoor
/-
  limbs.guess.
-/
namespace Go.Proofs.YtifebbacnlhggaaGreatDoor
open Go.RowKit
set_option linter.unusedVariables false
set_option linter.unusedSimpArgs false

/-- The highest limbs of two numbers: three and two of them. -/
structure Hd (P lu lv u0 u1 u2 nx hd U V : Int) : Prop where
  p : 0 < P
  lu0 : 0 ≤ lu
  lu1 : lu < P
  lv0 : 0 ≤ lv
  lv1 : lv < P
  a0 : 0 ≤ u0 ∧ u0 < 4294967296
  a1 : 0 ≤ u1 ∧ u1 < 4294967296
  a2 : 0 ≤ u2 ∧ u2 < 4294967296
  b0 : 0 ≤ nx ∧ nx < 4294967296
  b1 : 1 ≤ hd ∧ hd < 4294967296
  u : U = lu + P * (u0 + 4294967296 * (u1 + 4294967296 * u2))
  v : V = lv + P * (nx + 4294967296 * hd)
theorem mul_le_left {a b P : Int} (hP : 0 ≤ P) (h : a ≤ b) : P * a ≤ P * b := Int.mul_le_mul_of_nonneg_left h hP
theorem Hd.vpos {P lu lv u0 u1 u2 nx hd U V : Int} (h : Hd P lu lv u0 u1 u2 nx hd U V) : P * 4294967296 ≤ V := by
  have := mul_le_left (Int.le_of_lt h.p) (show (4294967296 : Int) ≤ nx + 4294967296 * hd by have := h.b0; have := h.b1; omega)
  have := h.v
  have := h.lv0
  omega
theorem Hd.vp {P lu lv u0 u1 u2 nx hd U V : Int} (h : Hd P lu lv u0 u1 u2 nx hd U V) : 0 < V := by
  have := h.vpos
  have := h.p
  omega
/-- U lies below its head and one. -/
theorem Hd.ult {P lu lv u0 u1 u2 nx hd U V : Int} (h : Hd P lu lv u0 u1 u2 nx hd U V) {k : Int} (hk : u0 + 4294967296 * (u1 + 4294967296 * u2) + 1 ≤ k) : U < P * k := by
  have e := mul_le_left (Int.le_of_lt h.p) hk
  rw [Int.mul_add, Int.mul_one] at e
  have := h.u
  have := h.lu1
  omega
theorem Hd.q0 {P lu lv u0 u1 u2 nx hd U V : Int} (h : Hd P lu lv u0 u1 u2 nx hd U V) : 0 ≤ U / V ∧ (U / V) * V ≤ U ∧ U < (U / V + 1) * V := by
  have hV := h.vp
  have hU : 0 ≤ U := by
    have := Int.mul_nonneg (Int.le_of_lt h.p) (show 0 ≤ u0 + 4294967296 * (u1 + 4294967296 * u2) by have := h.a0; have := h.a1; have := h.a2; omega)
    have := h.u
    have := h.lu0
    omega
  refine ⟨Int.ediv_nonneg hU (by omega), Int.ediv_mul_le U (by omega), Int.lt_ediv_add_one_mul_self U hV⟩
/-- The first guess is not too small. -/
theorem Hd.first {P lu lv u0 u1 u2 nx hd U V : Int} (h : Hd P lu lv u0 u1 u2 nx hd U V) : U / V ≤ (u1 + 4294967296 * u2) / hd := by
  obtain ⟨q0, q1, q2⟩ := h.q0
  have hh := h.b1
  apply Int.le_ediv_of_mul_le (by omega)
  rcases Int.lt_or_le (u1 + 4294967296 * u2) (U / V * hd) with hc | hc
  · exfalso
    have e1 : U < P * (4294967296 * (U / V * hd)) := h.ult (by have := h.a0; omega)
    have e2 : P * (4294967296 * hd) ≤ V := by
      have := mul_le_left (Int.le_of_lt h.p) (show 4294967296 * hd ≤ nx + 4294967296 * hd by have := h.b0; omega)
      have := h.v
      have := h.lv0
      omega
    have e3 := mul_le_left q0 e2
    have e4 : U / V * (P * (4294967296 * hd)) = P * (4294967296 * (U / V * hd)) := by
      rw [Int.mul_left_comm, Int.mul_left_comm (U / V) 4294967296]
    omega
  · exact hc
/-- A guess that takes too much is too great. -/
theorem Hd.less {P lu lv u0 u1 u2 nx hd U V d : Int} (h : Hd P lu lv u0 u1 u2 nx hd U V) (hd0 : 0 ≤ d) (hc : u0 + 4294967296 * (u1 + 4294967296 * u2) < d * (nx + 4294967296 * hd)) : U / V < d := by
  obtain ⟨q0, q1, q2⟩ := h.q0
  rcases Int.lt_or_le (U / V) d with hq | hq
  · exact hq
  · exfalso
    have e1 : U < P * (d * (nx + 4294967296 * hd)) := h.ult (by omega)
    have e2 : P * (nx + 4294967296 * hd) ≤ V := by have := h.v; have := h.lv0; omega
    have e3 := mul_le_left hd0 e2
    have e4 : d * (P * (nx + 4294967296 * hd)) = P * (d * (nx + 4294967296 * hd)) := Int.mul_left_comm ..
    have e5 : d * V ≤ U / V * V := Int.mul_le_mul_of_nonneg_right hq (Int.le_of_lt h.vp)
    omega
end Go.Proofs.YtifebbacnlhggaaGreatDoor
/-
  limbs.divideRows.
-/
namespace Go.Proofs.YtifebbacnlhggaaGreatDoor
open Go.RowKit
set_option linter.unusedVariables false
set_option linter.unusedSimpArgs false

/-- Nothing that was there has changed but blocks a and b. -/
structure Gr2 (w w' : World) (a b : Nat) : Prop where
  os : w'.os = w.os
  tape : w'.tape = w.tape
  output : w'.output = w.output
  size : w.heap.size ≤ w'.heap.size
  block : ∀ k, k < w.heap.size → k ≠ a → k ≠ b → w'.heap[k]? = w.heap[k]?
theorem Gr2.refl (w : World) (a b : Nat) : Gr2 w w a b := ⟨rfl, rfl, rfl, Nat.le_refl _, fun _ _ _ _ => rfl⟩
theorem Gr2.trans {a b : Nat} {x y z : World} (h : Gr2 x y a b) (k : Gr2 y z a b) : Gr2 x z a b :=
  ⟨k.os.trans h.os, k.tape.trans h.tape, k.output.trans h.output, Nat.le_trans h.size k.size, fun i hi h1 h2 => (k.block i (Nat.lt_of_lt_of_le hi h.size) h1 h2).trans (h.block i hi h1 h2)⟩
theorem Gr2.rd {a b : Nat} {x y : World} {p : Option Addr} {k : IntKind} {xs : List Int} (h : Gr2 x y a b) (hr : Rd x p k xs) (h1 : Off a p) (h2 : Off b p) : Rd y p k xs :=
  hr.same fun q hq hlt => h.block q.block hlt (h1 q hq) (h2 q hq)
theorem Gr2.below {B a b : Nat} {x y : World} (h : Gr2 x y a b) (ha : B ≤ a) (hb : B ≤ b) (hB : B ≤ x.heap.size) : Below B x y :=
  ⟨h.os, h.tape, h.output, h.size, fun k hk => h.block k (by omega) (by omega) (by omega)⟩

theorem val_mid (Z X : List Int) (o n : Nat) (hX : X.length = n) (h : o + n ≤ Z.length) : val (mid Z o X) = val Z + pw o * (val X - val ((Z.drop o).take n)) := by
  have e : val Z = val (mid Z o ((Z.drop o).take n)) := by rw [mid_self Z o n h]
  rw [e]
  unfold mid
  rw [hX, part_length Z o n h, List.append_assoc, List.append_assoc, val_append, val_append, val_append, val_append, hX, part_length Z o n h, List.length_take, Nat.min_eq_left (by omega)]
  simp only [Int.mul_add, Int.mul_sub]
  omega
theorem val_take_all {xs : List Int} {n : Nat} (h : U32 xs) (hn : n ≤ xs.length) (hv : val xs < pw n) : val (xs.take n) = val xs ∧ val (xs.drop n) = 0 := by
  have e := val_drop_take xs n hn
  have h1 := val_nonneg (u32_take h n)
  have h2 := val_nonneg (u32_drop h n)
  have hp := pw_pos n
  have h3 : val (xs.drop n) = 0 := by
    rcases Int.lt_or_le 0 (val (xs.drop n)) with hc | hc
    · exfalso
      have : pw n * 1 ≤ pw n * val (xs.drop n) := Int.mul_le_mul_of_nonneg_left (by omega) (by omega)
      omega
    · omega
  rw [h3, Int.mul_zero, Int.add_zero] at e
  exact ⟨e.symm, h3⟩
theorem drop_val (xs : List Int) (i : Nat) (h : i < xs.length) : val (xs.drop i) = gx xs i + 4294967296 * val (xs.drop (i + 1)) := by
  rw [drop_cons xs i h]; rfl
/-- What is known between two rounds. -/
structure DR (U vs Q R : List Int) (k n t : Nat) : Prop where
  ql : Q.length = k
  qu : U32 Q
  rl : R.length = k + n
  ru : U32 R
  eq : val U = pw t * (val (Q.drop t) * val vs) + val R
  hi : val (R.drop t) < val vs
/-- The row that is looked at. -/
theorem DR.row {U vs Q R : List Int} {k n i : Nat} (h : DR U vs Q R k n (i + 1)) (hi : i < k) (hv : vs.length = n) (hV : U32 vs) :
    val ((R.drop i).take (n + 1)) = val (R.drop i) ∧ val (R.drop (i + (n + 1))) = 0 ∧ val ((R.drop i).take (n + 1)) < 4294967296 * val vs := by
  have hl := h.rl
  have hlt : val vs < pw n := by have := val_lt hV; rwa [hv] at this
  have e := drop_val R i (by omega)
  have hg := h.ru i
  have hh := h.hi
  have hlt2 : val (R.drop i) < 4294967296 * val vs := by omega
  have hp := pw_succ n
  obtain ⟨a, b⟩ := val_take_all (n := n + 1) (u32_drop h.ru i) (by simp; omega) (by omega)
  rw [List.drop_drop] at b
  exact ⟨a, b, by omega⟩
/-- A round. -/
theorem DR.next {U vs Q R new : List Int} {k n i : Nat} {q : Int} (h : DR U vs Q R k n (i + 1)) (hi : i < k) (hv : vs.length = n) (hV : U32 vs) (hnl : new.length = n + 1) (hnu : U32 new) (hq : 0 ≤ q ∧ q < 4294967296)
    (he : val new = val ((R.drop i).take (n + 1)) - q * val vs) (hlt : val new < val vs) : DR U vs (Q.set i q) (mid R i new) k n i := by
  obtain ⟨r1, r2, r3⟩ := h.row hi hv hV
  have hl := h.rl
  have hql := h.ql
  refine ⟨by rw [List.length_set]; exact h.ql, u32_set h.qu _ hq, by rw [mid_length _ _ _ (by omega)]; exact h.rl, ?_, ?_, ?_⟩
  · unfold mid
    exact u32_append (u32_append (u32_take h.ru i) hnu) (u32_drop h.ru _)
  · rw [val_mid R new i (n + 1) hnl (by omega), he, h.eq, drop_val (Q.set i q) i (by rw [List.length_set]; omega), gx_set_eq Q i q (by omega), List.drop_set_of_lt (by omega), pw_succ]
    simp only [Int.mul_add, Int.mul_sub, Int.add_mul]
    have e1 : pw i * (q * val vs) = pw i * (q * val vs) := rfl
    have e2 : pw i * (4294967296 * val (Q.drop (i + 1)) * val vs) = 4294967296 * pw i * (val (Q.drop (i + 1)) * val vs) := by
      simp only [Int.mul_assoc, Int.mul_left_comm]
    rw [e2]
    omega
  · have e : (mid R i new).drop i = new ++ R.drop (i + (n + 1)) := by
      unfold mid
      rw [hnl, List.append_assoc, List.drop_append_of_le_length (by simp; omega), List.drop_of_length_le (by simp; omega), List.nil_append]
    rw [e, val_append, r2, Int.mul_zero, Int.add_zero]
    exact hlt

end Go.Proofs.YtifebbacnlhggaaGreatDoor
/-
  limbs.shiftUp, shiftDown.
-/
namespace Go.Proofs.YtifebbacnlhggaaGreatDoor
open Go.RowKit
set_option linter.unusedVariables false
set_option linter.unusedSimpArgs false

end Go.Proofs.YtifebbacnlhggaaGreatDoor
/-
  limbs.quotient by two limbs and more; math/bits.LeadingZeros32; limbs.divide by rows.
-/
namespace Go.Proofs.YtifebbacnlhggaaGreatDoor
open Go.RowKit
set_option linter.unusedVariables false
set_option linter.unusedSimpArgs false

end Go.Proofs.YtifebbacnlhggaaGreatDoor
/-
  limbs.Quo, out of a contract of quotient whose rest may have spare room.
-/
namespace Go.Proofs.YtifebbacnlhggaaGreatDoor
open Go.RowKit
set_option linter.unusedVariables false
set_option linter.unusedSimpArgs false

end Go.Proofs.YtifebbacnlhggaaGreatDoor
/-
  limbs.smallDivisor, divisor, Gcd.
-/
namespace Go.Proofs.YtifebbacnlhggaaGreatDoor
open Go.RowKit
set_option linter.unusedVariables false
set_option linter.unusedSimpArgs false

end Go.Proofs.YtifebbacnlhggaaGreatDoor
/-
  limbs.Gcd of numbers of fewer than 150 limbs.
-/
namespace Go.Proofs.YtifebbacnlhggaaGreatDoor
open Go.RowKit
set_option linter.unusedVariables false
set_option linter.unusedSimpArgs false

end Go.Proofs.YtifebbacnlhggaaGreatDoor
/-
  upoly.Content.
-/
namespace Go.Proofs.YtifebbacnlhggaaGreatDoor
open Go.RowKit
set_option linter.unusedVariables false
set_option linter.unusedSimpArgs false

theorem NV.fit {B : Nat} {w : World} {K M : Nat} {z : Int} {e : Ent} (h : NV B w K z e) (hz : (z.natAbs : Int) < pw M) : NV B w M z e := by
  obtain ⟨xs, h1, h2, h3⟩ := h
  exact ⟨xs, h1, h2, h1.le hz⟩
end Go.Proofs.YtifebbacnlhggaaGreatDoor
namespace Go.Proofs.YtifebbacnlhggaaGreatDoor
open Go.RowKit
set_option linter.unusedVariables false
set_option linter.unusedSimpArgs false

end Go.Proofs.YtifebbacnlhggaaGreatDoor
/-
  upoly.Scale; parts.
-/
namespace Go.Proofs.YtifebbacnlhggaaGreatDoor
open Go.RowKit
set_option linter.unusedVariables false
set_option linter.unusedSimpArgs false

theorem EV.bd {w : World} {K : Nat} {z : Int} {e : Ent} (h : EV w K z e) : (z.natAbs : Int) < pw K := by
  obtain ⟨xs, h1, h2, h3⟩ := h
  have h4 := h1.lt e.s
  rw [h2] at h4
  have := pw_mono h3
  omega
end Go.Proofs.YtifebbacnlhggaaGreatDoor
