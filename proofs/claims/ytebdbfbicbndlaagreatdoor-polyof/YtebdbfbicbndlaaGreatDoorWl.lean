/-
  limbs.quotient by a size that is greater or has one limb; limbs.Quo out of a contract of quotient.
-/
import Derived.Test.YtebdbfbicbndlaaGreatDoorWk
namespace Go.Proofs.YtebdbfbicbndlaaGreatDoor
open Go.RowKit
set_option linter.unusedVariables false
set_option linter.unusedSimpArgs false

/-- A quotient and what is left, in memory from block B on. -/
structure QR (B : Nat) (w : World) (qa : Option Addr) (qn : Nat) (qs : List Int) (ra : Option Addr) (rn : Nat) (rs : List Int) (x y : Int) (n : Nat) : Prop where
  ql : qs.length = qn
  qrd : Rd w qa .u32 qs
  qu : U32 qs
  qf : From B qa
  rl : rs.length = rn
  rrd : Rd w ra .u32 rs
  ru : U32 rs
  rf : From B ra
  eq : val qs * y + val rs = x
  lt : val rs < y
  qb : qn ≤ n + 1
  rb : rn ≤ n + 1
  row : ∃ g Z, ra = some ⟨g, 0, none⟩ ∧ Row w g 96 .u32 Z ∧ Z.take rn = rs ∧ U32 Z
  qz : Fz w qa
  rz : Fz w ra
theorem QR.below {B : Nat} {w w' : World} {qa : Option Addr} {qn : Nat} {qs : List Int} {ra : Option Addr} {rn : Nat} {rs : List Int} {x y : Int} {n : Nat} (h : QR B w qa qn qs ra rn rs x y n) (hb : Below w.heap.size w w') : QR B w' qa qn qs ra rn rs x y n :=
  ⟨h.ql, h.qrd.below hb, h.qu, h.qf, h.rl, h.rrd.below hb, h.ru, h.rf, h.eq, h.lt, h.qb, h.rb, by obtain ⟨g, Z, h1, h2, h3⟩ := h.row; exact ⟨g, Z, h1, h2.below hb h2.lt, h3⟩, h.qz.below hb, h.rz.below hb⟩

set_option maxHeartbeats 1000000 in
/-- limbs.quotient: the size is below the other. -/
theorem quotient_lt (p q : Option Addr) (n nc m mc : Nat) (xs ys : List Int) (w : World) (hA : AI w p n nc xs) (hB : AI w q m mc ys) (hlt : val xs < val ys) :
    Calls Tryz.prog 84 #[.slice p n nc, .slice q m mc] w fun e w' => ∃ qa qn qs ra rn rs, e = .returned (.tuple #[.slice qa qn qn, .slice ra rn rn]) ∧ QR w.heap.size w' qa qn qs ra rn rs (val xs) (val ys) n ∧ Below w.heap.size w w' := by
  have hs := hA.sml
  go_enter Tryz.func84, Tryz.ntmps84
  go_wp2_with fail
  refine (compare_any p q n nc m mc xs ys _ hA.len hB.len hA.cap hA.bnd hB.cap hB.bnd hA.rd hA.u hB.rd hB.u).mono ?_
  rw [icmp_lt hlt]
  rintro e w1 ⟨rfl, hb1⟩
  go_wp2_with fail
  refine (clone_any p n nc xs _ hA.len (by omega) (hA.rd.below hb1)).mono ?_
  rintro e w2 ⟨rfl, rfl⟩
  go_wp2
  go_ret2
  refine ⟨none, 0, [], some ⟨w1.heap.size, 0, none⟩, n, xs, rfl, ⟨rfl, Rd.nil, u32_nil, from_none, hA.len, (Row.new w1 _ _ _).rd_all, hA.u, from_new hb1.size, by simp [val], hlt, by omega, by omega, ⟨w1.heap.size, xs, rfl, Row.new w1 _ _ _, List.take_of_length_le (by rw [hA.len]; omega), hA.u⟩, Fz.nil _, (Row.new w1 _ _ _).fz 0⟩, hb1.alloc hb1.size _⟩

set_option maxHeartbeats 1000000 in
/-- limbs.quotient: by one limb. -/
theorem quotient_one (p q : Option Addr) (n nc mc : Nat) (xs : List Int) (d : Int) (w : World) (hA : AI w p n nc xs) (hB : AI w q 1 mc [d]) (hd : 0 < d) (hle : d ≤ val xs) :
    Calls Tryz.prog 84 #[.slice p n nc, .slice q 1 mc] w fun e w' => ∃ qa qn qs ra rn rs, e = .returned (.tuple #[.slice qa qn qn, .slice ra rn rn]) ∧ QR w.heap.size w' qa qn qs ra rn rs (val xs) (val [d]) n ∧ Below w.heap.size w w' := by
  have hs := hA.sml
  have hd' : d < 4294967296 := by have := hB.u 0; rw [gx_zero] at this; omega
  have hic : ¬ icmp (val xs) (val [d]) < 0 := by
    rw [val_one, icmp, if_neg (by omega)]; split <;> decide
  go_enter Tryz.func84, Tryz.ntmps84
  go_wp2_with fail
  refine (compare_any p q n nc 1 mc xs [d] _ hA.len hB.len hA.cap hA.bnd hB.cap hB.bnd hA.rd hA.u hB.rd hB.u).mono ?_
  rintro e w1 ⟨rfl, hb1⟩
  go_wp2_with fail
  refine (clone_any p n nc xs _ hA.len (by omega) (hA.rd.below hb1)).mono ?_
  rintro e w2 ⟨rfl, rfl⟩
  obtain ⟨b, off, hq, hc⟩ := ((hB.rd.below hb1).alloc (.cells (ca .u32 xs) 96)) (by simp)
  have hc0 := hc 0 (by simp)
  rw [gx_zero, Nat.add_zero] at hc0
  subst hq
  clear hc
  go_wp2_with fail
  refine (divideByLimb_any w1.heap.size n n xs d _ (by rw [hA.len]; omega) (Nat.le_refl _) (by omega) (Row.new w1 _ _ _) hA.u hd hd').mono ?_
  rintro e w3 ⟨R, r, rfl, r1, r2, r3, r4, r5, r6, r7⟩
  go_wp2
  go_ret2
  have hl := hA.len
  rw [List.take_of_length_le (by omega), List.take_of_length_le (by omega)] at r5
  have hb3 : Below w.heap.size w w3 := below_grown (hb1.alloc hb1.size _) r7 (by simp; have := hb1.size; omega) hb1.size
  refine ⟨some ⟨w1.heap.size, 0, none⟩, n, R, some ⟨w3.heap.size, 0, none⟩, 1, [r], rfl, ⟨by omega, r6.rd_all.alloc _, r2, from_new hb1.size, rfl, (Row.new w3 96 .u32 [r]).rd_all, u32_one (by omega), from_new hb3.size, by rw [val_one, val_one]; exact r5, by rw [val_one, val_one]; exact r4, by omega, by omega, ⟨w3.heap.size, [r], rfl, Row.new w3 96 .u32 [r], rfl, u32_one (by omega)⟩, (r6.alloc _).fz 0, (Row.new w3 96 .u32 [r]).fz 0⟩, hb3.alloc hb3.size _⟩

end Go.Proofs.YtebdbfbicbndlaaGreatDoor
