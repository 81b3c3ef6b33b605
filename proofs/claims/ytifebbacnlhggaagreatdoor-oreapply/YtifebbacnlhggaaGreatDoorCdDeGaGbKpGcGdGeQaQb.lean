/-
  Bits of an exponent (out of Pa).
-/
import Derived.Test.YtifebbacnlhggaaGreatDoorRaWmBeRdLnWrIb
import Derived.Test.YtifebbacnlhggaaGreatDoorFyUjBsLeUk
import Derived.Test.YtifebbacnlhggaaGreatDoorVaVgRo
import Derived.Test.YtifebbacnlhggaaGreatDoorWhPnWkWlBxBbCvNjUbUcUdOw
import Derived.Test.YtifebbacnlhggaaGreatDoorPlMmNaWa
import Derived.Lib.EndianBits
import Derived.Deep.DeepCutAuto
namespace Go.Proofs.YtifebbacnlhggaaGreatDoor
open Go.RowKit
open Go.Shelf
set_option linter.unusedVariables false
set_option linter.unusedSimpArgs false

theorem and1_i64 (i : Nat) (hi : i < 9223372036854775808) : bits BinOp.and IntKind.i64 (i : Int) 1 = ((i % 2 : Nat) : Int) := by
  have h2 : (2 : Int) ^ 63 = 9223372036854775808 := by decide
  have h := bits_mask .i64 63 (by decide) (fun n h0 h1 => by rw [h2] at h1; rw [IntKind.wrap_i64]; omega) 1 (by decide) (i : Int) (by omega) (by rw [h2]; omega)
  rw [show ((2 : Int) ^ 1 - 1) = 1 by decide] at h
  rw [h]
  omega
theorem bit_of (e t : Nat) (he : e ≤ 1048576) : bits BinOp.and IntKind.i64 ((e : Int) / 2 ^ t) 1 = ((e / 2 ^ t % 2 : Nat) : Int) := by
  rw [← and1_i64 _ (by have := Nat.div_le_self e (2 ^ t); omega)]
  simp
/-- One bit of the exponent. -/
theorem bit_step (e j : Nat) : e / 2 ^ j = 2 * (e / 2 ^ (j + 1)) + e / 2 ^ j % 2 := by
  rw [Nat.pow_succ, ← Nat.div_div_eq_div_mul]; omega
end Go.Proofs.YtifebbacnlhggaaGreatDoor
/-
  Entries that are answered last; limbs.Of for entries.
-/
namespace Go.Proofs.YtifebbacnlhggaaGreatDoor
open Go.RowKit
set_option linter.unusedVariables false
set_option linter.unusedSimpArgs false

theorem lasts_NV (B K : Nat) : Lasts (fun w z e => NV B w K z e) := ⟨fun h hg hne => by
    obtain ⟨xs, h1, h2⟩ := h
    exact ⟨xs, ⟨h1.len, rd_grown h1.rd hg (by rw [h1.len]; exact hne), h1.u, h1.nrm, h1.sg, h1.pn, h1.v, h1.fr, h1.fz.kept hg (fun a ha => hne (Nat.pos_of_ne_zero fun h0 => by rw [h1.pn h0] at ha; cases ha) a ha)⟩, h2⟩, fun h hn => by
    obtain ⟨xs, h1, h2⟩ := h
    exact rd_lt h1.rd (by rw [h1.len]; exact hn)⟩
theorem Of_e (a : Int) (w : World) (h0 : -9223372036854775808 ≤ a) (h1 : a ≤ 9223372036854775807) : Calls Tryz.prog 48 #[.int .i64 a] w fun r w' => ∃ u : Ent, r = .returned (.agg #[.bool u.s, .slice u.p u.n u.c]) ∧ NV w.heap.size w' 2 a u ∧ Below w.heap.size w w' := by
  refine (Of_any a w h0 h1).mono ?_
  rintro e w' ⟨s', p', n', zs, rfl, g1, g2, g3⟩
  exact ⟨⟨s', p', n', n'⟩, rfl, ⟨zs, g1, rfl, g2⟩, g3⟩
end Go.Proofs.YtifebbacnlhggaaGreatDoor
/-
  Lehmer's steps, stopped by Collins's condition: plain facts.
-/
namespace Go.Proofs.YtifebbacnlhggaaGreatDoor
open Go.RowKit
set_option linter.unusedVariables false
set_option linter.unusedSimpArgs false

/-- What is left of a and b behind so many steps. -/
def rem0 (sg s t a b : Int) : Int := -sg * (s * a - t * b)
def rem1 (sg s t a b : Int) : Int := sg * (s * a - t * b)

/-- A state of the steps: p0 and q0 are a and b over F, without their rests. -/
structure La (a b F p0 q0 sg p q s0 s1 s2 t0 t1 t2 : Int) : Prop where
  hs : sg = 1 ∨ sg = -1
  ep : p = sg * (s1 * p0 - t1 * q0)
  eq : q = -sg * (s2 * p0 - t2 * q0)
  idn : t2 * p + t1 * q = p0
  s1n : 0 ≤ s1
  s2n : 0 ≤ s2
  t1n : 0 ≤ t1
  t2n : 1 ≤ t2
  t12 : t1 ≤ t2
  st2 : s2 ≤ t2
  st12 : s1 + s2 ≤ t1 + t2
  qn : 0 ≤ q
  pq : q ≤ p
  pp : p ≤ p0
  g : Int.gcd (rem1 sg s1 t1 a b) (rem0 sg s2 t2 a b) = Int.gcd a b
  prev : (s0 = 0 ∧ t0 = 0 ∧ s1 = 1 ∧ t1 = 0 ∧ s2 = 0 ∧ t2 = 1 ∧ sg = 1) ∨
    (0 ≤ s0 ∧ 0 ≤ t0 ∧ t0 ≤ t1 ∧ t1 < 1073741824 ∧ s0 < 1073741824 ∧ s1 ≤ t1 ∧ 1 ≤ t1 ∧ 0 ≤ rem1 sg s1 t1 a b ∧ rem1 sg s1 t1 a b < rem0 sg s0 t0 a b ∧ rem1 sg s1 t1 a b ≤ b ∧ (t0 = 0 ∨ rem0 sg s0 t0 a b ≤ b) ∧ Int.gcd (rem0 sg s0 t0 a b) (rem1 sg s1 t1 a b) = Int.gcd a b)

theorem La.start {a b F p0 q0 : Int} (hq : 0 ≤ q0) (hp : q0 ≤ p0) : La a b F p0 q0 1 p0 q0 0 1 0 0 0 1 := by
  refine ⟨.inl rfl, by omega, by omega, by omega, by decide, by decide, by decide, by decide, by decide, by decide, by decide, hq, hp, Int.le_refl _, ?_, .inl ⟨rfl, rfl, rfl, rfl, rfl, rfl, rfl⟩⟩
  rw [rem1, rem0, show (1 : Int) * (1 * a - 0 * b) = a by omega, show -(1 : Int) * (0 * a - 1 * b) = b by omega]

/-- Rests are small: what is left has the sign that the highest bits say. -/
theorem rest_lo {F al be s t : Int} (hF : 0 < F) (ha0 : 0 ≤ al) (ha1 : al < F) (hb0 : 0 ≤ be) (hb1 : be < F) (hs0 : 0 ≤ s) (ht0 : 0 ≤ t) (hst : s ≤ t) :
    -(t * (F - 1)) ≤ s * al - t * be ∧ s * al - t * be ≤ t * (F - 1) := by
  have h1 : s * al ≤ s * (F - 1) := Int.mul_le_mul_of_nonneg_left (by omega) hs0
  have h2 : s * (F - 1) ≤ t * (F - 1) := Int.mul_le_mul_of_nonneg_right hst (by omega)
  have h3 : t * be ≤ t * (F - 1) := Int.mul_le_mul_of_nonneg_left (by omega) ht0
  have h4 : 0 ≤ s * al := Int.mul_nonneg hs0 ha0
  have h5 : 0 ≤ t * be := Int.mul_nonneg ht0 hb0
  constructor <;> omega
theorem sg_bd {sg x M : Int} (hs : sg = 1 ∨ sg = -1) (h : -M ≤ x ∧ x ≤ M) : -M ≤ sg * x ∧ sg * x ≤ M := by
  rcases hs with rfl | rfl <;> omega
theorem sq_lt {t p p0 : Int} (ht : 1 ≤ t) (hp : t ≤ p) (h : t * p ≤ p0) (h0 : p0 < 1152921504606846976) : t < 1073741824 := by
  rcases (show t < 1073741824 ∨ 1073741824 ≤ t by omega) with h1 | h1
  · exact h1
  · exfalso
    have h2 : t * 1073741824 ≤ t * p := Int.mul_le_mul_of_nonneg_left (by omega) (by omega)
    have h3 : 1073741824 * 1073741824 ≤ t * 1073741824 := Int.mul_le_mul_of_nonneg_right h1 (by decide)
    omega

theorem La.step {a b F p0 q0 sg p q s0 s1 s2 t0 t1 t2 al be : Int} (h : La a b F p0 q0 sg p q s0 s1 s2 t0 t1 t2) (hF : 0 < F) (hp0 : p0 < 1152921504606846976)
    (ea : a = p0 * F + al) (eb : b = q0 * F + be) (ha0 : 0 ≤ al) (ha1 : al < F) (hb0 : 0 ≤ be) (hb1 : be < F)
    (c1 : t2 ≤ q) (c2 : t1 + t2 ≤ p - q) : La a b F p0 q0 (-sg) q (p % q) s1 s2 (s1 + p / q * s2) t1 t2 (t1 + p / q * t2) := by
  have t2n := h.t2n
  have t1n := h.t1n
  have hq : 0 < q := by omega
  have hd : 1 ≤ p / q := (Int.le_ediv_iff_mul_le hq).2 (by have := h.pq; omega)
  have hm : p % q = p - p / q * q := by have := Int.emod_add_mul_ediv p q; rw [Int.mul_comm q] at this; omega
  have hm0 := Int.emod_nonneg p (show q ≠ 0 by omega)
  have hm1 := Int.emod_lt_of_pos p hq
  generalize p / q = d at *
  have hs2 := Int.mul_nonneg (show 0 ≤ d by omega) h.s2n
  have ht2 : t2 ≤ d * t2 := by have := Int.mul_le_mul_of_nonneg_right hd (show 0 ≤ t2 by omega); omega
  have hds : (d - 1) * s2 ≤ (d - 1) * t2 := Int.mul_le_mul_of_nonneg_left h.st2 (by omega)
  rw [Int.sub_mul, Int.sub_mul, Int.one_mul, Int.one_mul] at hds
  have hst12 := h.st12
  have hst2 := h.st2
  have hs1n := h.s1n
  have hs2n := h.s2n
  -- what is left
  have e2 : rem0 sg s2 t2 a b = F * q - sg * (s2 * al - t2 * be) := by rw [rem0, ea, eb, h.eq]; grind
  have e1 : rem1 sg s1 t1 a b - rem0 sg s2 t2 a b = F * (p - q) + sg * ((s1 + s2) * al - (t1 + t2) * be) := by rw [rem0, rem1, ea, eb, h.eq, h.ep]; grind
  have b2 := sg_bd h.hs (rest_lo hF ha0 ha1 hb0 hb1 h.s2n (by omega) h.st2)
  have b1 := sg_bd h.hs (rest_lo hF ha0 ha1 hb0 hb1 (s := s1 + s2) (t := t1 + t2) (by omega) (by omega) h.st12)
  have k2 : F * t2 ≤ F * q := Int.mul_le_mul_of_nonneg_left c1 (by omega)
  have k1 : F * (t1 + t2) ≤ F * (p - q) := Int.mul_le_mul_of_nonneg_left c2 (by omega)
  have m2 : t2 * (F - 1) = F * t2 - t2 := by rw [Int.mul_sub, Int.mul_comm F]; omega
  have m1 : (t1 + t2) * (F - 1) = F * (t1 + t2) - (t1 + t2) := by rw [Int.mul_sub, Int.mul_comm F]; omega
  have x2 : 0 ≤ rem0 sg s2 t2 a b := by omega
  have x1 : rem0 sg s2 t2 a b < rem1 sg s1 t1 a b := by omega
  have f1 : rem1 (-sg) s2 t2 a b = rem0 sg s2 t2 a b := rfl
  have f0 : rem0 (-sg) s1 t1 a b = rem1 sg s1 t1 a b := by rw [rem0, rem1, Int.neg_neg]
  have f2 : rem0 (-sg) (s1 + d * s2) (t1 + d * t2) a b = rem1 sg s1 t1 a b - d * rem0 sg s2 t2 a b := by rw [rem0, rem1, rem0]; grind
  have hid := h.idn
  have htq := Int.mul_nonneg t1n h.qn
  refine ⟨by rcases h.hs with e | e <;> omega, h.eq, ?_, ?_, h.s2n, by omega, by omega, by omega, by omega, by omega, by omega, hm0, by omega, by have := h.pp; have := h.pq; omega, ?_, .inr ⟨h.s1n, h.t1n, h.t12, ?_, ?_, h.st2, h.t2n, by rw [f1]; exact x2, by rw [f1, f0]; exact x1, ?_, ?_, ?_⟩⟩
  · rw [hm, h.ep, h.eq]; grind
  · rw [hm]
    have : (t1 + d * t2) * q + t2 * (p - d * q) = t2 * p + t1 * q := by grind
    omega
  · rw [f1, f2, Int.gcd_sub_mul_right_right, Int.gcd_comm]; exact h.g
  · exact sq_lt (p := p) h.t2n (by have := h.qn; omega) (by omega) hp0
  · rcases h.prev with ⟨_, _, e, _⟩ | ⟨_, _, _, e, _, e', _⟩
    · omega
    · omega
  · rw [f1]
    rcases h.prev with ⟨_, _, _, _, e3, e4, e5⟩ | ⟨_, _, _, _, _, _, _, _, _, e, _⟩
    · rw [e3, e4, e5, rem0]; omega
    · omega
  · rw [f0]
    rcases h.prev with ⟨_, _, _, e, _⟩ | ⟨_, _, _, _, _, _, _, _, _, e, _⟩
    · exact .inl e
    · exact .inr e
  · rw [f0, f1]; exact h.g

/-- What the steps leave. -/
theorem La.done {a b F p0 q0 sg p q s0 s1 s2 t0 t1 t2 : Int} (h : La a b F p0 q0 sg p q s0 s1 s2 t0 t1 t2) (ht : 0 < t0) :
    0 ≤ s0 ∧ s0 < 1073741824 ∧ t0 < 1073741824 ∧ 0 ≤ s1 ∧ s1 < 1073741824 ∧ 0 ≤ t1 ∧ t1 < 1073741824 ∧ 0 ≤ rem1 sg s1 t1 a b ∧ rem1 sg s1 t1 a b < rem0 sg s0 t0 a b ∧ rem0 sg s0 t0 a b ≤ b ∧ Int.gcd (rem0 sg s0 t0 a b) (rem1 sg s1 t1 a b) = Int.gcd a b := by
  rcases h.prev with ⟨_, e, _⟩ | ⟨h1, h2, h3, h4, h5, h6, h7, h8, h9, h10, h11, h12⟩
  · omega
  · exact ⟨h1, h5, by omega, h.s1n, by omega, h.t1n, h4, h8, h9, by rcases h11 with e | e; omega; exact e, h12⟩
/-- What is reckoned with fits. -/
theorem La.bd {a b F p0 q0 sg p q s0 s1 s2 t0 t1 t2 : Int} (h : La a b F p0 q0 sg p q s0 s1 s2 t0 t1 t2) (hq : 0 < p) (hp0 : p0 < 1152921504606846976) :
    0 ≤ s0 ∧ s0 < 1073741824 ∧ 0 ≤ t0 ∧ t0 < 1073741824 ∧ s1 ≤ 1073741824 ∧ t1 < 1073741824 ∧ t2 ≤ p0 ∧ s2 ≤ p0 := by
  have h1 : t2 * 1 ≤ t2 * p := Int.mul_le_mul_of_nonneg_left (by omega) (by have := h.t2n; omega)
  have h2 := Int.mul_nonneg h.t1n h.qn
  have h3 := h.idn
  have h4 := h.st2
  rcases h.prev with ⟨e1, e2, e3, e4, _⟩ | ⟨h1, h2, h3, h4, h5, h6, h7, h8, h9, h10, h11, h12⟩ <;> refine ⟨by omega, by omega, by omega, by omega, by omega, by omega, by omega, by omega⟩
end Go.Proofs.YtifebbacnlhggaaGreatDoor
/-
  The 64 bits of a number from a place on; a row times small numbers with signs: plain facts.
-/
namespace Go.Proofs.YtifebbacnlhggaaGreatDoor
open Go.RowKit
set_option linter.unusedVariables false
set_option linter.unusedSimpArgs false

theorem val_cut (xs : List Int) (i : Nat) : val xs = val (xs.take i) + pw i * val (xs.drop i) := by
  by_cases h : i ≤ xs.length
  · exact val_drop_take xs i h
  · rw [List.take_of_length_le (by omega), List.drop_of_length_le (by omega)]; simp [val]
end Go.Proofs.YtifebbacnlhggaaGreatDoor
/-
  What a function leaves that writes into two rows.
-/
namespace Go.Proofs.YtifebbacnlhggaaGreatDoor
open Go.RowKit
set_option linter.unusedVariables false
set_option linter.unusedSimpArgs false

/-- All but the blocks g and h is as it was. -/
structure Kp (g h : Nat) (w w' : World) : Prop where
  block : ∀ k, k < w.heap.size → k ≠ g → k ≠ h → w'.heap[k]? = w.heap[k]?
  os : w'.os = w.os
  tape : w'.tape = w.tape
  output : w'.output = w.output
  size : w.heap.size ≤ w'.heap.size
theorem Kp.refl (g h : Nat) (w : World) : Kp g h w w := ⟨fun _ _ _ _ => rfl, rfl, rfl, rfl, Nat.le_refl _⟩
theorem Kp.grown {g h x : Nat} {w w1 w2 : World} (k : Kp g h w w1) (hg : w1.grownBy w2 (some x)) (hx : x = g ∨ x = h) : Kp g h w w2 :=
  ⟨fun i hi a b => (hg.block i (Nat.lt_of_lt_of_le hi k.size) (fun e => by cases e; rcases hx with rfl | rfl <;> contradiction)).trans (k.block i hi a b), hg.os.trans k.os, hg.tape.trans k.tape, hg.output.trans k.output, Nat.le_trans k.size hg.size⟩
end Go.Proofs.YtifebbacnlhggaaGreatDoor
/-
  (limbs.steps).walk.
-/
namespace Go.Proofs.YtifebbacnlhggaaGreatDoor
open Go.RowKit
set_option linter.unusedVariables false
set_option linter.unusedSimpArgs false

theorem Kp.set2 {g h : Nat} {w w1 : World} (k : Kp g h w w1) (j : Nat) (v : Value) : Kp g h w (w1.setCell ⟨h, j, none⟩ v) :=
  ⟨fun i hi a b => (heap_setCell_other w1 ⟨h, j, none⟩ i v b).trans (k.block i hi a b), k.os, k.tape, k.output, by simp [World.setCell]; exact k.size⟩
theorem Kp.drew {g h : Nat} {w w1 : World} (k : Kp g h w w1) : Kp g h w w1.drew := ⟨k.block, k.os, k.tape, k.output, k.size⟩
theorem Kp.alloc {g h : Nat} {w w1 : World} (k : Kp g h w w1) (o : Obj) : Kp g h w (w1.alloc o) :=
  ⟨fun i hi a b => (Below.heap_alloc w1 o i (Nat.lt_of_lt_of_le hi k.size)).trans (k.block i hi a b), k.os, k.tape, k.output, by simp; have := k.size; omega⟩

end Go.Proofs.YtifebbacnlhggaaGreatDoor
/-
  limbs.bitsFrom.
-/
namespace Go.Proofs.YtifebbacnlhggaaGreatDoor
open Go.RowKit
set_option linter.unusedVariables false
set_option linter.unusedSimpArgs false

end Go.Proofs.YtifebbacnlhggaaGreatDoor
/-
  limbs.lookAhead: Lehmer's steps.
-/
namespace Go.Proofs.YtifebbacnlhggaaGreatDoor
open Go.RowKit
set_option linter.unusedVariables false
set_option linter.unusedSimpArgs false

/-- What the steps are worth. -/
def Good (a b aa ab ba bb : Int) : Prop :=
  -1073741824 < aa ∧ aa < 1073741824 ∧ -1073741824 < ab ∧ ab < 1073741824 ∧ -1073741824 < ba ∧ ba < 1073741824 ∧ -1073741824 < bb ∧ bb < 1073741824 ∧ 0 ≤ ba * a + bb * b ∧ ba * a + bb * b < aa * a + ab * b ∧ aa * a + ab * b ≤ b ∧ Int.gcd (aa * a + ab * b) (ba * a + bb * b) = Int.gcd a b
theorem bitLen_bd {x : Int} (h0 : 0 < x) (h1 : x < 4294967296) : 1 ≤ Lib.bitLen x.toNat ∧ Lib.bitLen x.toNat ≤ 32 ∧ IB (Lib.bitLen x.toNat) x := by
  have hib := bitLenAux_ib 64 x.toNat (by omega)
  have e : ((x.toNat : Nat) : Int) = x := by omega
  rw [e] at hib
  have hb : IB (Lib.bitLen x.toNat) x := hib
  refine ⟨?_, ?_, hb⟩
  · rcases Nat.eq_zero_or_pos (Lib.bitLen x.toNat) with hz | hz
    · have h2 := hb.2.1
      rw [hz] at h2
      have e0 : (2 : Int) ^ 0 = 1 := rfl
      rw [e0] at h2; omega
    · exact hz
  · rcases Nat.lt_or_ge 32 (Lib.bitLen x.toNat) with hz | hz
    · exfalso
      rcases hb.2.2 with h2 | h2
      · omega
      · have h3 := p2_mono (show 32 ≤ Lib.bitLen x.toNat - 1 by omega)
        have e0 : (2 : Int) ^ 32 = 4294967296 := rfl
        omega
    · exact hz
end Go.Proofs.YtifebbacnlhggaaGreatDoor
/-
  limbs.takeTimes.
-/
namespace Go.Proofs.YtifebbacnlhggaaGreatDoor
open Go.RowKit
set_option linter.unusedVariables false
set_option linter.unusedSimpArgs false

end Go.Proofs.YtifebbacnlhggaaGreatDoor
/-
  limbs.guess.
-/
namespace Go.Proofs.YtifebbacnlhggaaGreatDoor
open Go.RowKit
set_option linter.unusedVariables false
set_option linter.unusedSimpArgs false

/-- The highest limbs of two numbers: three and two of them. -/
structure Hd (P lu lv u0 u1 u2 nx hd U V : Int) : Prop where
  p : 0 < P
  lu0 : 0 ≤ lu
  lu1 : lu < P
  lv0 : 0 ≤ lv
  lv1 : lv < P
  a0 : 0 ≤ u0 ∧ u0 < 4294967296
  a1 : 0 ≤ u1 ∧ u1 < 4294967296
  a2 : 0 ≤ u2 ∧ u2 < 4294967296
  b0 : 0 ≤ nx ∧ nx < 4294967296
  b1 : 1 ≤ hd ∧ hd < 4294967296
  u : U = lu + P * (u0 + 4294967296 * (u1 + 4294967296 * u2))
  v : V = lv + P * (nx + 4294967296 * hd)
theorem mul_le_left {a b P : Int} (hP : 0 ≤ P) (h : a ≤ b) : P * a ≤ P * b := Int.mul_le_mul_of_nonneg_left h hP
theorem Hd.vpos {P lu lv u0 u1 u2 nx hd U V : Int} (h : Hd P lu lv u0 u1 u2 nx hd U V) : P * 4294967296 ≤ V := by
  have := mul_le_left (Int.le_of_lt h.p) (show (4294967296 : Int) ≤ nx + 4294967296 * hd by have := h.b0; have := h.b1; omega)
  have := h.v
  have := h.lv0
  omega
theorem Hd.vp {P lu lv u0 u1 u2 nx hd U V : Int} (h : Hd P lu lv u0 u1 u2 nx hd U V) : 0 < V := by
  have := h.vpos
  have := h.p
  omega
/-- U lies below its head and one. -/
theorem Hd.ult {P lu lv u0 u1 u2 nx hd U V : Int} (h : Hd P lu lv u0 u1 u2 nx hd U V) {k : Int} (hk : u0 + 4294967296 * (u1 + 4294967296 * u2) + 1 ≤ k) : U < P * k := by
  have e := mul_le_left (Int.le_of_lt h.p) hk
  rw [Int.mul_add, Int.mul_one] at e
  have := h.u
  have := h.lu1
  omega
theorem Hd.q0 {P lu lv u0 u1 u2 nx hd U V : Int} (h : Hd P lu lv u0 u1 u2 nx hd U V) : 0 ≤ U / V ∧ (U / V) * V ≤ U ∧ U < (U / V + 1) * V := by
  have hV := h.vp
  have hU : 0 ≤ U := by
    have := Int.mul_nonneg (Int.le_of_lt h.p) (show 0 ≤ u0 + 4294967296 * (u1 + 4294967296 * u2) by have := h.a0; have := h.a1; have := h.a2; omega)
    have := h.u
    have := h.lu0
    omega
  refine ⟨Int.ediv_nonneg hU (by omega), Int.ediv_mul_le U (by omega), Int.lt_ediv_add_one_mul_self U hV⟩
/-- The highest limb is at most the other's, if the quotient is one limb. -/
theorem Hd.top {P lu lv u0 u1 u2 nx hd U V : Int} (h : Hd P lu lv u0 u1 u2 nx hd U V) (hlt : U < 4294967296 * V) : u2 ≤ hd := by
  rcases Int.lt_or_le hd u2 with hc | hc
  · exfalso
    have e1 : P * (4294967296 * (4294967296 * (hd + 1))) ≤ P * (u0 + 4294967296 * (u1 + 4294967296 * u2)) := mul_le_left (Int.le_of_lt h.p) (by have := h.a0; have := h.a1; omega)
    have e2 : P * (nx + 4294967296 * hd + 1) ≤ P * (4294967296 * (hd + 1)) := mul_le_left (Int.le_of_lt h.p) (by have := h.b0; omega)
    rw [Int.mul_add P (nx + 4294967296 * hd) 1, Int.mul_one] at e2
    have e3 : P * (4294967296 * (4294967296 * (hd + 1))) = 4294967296 * (P * (4294967296 * (hd + 1))) := by rw [Int.mul_left_comm]
    have := h.u
    have := h.v
    have := h.lu0
    have := h.lv1
    omega
  · exact hc
/-- The first guess is not too small. -/
theorem Hd.first {P lu lv u0 u1 u2 nx hd U V : Int} (h : Hd P lu lv u0 u1 u2 nx hd U V) : U / V ≤ (u1 + 4294967296 * u2) / hd := by
  obtain ⟨q0, q1, q2⟩ := h.q0
  have hh := h.b1
  apply Int.le_ediv_of_mul_le (by omega)
  rcases Int.lt_or_le (u1 + 4294967296 * u2) (U / V * hd) with hc | hc
  · exfalso
    have e1 : U < P * (4294967296 * (U / V * hd)) := h.ult (by have := h.a0; omega)
    have e2 : P * (4294967296 * hd) ≤ V := by
      have := mul_le_left (Int.le_of_lt h.p) (show 4294967296 * hd ≤ nx + 4294967296 * hd by have := h.b0; omega)
      have := h.v
      have := h.lv0
      omega
    have e3 := mul_le_left q0 e2
    have e4 : U / V * (P * (4294967296 * hd)) = P * (4294967296 * (U / V * hd)) := by
      rw [Int.mul_left_comm, Int.mul_left_comm (U / V) 4294967296]
    omega
  · exact hc
/-- A guess that takes too much is too great. -/
theorem Hd.less {P lu lv u0 u1 u2 nx hd U V d : Int} (h : Hd P lu lv u0 u1 u2 nx hd U V) (hd0 : 0 ≤ d) (hc : u0 + 4294967296 * (u1 + 4294967296 * u2) < d * (nx + 4294967296 * hd)) : U / V < d := by
  obtain ⟨q0, q1, q2⟩ := h.q0
  rcases Int.lt_or_le (U / V) d with hq | hq
  · exact hq
  · exfalso
    have e1 : U < P * (d * (nx + 4294967296 * hd)) := h.ult (by omega)
    have e2 : P * (nx + 4294967296 * hd) ≤ V := by have := h.v; have := h.lv0; omega
    have e3 := mul_le_left hd0 e2
    have e4 : d * (P * (nx + 4294967296 * hd)) = P * (d * (nx + 4294967296 * hd)) := Int.mul_left_comm ..
    have e5 : d * V ≤ U / V * V := Int.mul_le_mul_of_nonneg_right hq (Int.le_of_lt h.vp)
    omega
end Go.Proofs.YtifebbacnlhggaaGreatDoor
