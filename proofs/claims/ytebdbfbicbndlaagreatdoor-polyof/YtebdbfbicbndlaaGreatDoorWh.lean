/-
  limbs.Sign, Cmp.
-/
import Derived.Test.YtebdbfbicbndlaaGreatDoorNi
namespace Go.Proofs.YtebdbfbicbndlaaGreatDoor
open Go.RowKit
set_option linter.unusedVariables false
set_option linter.unusedSimpArgs false

/-- The sign of an integer. -/
def isgn (z : Int) : Int := if z = 0 then 0 else if z < 0 then -1 else 1

theorem isgn_ival_zero {s : Bool} {xs : List Int} (hU : U32 xs) (h : tlen xs = 0) : isgn (ival s xs) = 0 := by
  have := (tlen_zero_iff hU).1 h
  cases s <;> simp [ival, isgn, this]
theorem isgn_ival {s : Bool} {xs : List Int} (hU : U32 xs) (h : tlen xs ≠ 0) : isgn (ival s xs) = if s then -1 else 1 := by
  have h1 : val xs ≠ 0 := fun e => h ((tlen_zero_iff hU).2 e)
  have h2 := val_nonneg hU
  cases s
  · simp only [ival, isgn, Bool.false_eq_true, if_false]; rw [if_neg h1, if_neg (by omega)]
  · simp only [ival, isgn, if_true]; rw [if_neg (by omega), if_pos (by omega)]

set_option maxHeartbeats 400000 in
/-- limbs.Sign. -/
theorem Sign_any (s : Bool) (p : Option Addr) (n nc : Nat) (xs : List Int) (w : World) (hA : AI w p n nc xs) :
    Calls Tryz.prog 29 #[.agg #[.bool s, .slice p n nc]] w fun e w' => e = .returned (.int .i64 (isgn (ival s xs))) ∧ Below w.heap.size w w' := by
  have tx := tlen_le xs
  by_cases h0 : tlen xs = 0
  · rw [isgn_ival_zero hA.u h0]
    go_enter Tryz.func29, Tryz.ntmps29
    go_wp2_with (go_at_call 66; refine (trim_any p n nc xs _ hA.len hA.cap hA.bnd (hA.rd.alloc _)).mono ?_; rintro e w' ⟨rfl, rfl⟩)
    go_ret
    exact ⟨rfl, (Below.refl _ _).alloc (Nat.le_refl _) _⟩
  · rw [isgn_ival hA.u h0]
    have h1 : (((tlen xs : Nat) : Int) == 0) = false := beq_eq_false_iff_ne.2 (by omega)
    cases s
    all_goals
      go_enter Tryz.func29, Tryz.ntmps29
      go_wp2_with (go_at_call 66; refine (trim_any p n nc xs _ hA.len hA.cap hA.bnd (hA.rd.alloc _)).mono ?_; rintro e w' ⟨rfl, rfl⟩)
      go_ret
      exact ⟨rfl, (Below.refl _ _).alloc (Nat.le_refl _) _⟩

theorem isgn_cases (z : Int) : (z = 0 ∧ isgn z = 0) ∨ (z < 0 ∧ isgn z = -1) ∨ (0 < z ∧ isgn z = 1) := by
  rcases Int.lt_trichotomy z 0 with h | h | h
  · exact .inr (.inl ⟨h, by rw [isgn, if_neg (by omega), if_pos h]⟩)
  · exact .inl ⟨h, by rw [isgn, if_pos h]⟩
  · exact .inr (.inr ⟨h, by rw [isgn, if_neg (by omega), if_neg (by omega)]⟩)
theorem icmp_isgn {a b : Int} (h : isgn a ≠ isgn b) : icmp (isgn a) (isgn b) = icmp a b := by
  rcases isgn_cases a with ⟨h1, h2⟩ | ⟨h1, h2⟩ | ⟨h1, h2⟩ <;> rcases isgn_cases b with ⟨h3, h4⟩ | ⟨h3, h4⟩ | ⟨h3, h4⟩ <;> rw [h2, h4] at h ⊢ <;>
    first
      | exact absurd rfl h
      | (rw [icmp_lt (by omega), icmp_lt (by omega)])
      | (rw [icmp_gt (by omega), icmp_gt (by omega)])
theorem icmp_same {s t : Bool} {xs ys : List Int} (hX : U32 xs) (hY : U32 ys) (h : isgn (ival s xs) = isgn (ival t ys)) : isgn (ival s xs) * icmp (val xs) (val ys) = icmp (ival s xs) (ival t ys) := by
  have h1 := val_nonneg hX
  have h2 := val_nonneg hY
  rcases isgn_cases (ival s xs) with ⟨a1, a2⟩ | ⟨a1, a2⟩ | ⟨a1, a2⟩ <;> rcases isgn_cases (ival t ys) with ⟨b1, b2⟩ | ⟨b1, b2⟩ | ⟨b1, b2⟩ <;> rw [a2, b2] at h <;> (try (exact absurd h (by decide))) <;> rw [a2]
  · rw [a1, b1, icmp_eq, Int.zero_mul]
  · have e1 : s = true := by cases s <;> simp_all [ival] <;> omega
    have e2 : t = true := by cases t <;> simp_all [ival] <;> omega
    subst e1 e2
    simp only [ival, if_true]
    rcases Int.lt_trichotomy (val xs) (val ys) with g | g | g
    · rw [icmp_lt g, icmp_gt (by omega)]; rfl
    · rw [g, icmp_eq, icmp_eq]; rfl
    · rw [icmp_gt g, icmp_lt (by omega)]; rfl
  · have e1 : s = false := by cases s <;> simp_all [ival] <;> omega
    have e2 : t = false := by cases t <;> simp_all [ival] <;> omega
    subst e1 e2
    simp only [ival, Bool.false_eq_true, if_false, Int.one_mul]

set_option maxHeartbeats 1000000 in
/-- limbs.Cmp. -/
theorem Cmp_any (s t : Bool) (p q : Option Addr) (n nc m mc : Nat) (xs ys : List Int) (w : World) (hA : AI w p n nc xs) (hB : AI w q m mc ys) :
    Calls Tryz.prog 32 #[.agg #[.bool s, .slice p n nc], .agg #[.bool t, .slice q m mc]] w fun e w' => e = .returned (.int .i64 (icmp (ival s xs) (ival t ys))) ∧ Below w.heap.size w w' := by
  have hd : Hid (isgn (ival s xs) = isgn (ival t ys) ∨ isgn (ival s xs) ≠ isgn (ival t ys)) := Classical.em _
  have q1 : -1 ≤ isgn (ival s xs) ∧ isgn (ival s xs) ≤ 1 := by rcases isgn_cases (ival s xs) with h | h | h <;> omega
  have q2 : -1 ≤ icmp (val xs) (val ys) ∧ icmp (val xs) (val ys) ≤ 1 := by unfold icmp; split <;> (try split) <;> decide
  obtain ⟨q1, q1'⟩ := q1
  obtain ⟨q2, q2'⟩ := q2
  go_enter Tryz.func32, Tryz.ntmps32
  go_wp2_with fail
  have hX0 := boxes2 w (.bool s) (.slice p n nc) (.bool t) (.slice q m mc) 43 43
  generalize ((w.alloc (Obj.cells #[Value.bool s, Value.slice p n nc] 43)).alloc (Obj.cells #[Value.bool t, Value.slice q m mc] 43)) = W0 at *
  refine (Sign_any s p n nc xs _ (hA.below hX0.below)).mono ?_
  rintro e W1 ⟨rfl, hb0⟩
  have hX1 := hX0.later hb0
  clear hX0 hb0 W0
  have k0 := hX1.ca0
  have k1 := hX1.ca1
  have k2 := hX1.cb0
  have k3 := hX1.cb1
  go_wp2_with fail
  refine (Sign_any t q m mc ys _ (hB.below hX1.below)).mono ?_
  rintro e W ⟨rfl, hb0⟩
  have hX := hX1.later hb0
  clear hX1 hb0 k0 k1 k2 k3 W1
  have k0 := hX.ca0
  have k1 := hX.ca1
  have k2 := hX.cb0
  have k3 := hX.cb1
  rcases hd.out with h | h
  · have hne : (isgn (ival s xs) != isgn (ival t ys)) = false := by rw [h]; simp
    have H : Hid (isgn (ival s xs) = isgn (ival t ys)) := h
    clear h hd
    go_wp2_with fail
    have hA' := hA.below hX.below
    have hB' := hB.below hX.below
    refine (compare_any p q n nc m mc xs ys _ hA.len hB.len hA.cap hA.bnd hB.cap hB.bnd hA'.rd hA.u hB'.rd hB.u).mono ?_
    rintro e w1 ⟨rfl, hb1⟩
    have hw : wrap64 (isgn (ival s xs) * icmp (val xs) (val ys)) = icmp (ival s xs) (ival t ys) := by
      rw [icmp_same hA.u hB.u H.out]
      unfold icmp; split <;> (try split) <;> simp [wrap64, IntKind.wrap, IntKind.bits, IntKind.signed]
    go_wp2
    go_ret
    refine ⟨?_, hX.below.trans (hb1.mono hX.below.size)⟩
    first
      | exact ret_int hw
      | exact ret_int (icmp_same hA.u hB.u H.out)
      | rfl
  · have hne : (isgn (ival s xs) != isgn (ival t ys)) = true := by rw [bne_iff_ne]; exact h
    clear hd
    go_wp2_with fail
    refine (compareInt_any _ _ _).mono ?_
    rintro e w1 ⟨rfl, rfl⟩
    go_wp2
    go_ret
    exact ⟨ret_int (icmp_isgn h), hX.below⟩
end Go.Proofs.YtebdbfbicbndlaaGreatDoor
