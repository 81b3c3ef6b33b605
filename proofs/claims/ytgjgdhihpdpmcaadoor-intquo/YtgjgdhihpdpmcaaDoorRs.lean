/-
  ashlarref1.Sign, Cmp.
-/
import Derived.Test.YtgjgdhihpdpmcaaDoorRg
import Derived.Test.YtgjgdhihpdpmcaaDoorCy
namespace Go.Proofs.YtgjgdhihpdpmcaaDoor
open Go.RowKit
set_option linter.unusedVariables false
set_option linter.unusedSimpArgs false

theorem isgn_rval_zero {s : Bool} {xs : List Int} (hU : U16 xs) (h : tlen xs = 0) : isgn (rval s xs) = 0 := by
  have := (tlen_zero_iff16 hU).1 h
  cases s <;> simp [rval, isgn, this]
theorem isgn_rval {s : Bool} {xs : List Int} (hU : U16 xs) (h : tlen xs ≠ 0) : isgn (rval s xs) = if s then -1 else 1 := by
  have h1 : vd xs ≠ 0 := fun e => h ((tlen_zero_iff16 hU).2 e)
  have h2 := vd_nonneg hU
  cases s
  · simp only [rval, isgn, Bool.false_eq_true, if_false]; rw [if_neg h1, if_neg (by omega)]
  · simp only [rval, isgn, if_true]; rw [if_neg (by omega), if_pos (by omega)]

set_option maxHeartbeats 400000 in
/-- ashlarref1.Sign. -/
theorem rSign_any (s : Bool) (p : Option Addr) (n nc : Nat) (xs : List Int) (w : World) (hU : U16 xs) (tx : tlen xs = n) :
    Calls Tryd.prog 24 #[.agg #[.bool s, .slice p n nc]] w fun e w' => e = .returned (.int .i64 (isgn (rval s xs))) ∧ Below w.heap.size w w' := by
  by_cases h0 : tlen xs = 0
  · rw [isgn_rval_zero hU h0]
    obtain rfl : n = 0 := by omega
    clear h0 tx
    go_enter Tryd.func24, Tryd.ntmps24
    go_wp2
    go_ret
    exact ⟨rfl, (Below.refl _ _).alloc (Nat.le_refl _) _⟩
  · rw [isgn_rval hU h0]
    have h1 : ((n : Int) == 0) = false := beq_eq_false_iff_ne.2 (by omega)
    clear tx
    cases s
    all_goals
      go_enter Tryd.func24, Tryd.ntmps24
      go_wp2
      go_ret
      exact ⟨rfl, (Below.refl _ _).alloc (Nat.le_refl _) _⟩

theorem icmp_same16 {s t : Bool} {xs ys : List Int} (hX : U16 xs) (hY : U16 ys) (h : isgn (rval s xs) = isgn (rval t ys)) : isgn (rval s xs) * icmp (vd xs) (vd ys) = icmp (rval s xs) (rval t ys) := by
  have h1 := vd_nonneg hX
  have h2 := vd_nonneg hY
  rcases isgn_cases (rval s xs) with ⟨a1, a2⟩ | ⟨a1, a2⟩ | ⟨a1, a2⟩ <;> rcases isgn_cases (rval t ys) with ⟨b1, b2⟩ | ⟨b1, b2⟩ | ⟨b1, b2⟩ <;> rw [a2, b2] at h <;> (try (exact absurd h (by decide))) <;> rw [a2]
  · rw [a1, b1, icmp_eq, Int.zero_mul]
  · have e1 : s = true := by cases s <;> simp_all [rval] <;> omega
    have e2 : t = true := by cases t <;> simp_all [rval] <;> omega
    subst e1 e2
    simp only [rval, if_true]
    rcases Int.lt_trichotomy (vd xs) (vd ys) with g | g | g
    · rw [icmp_lt g, icmp_gt (by omega)]; rfl
    · rw [g, icmp_eq, icmp_eq]; rfl
    · rw [icmp_gt g, icmp_lt (by omega)]; rfl
  · have e1 : s = false := by cases s <;> simp_all [rval] <;> omega
    have e2 : t = false := by cases t <;> simp_all [rval] <;> omega
    subst e1 e2
    simp only [rval, Bool.false_eq_true, if_false, Int.one_mul]

set_option maxHeartbeats 1000000 in
/-- ashlarref1.Cmp. -/
theorem rCmp_any (s t : Bool) (p q : Option Addr) (n nc m mc : Nat) (xs ys : List Int) (w : World) (hn : xs.length = n) (hm : ys.length = m) (hnb : n ≤ 1000000000) (hmb : m ≤ 1000000000) (tx : tlen xs = n) (ty : tlen ys = m)
    (hX : Rd w p .i64 xs) (hXu : U16 xs) (hY : Rd w q .i64 ys) (hYu : U16 ys) :
    Calls Tryd.prog 22 #[.agg #[.bool s, .slice p n nc], .agg #[.bool t, .slice q m mc]] w fun e w' => e = .returned (.int .i64 (icmp (rval s xs) (rval t ys))) ∧ Below w.heap.size w w' := by
  have hd : Hid (isgn (rval s xs) = isgn (rval t ys) ∨ isgn (rval s xs) ≠ isgn (rval t ys)) := Classical.em _
  have q1 : -1 ≤ isgn (rval s xs) ∧ isgn (rval s xs) ≤ 1 := by rcases isgn_cases (rval s xs) with h | h | h <;> omega
  have q2 : -1 ≤ icmp (vd xs) (vd ys) ∧ icmp (vd xs) (vd ys) ≤ 1 := by unfold icmp; split <;> (try split) <;> decide
  obtain ⟨q1, q1'⟩ := q1
  obtain ⟨q2, q2'⟩ := q2
  have HT : Hid (xs.length = n ∧ ys.length = m ∧ tlen xs = n ∧ tlen ys = m) := ⟨hn, hm, tx, ty⟩
  clear hn hm tx ty
  go_enter Tryd.func22, Tryd.ntmps22
  go_wp2_with fail
  have hX0 := boxes2 w (.bool s) (.slice p n nc) (.bool t) (.slice q m mc) 29 29
  generalize ((w.alloc (Obj.cells #[Value.bool s, Value.slice p n nc] 29)).alloc (Obj.cells #[Value.bool t, Value.slice q m mc] 29)) = W0 at *
  refine (rSign_any s p n nc xs _ hXu HT.out.2.2.1).mono ?_
  rintro e W1 ⟨rfl, hb0⟩
  have hX1 := hX0.later hb0
  clear hX0 hb0 W0
  have k0 := hX1.ca0
  have k1 := hX1.ca1
  have k2 := hX1.cb0
  have k3 := hX1.cb1
  go_wp2_with fail
  refine (rSign_any t q m mc ys _ hYu HT.out.2.2.2).mono ?_
  rintro e W ⟨rfl, hb0⟩
  have hX2 := hX1.later hb0
  clear hX1 hb0 k0 k1 k2 k3 W1
  have k0 := hX2.ca0
  have k1 := hX2.ca1
  have k2 := hX2.cb0
  have k3 := hX2.cb1
  rcases hd.out with h | h
  · have hne : (isgn (rval s xs) != isgn (rval t ys)) = false := by rw [h]; simp
    have H : Hid (isgn (rval s xs) = isgn (rval t ys)) := h
    clear h hd
    go_wp2_with fail
    obtain ⟨t1, t2, t3, t4⟩ := HT.out
    refine (rcmp_any p q n nc m mc xs ys _ t1 t2 hnb hmb t3 t4 (hX.below hX2.below) hXu (hY.below hX2.below) hYu).mono ?_
    rintro e w1 ⟨rfl, hb1⟩
    have hw : wrap64 (isgn (rval s xs) * icmp (vd xs) (vd ys)) = icmp (rval s xs) (rval t ys) := by
      rw [icmp_same16 hXu hYu H.out]
      unfold icmp; split <;> (try split) <;> simp [wrap64, IntKind.wrap, IntKind.bits, IntKind.signed]
    clear t1 t2 t3 t4
    go_wp2
    go_ret
    refine ⟨?_, hX2.below.trans (hb1.mono hX2.below.size)⟩
    first
      | exact ret_int hw
      | exact ret_int (icmp_same16 hXu hYu H.out)
      | rfl
  · have hne : (isgn (rval s xs) != isgn (rval t ys)) = true := by rw [bne_iff_ne]; exact h
    clear hd
    rcases Int.lt_or_lt_of_ne h with h1 | h1
    · have hi := icmp_lt h1
      rw [icmp_isgn h] at hi
      have HI : Hid (icmp (rval s xs) (rval t ys) = -1) := hi
      clear hi h
      go_wp2
      go_ret
      exact ⟨ret_int HI.out.symm, hX2.below⟩
    · have hi := icmp_gt h1
      rw [icmp_isgn h] at hi
      have HI : Hid (icmp (rval s xs) (rval t ys) = 1) := hi
      have h2 : ¬ isgn (rval s xs) < isgn (rval t ys) := by omega
      clear hi h
      go_wp2
      go_ret
      exact ⟨ret_int HI.out.symm, hX2.below⟩
/-- ashlarref1.Cmp of two that are known. -/
theorem rCmp_rn {w : World} {s t : Bool} {p q : Option Addr} {n m : Nat} {xs ys : List Int} (h : RN w s p n xs) (k : RN w t q m ys) :
    Calls Tryd.prog 22 #[.agg #[.bool s, .slice p n n], .agg #[.bool t, .slice q m m]] w fun e w' => e = .returned (.int .i64 (icmp (rval s xs) (rval t ys))) ∧ Below w.heap.size w w' :=
  rCmp_any s t p q n n m m xs ys w h.len k.len h.sml k.sml h.nrm k.nrm h.rd h.u k.rd k.u
end Go.Proofs.YtgjgdhihpdpmcaaDoor
