/-
  ashlarref1.Abs.
-/
import Derived.Test.YtinkkfkepjgahaaDoorRhCyCz
import Derived.Test.YtinkkfkepjgahaaDoorTbTcRg
namespace Go.Proofs.YtinkkfkepjgahaaDoor
open Go.RowKit
set_option linter.unusedVariables false
set_option linter.unusedSimpArgs false

set_option maxHeartbeats 1000000 in
/-- ashlarref1.Abs. -/
theorem rAbs_rn {w : World} {s : Bool} {p : Option Addr} {n : Nat} {xs : List Int} (h : RN w s p n xs) :
    Calls Tryd.prog 12 #[.agg #[.bool s, .slice p n n]] w fun e w' => e = .returned (.agg #[.bool false, .slice p n n]) ∧ RN w' false p n xs ∧ Below w.heap.size w w' := by
  have HL : Hid (0 < n → ∀ x, p = some x → x.block < w.heap.size) := h.lt
  go_enter Tryd.func12, Tryd.ntmps12
  go_wp2
  refine bodyPost_ret (v := .agg #[.bool false, .slice p n n]) (by simp [results, Tryd.results12, go_sem]) rfl ?_
  have hbw : Below w.heap.size w ((w.alloc (.cells #[.bool s, .slice p n n] 29)).alloc (.cells #[.bool false, .slice none 0 0] 29)) := ((Below.refl _ _).alloc (Nat.le_refl _) _).alloc (by simp) _
  have hR : RN ((w.alloc (.cells #[.bool s, .slice p n n] 29)).alloc (.cells #[.bool false, .slice p n n] 29)) false p n xs := by
    have h2 := (h.alloc (.cells #[.bool s, .slice p n n] 29)).alloc (.cells #[.bool false, .slice p n n] 29)
    exact ⟨h2.len, h2.rd, h2.u, h2.nrm, fun _ => rfl, h2.sml⟩
  have hbw2 : Below w.heap.size w ((w.alloc (.cells #[.bool s, .slice p n n] 29)).alloc (.cells #[.bool false, .slice p n n] 29)) := ((Below.refl _ _).alloc (Nat.le_refl _) _).alloc (by simp) _
  exact ⟨rfl, hR, hbw2⟩
end Go.Proofs.YtinkkfkepjgahaaDoor
/-
  ashlarref1.Sign.
-/
namespace Go.Proofs.YtinkkfkepjgahaaDoor
open Go.RowKit
set_option linter.unusedVariables false
set_option linter.unusedSimpArgs false

theorem isgn_rval_zero {s : Bool} {xs : List Int} (hU : U16 xs) (h : tlen xs = 0) : isgn (rval s xs) = 0 := by
  have := (tlen_zero_iff16 hU).1 h
  cases s <;> simp [rval, isgn, this]
theorem isgn_rval {s : Bool} {xs : List Int} (hU : U16 xs) (h : tlen xs ≠ 0) : isgn (rval s xs) = if s then -1 else 1 := by
  have h1 : vd xs ≠ 0 := fun e => h ((tlen_zero_iff16 hU).2 e)
  have h2 := vd_nonneg hU
  cases s
  · simp only [rval, isgn, Bool.false_eq_true, if_false]; rw [if_neg h1, if_neg (by omega)]
  · simp only [rval, isgn, if_true]; rw [if_neg (by omega), if_pos (by omega)]

set_option maxHeartbeats 400000 in
/-- ashlarref1.Sign. -/
theorem rSign_any (s : Bool) (p : Option Addr) (n nc : Nat) (xs : List Int) (w : World) (hU : U16 xs) (tx : tlen xs = n) :
    Calls Tryd.prog 26 #[.agg #[.bool s, .slice p n nc]] w fun e w' => e = .returned (.int .i64 (isgn (rval s xs))) ∧ Below w.heap.size w w' := by
  by_cases h0 : tlen xs = 0
  · rw [isgn_rval_zero hU h0]
    obtain rfl : n = 0 := by omega
    clear h0 tx
    go_enter Tryd.func26, Tryd.ntmps26
    go_wp2
    go_ret
    exact ⟨rfl, (Below.refl _ _).alloc (Nat.le_refl _) _⟩
  · rw [isgn_rval hU h0]
    have h1 : ((n : Int) == 0) = false := beq_eq_false_iff_ne.2 (by omega)
    clear tx
    cases s
    all_goals
      go_enter Tryd.func26, Tryd.ntmps26
      go_wp2
      go_ret
      exact ⟨rfl, (Below.refl _ _).alloc (Nat.le_refl _) _⟩

end Go.Proofs.YtinkkfkepjgahaaDoor
