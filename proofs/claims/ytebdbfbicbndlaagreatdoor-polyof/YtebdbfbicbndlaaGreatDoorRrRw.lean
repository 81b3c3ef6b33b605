/-
  Reference numbers with their values and a bound of their size.
-/
import Derived.Test.YtebdbfbicbndlaaGreatDoorRhCq
import Derived.Test.YtebdbfbicbndlaaGreatDoorWh
namespace Go.Proofs.YtebdbfbicbndlaaGreatDoor
open Go.RowKit
set_option linter.unusedVariables false
set_option linter.unusedSimpArgs false

/-- A reference number of the value z, of at most N digits. -/
def RV (w : World) (N : Nat) (z : Int) (s : Bool) (p : Option Addr) (n : Nat) : Prop := ∃ ds, RN w s p n ds ∧ rval s ds = z ∧ n ≤ N
def RVP (N : Nat) (z : Int) (w : World) (e : Ending) (w' : World) : Prop :=
  ∃ s p n, e = .returned (.agg #[.bool s, .slice p n n]) ∧ RV w' N z s p n ∧ Go.Proofs.YtebdbfbicbndlaaGreatDoor.From w.heap.size p ∧ Below w.heap.size w w'
section
variable {w w' : World} {N M K : Nat} {z x y : Int} {s t : Bool} {p q : Option Addr} {n m : Nat}
theorem RV.below (h : RV w N z s p n) (hb : Below w.heap.size w w') : RV w' N z s p n := by
  obtain ⟨ds, h1, h2⟩ := h
  exact ⟨ds, h1.below hb, h2⟩
theorem RV.drew (h : RV w N z s p n) : RV w.drew N z s p n := by
  obtain ⟨ds, h1, h2⟩ := h
  exact ⟨ds, h1.drew, h2⟩
theorem RV.alloc (h : RV w N z s p n) (o : Obj) : RV (w.alloc o) N z s p n := by
  obtain ⟨ds, h1, h2⟩ := h
  exact ⟨ds, h1.alloc o, h2⟩
theorem RV.off (h : RV w N z s p n) {g : Nat} (hg : w.heap.size ≤ g) : 0 < n → Off g p := by
  obtain ⟨ds, h1, h2⟩ := h
  exact fun hn => h1.rd.off hg (by rw [h1.len]; exact hn)
theorem RV.le (h : RV w N z s p n) : n ≤ N := by
  obtain ⟨ds, h1, h2, h3⟩ := h
  exact h3
theorem RV.up (h : RV w N z s p n) (hN : N ≤ M) : RV w M z s p n := by
  obtain ⟨ds, h1, h2, h3⟩ := h
  exact ⟨ds, h1, h2, by omega⟩
theorem RV.of (h : RV w N z s p n) (e : z = x) : RV w N x s p n := e ▸ h
theorem RV.bd (h : RV w N z s p n) : (z.natAbs : Int) < pd N := by
  obtain ⟨ds, h1, rfl, h3⟩ := h
  have a := vd_nonneg h1.u
  have b := vd_lt h1.u
  rw [h1.len] at b
  have c := pd_mono h3
  unfold rval
  split <;> omega
theorem RV.tight (h : RV w N z s p n) (hz : (z.natAbs : Int) < pw K) : RV w (2 * K) z s p n := by
  obtain ⟨ds, h1, rfl, h3⟩ := h
  refine ⟨ds, h1, rfl, ?_⟩
  have a := vd_nonneg h1.u
  have e : ((rval s ds).natAbs : Int) = vd ds := by unfold rval; split <;> omega
  rw [e, ← pd_two] at hz
  rcases Nat.lt_or_ge (2 * K) n with hk | hk
  · have b := vd_pos_of_top h1.u (by rw [h1.nrm]; omega)
    rw [h1.nrm] at b
    have c := pd_mono (show 2 * K ≤ n - 1 by omega)
    omega
  · exact hk
theorem RVP.of {e : Ending} (h : RAns N z w e w') : RVP N z w e w' := by
  obtain ⟨s, p, n, ds, h1, h2, h3, h4, h5, h6⟩ := h
  exact ⟨s, p, n, h1, ⟨ds, h2, h3, h4⟩, h5, h6⟩
end
end Go.Proofs.YtebdbfbicbndlaaGreatDoor
/-
  ashlarref1.Sign.
-/
namespace Go.Proofs.YtebdbfbicbndlaaGreatDoor
open Go.RowKit
set_option linter.unusedVariables false
set_option linter.unusedSimpArgs false

theorem isgn_rval_zero {s : Bool} {xs : List Int} (hU : U16 xs) (h : tlen xs = 0) : isgn (rval s xs) = 0 := by
  have := (tlen_zero_iff16 hU).1 h
  cases s <;> simp [rval, isgn, this]
theorem isgn_rval {s : Bool} {xs : List Int} (hU : U16 xs) (h : tlen xs ≠ 0) : isgn (rval s xs) = if s then -1 else 1 := by
  have h1 : vd xs ≠ 0 := fun e => h ((tlen_zero_iff16 hU).2 e)
  have h2 := vd_nonneg hU
  cases s
  · simp only [rval, isgn, Bool.false_eq_true, if_false]; rw [if_neg h1, if_neg (by omega)]
  · simp only [rval, isgn, if_true]; rw [if_neg (by omega), if_pos (by omega)]

set_option maxHeartbeats 400000 in
/-- ashlarref1.Sign. -/
theorem rSign_any (s : Bool) (p : Option Addr) (n nc : Nat) (xs : List Int) (w : World) (hU : U16 xs) (tx : tlen xs = n) :
    Calls Tryz.prog 43 #[.agg #[.bool s, .slice p n nc]] w fun e w' => e = .returned (.int .i64 (isgn (rval s xs))) ∧ Below w.heap.size w w' := by
  by_cases h0 : tlen xs = 0
  · rw [isgn_rval_zero hU h0]
    obtain rfl : n = 0 := by omega
    clear h0 tx
    go_enter Tryz.func43, Tryz.ntmps43
    go_wp2
    go_ret
    exact ⟨rfl, (Below.refl _ _).alloc (Nat.le_refl _) _⟩
  · rw [isgn_rval hU h0]
    have h1 : ((n : Int) == 0) = false := beq_eq_false_iff_ne.2 (by omega)
    clear tx
    cases s
    all_goals
      go_enter Tryz.func43, Tryz.ntmps43
      go_wp2
      go_ret
      exact ⟨rfl, (Below.refl _ _).alloc (Nat.le_refl _) _⟩

end Go.Proofs.YtebdbfbicbndlaaGreatDoor
