/-
  ashlarref1.Abs.
-/
import Derived.Test.YtgjgdhihpdpmcaaDoorCy
namespace Go.Proofs.YtgjgdhihpdpmcaaDoor
open Go.RowKit
set_option linter.unusedVariables false
set_option linter.unusedSimpArgs false

set_option maxHeartbeats 1000000 in
/-- ashlarref1.Abs. -/
theorem rAbs_rn {w : World} {s : Bool} {p : Option Addr} {n : Nat} {xs : List Int} (h : RN w s p n xs) :
    Calls Tryd.prog 28 #[.agg #[.bool s, .slice p n n]] w fun e w' => e = .returned (.agg #[.bool false, .slice p n n]) ∧ RN w' false p n xs ∧ Below w.heap.size w w' := by
  have HL : Hid (0 < n → ∀ x, p = some x → x.block < w.heap.size) := h.lt
  go_enter Tryd.func28, Tryd.ntmps28
  go_wp2
  refine bodyPost_ret (v := .agg #[.bool false, .slice p n n]) (by simp [results, Tryd.results28, go_sem]) rfl ?_
  have hbw : Below w.heap.size w ((w.alloc (.cells #[.bool s, .slice p n n] 29)).alloc (.cells #[.bool false, .slice none 0 0] 29)) := ((Below.refl _ _).alloc (Nat.le_refl _) _).alloc (by simp) _
  have hR : RN ((w.alloc (.cells #[.bool s, .slice p n n] 29)).alloc (.cells #[.bool false, .slice p n n] 29)) false p n xs := by
    have h2 := (h.alloc (.cells #[.bool s, .slice p n n] 29)).alloc (.cells #[.bool false, .slice p n n] 29)
    exact ⟨h2.len, h2.rd, h2.u, h2.nrm, fun _ => rfl, h2.sml⟩
  have hbw2 : Below w.heap.size w ((w.alloc (.cells #[.bool s, .slice p n n] 29)).alloc (.cells #[.bool false, .slice p n n] 29)) := ((Below.refl _ _).alloc (Nat.le_refl _) _).alloc (by simp) _
  exact ⟨rfl, hR, hbw2⟩
end Go.Proofs.YtgjgdhihpdpmcaaDoor
