/-
  limbs.Bits.
-/
import Derived.Test.YtongkalfdgleaaaDoorLn
import Derived.Test.YtongkalfdgleaaaDoorNi
namespace Go.Proofs.YtongkalfdgleaaaDoor
open Go.RowKit
set_option linter.unusedVariables false
set_option linter.unusedSimpArgs false

/-- How many bits a size has, by its limbs. -/
def nbits (xs : List Int) : Int := if tlen xs = 0 then 0 else 32 * ((tlen xs : Int) - 1) + (Lib.bitLen (gx xs (tlen xs - 1)).toNat : Int)

theorem bitLenAux_le (f x : Nat) : Lib.bitLenAux f x ≤ f := by
  induction f generalizing x with
  | zero => simp [Lib.bitLenAux]
  | succ f ih => simp only [Lib.bitLenAux]; split <;> (have := ih (x / 2); omega)

set_option maxHeartbeats 1000000 in
/-- limbs.Bits. -/
theorem Bits_any (s : Bool) (p : Option Addr) (n nc : Nat) (xs : List Int) (w : World) (hA : AI w p n nc xs) :
    Calls Tryd.prog 36 #[.agg #[.bool s, .slice p n nc]] w fun e w' => e = .returned (.int .i64 (nbits xs)) ∧ Below w.heap.size w w' := by
  have tx := tlen_le xs
  have lx := hA.len
  have hs := hA.sml
  by_cases h0 : tlen xs = 0
  · rw [nbits, if_pos h0]
    go_enter Tryd.func36, Tryd.ntmps36
    go_wp2_with (go_at_call 43; refine (trim_any p n nc xs _ hA.len hA.cap hA.bnd (hA.rd.alloc _)).mono ?_; rintro e w' ⟨rfl, rfl⟩)
    go_ret
    exact ⟨rfl, (Below.refl _ _).alloc (Nat.le_refl _) _⟩
  · rw [nbits, if_neg h0]
    have h1 : (((tlen xs : Nat) : Int) == 0) = false := beq_eq_false_iff_ne.2 (by omega)
    obtain ⟨j, hj⟩ : ∃ j, tlen xs = j + 1 := ⟨tlen xs - 1, by omega⟩
    obtain ⟨b, off, rfl, hc⟩ := (hA.rd.alloc (.cells #[.bool s, .slice p n nc] 24)) (by omega)
    have hcj := hc j (by omega)
    obtain ⟨b0, b1⟩ := hA.u j
    have hbl : Lib.bitLen (gx xs j).toNat ≤ 64 := by
      exact bitLenAux_le 64 _
    clear hc
    have htr := trim_any (some ⟨b, off, none⟩) n nc xs (w.alloc (.cells #[.bool s, .slice (some ⟨b, off, none⟩) n nc] 24)) hA.len hA.cap hA.bnd (hA.rd.alloc _)
    rw [hj] at htr h1 ⊢
    have HT := htr
    go_enter Tryd.func36, Tryd.ntmps36
    go_wp2_with fail
    refine HT.mono ?_
    rintro e w' ⟨rfl, rfl⟩
    go_wp2_with fail
    refine (Len32_any _ _ b0 (by omega)).mono ?_
    rintro e w' ⟨rfl, rfl⟩
    go_wp2
    go_ret
    refine ⟨ret_int ?_, (Below.refl _ _).alloc (Nat.le_refl _) _⟩
    rw [Nat.add_sub_cancel]
    omega
end Go.Proofs.YtongkalfdgleaaaDoor
