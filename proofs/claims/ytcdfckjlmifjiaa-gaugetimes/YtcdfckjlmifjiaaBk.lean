/-
  What an argument of type []int is, read as data.
-/
import Derived.Test.YtcdfckjlmifjiaaOa
namespace Go.Proofs.Ytcdfckjlmifjiaa
open Go.ChangeShapes Go.WideShapes Go.ChangeAt Go.RowKit Go.Joins
set_option linter.unusedVariables false
set_option linter.unusedSimpArgs false

theorem cellsInt : Try.prog.cellsOf 3 = 1 := by kernel_rfl
set_option maxRecDepth 100000 in
theorem openInts {H : Type} {enc : TypeId × Value → H} {W : World} {base : Nat} {v0 : Value} {d0 : DataW H} {p0 : List MemPlace} (hv : Value.okWide Try.prog W .any base 38 v0)
    (h0 : DataW.Trod enc Try.prog W 0 (fun _ => true) true 38 v0 d0 p0) :
    ∃ (pa : Option Addr) (n nc : Nat) (xs : List Int), v0 = .slice pa n nc ∧ xs.length = n ∧ n ≤ nc ∧ nc ≤ maxLen ∧ Rd W pa .i64 xs ∧ (∀ j, -9223372036854775808 ≤ gx xs j ∧ gx xs j ≤ 9223372036854775807) := by
  obtain ⟨a0, len, cap, rfl⟩ := okWide_slice Try.underlying38 hv
  obtain ⟨fuel, hf⟩ := h0
  rcases open_ints Try.underlying38 Try.underlying3 cellsInt hf with ⟨hcs, -⟩ | ⟨a, len', cap', zs, hcs, -, hl, hm, hz, -, hcell, hwz⟩
  · simp [Value.cells] at hcs
    obtain ⟨rfl, rfl, rfl⟩ := hcs
    exact ⟨none, 0, 0, [], rfl, rfl, Nat.le_refl _, Nat.zero_le _, Rd.nil, fun j => by simp [gx]⟩
  · simp [Value.cells] at hcs
    obtain ⟨rfl, rfl, rfl⟩ := hcs
    simp only [if_true] at hz
    refine ⟨some a, len, cap, zs.take len, rfl, by simp; omega, hl, hm, ?_, fun j => ?_⟩
    · intro hp
      have hp' : 0 < zs.length := by simp at hp; omega
      obtain ⟨b, off, rfl, hc⟩ := ints_at hcell hp'
      refine ⟨b, off, rfl, fun j hj => ?_⟩
      have hj' : j < len ∧ j < zs.length := by simp at hj; omega
      rw [gx_take _ _ _ hj'.1]
      exact hc j hj'.2
    · rcases Nat.lt_or_ge j len with h | h
      · rw [gx_take _ _ _ h]
        by_cases hj : j < zs.length
        · have := hwz zs[j] (List.getElem_mem hj)
          rw [gx_mem zs j hj]
          simpa [Lit.wf, IntKind.min, IntKind.max, IntKind.signed, IntKind.bits] using this
        · rw [gx_past zs _ (Nat.le_refl _) j (by omega)]; decide
      · rw [gx_past (zs.take len) len (by simp; omega) j h]; decide
end Go.Proofs.Ytcdfckjlmifjiaa
