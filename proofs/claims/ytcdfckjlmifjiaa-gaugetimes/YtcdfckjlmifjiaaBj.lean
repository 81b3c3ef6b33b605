/-
  Proved: for every []int that can be read as data, in whatever memory, the law GaugeTimes of ashlarlaw9 returns true and leaves its argument as it read before (products of estimates stop at the top, in any order).
-/
import Derived.Test.YtcdfckjlmifjiaaRows
import Derived.Test.YtcdfckjlmifjiaaBi
import Derived.Test.YtcdfckjlmifjiaaBk
namespace Go.Proofs.Ytcdfckjlmifjiaa.gaugeTimes
open Go.ChangeShapes Go.WideShapes Go.ChangeAt Go.RowKit Go.Joins
set_option linter.unusedVariables false
set_option linter.unusedSimpArgs false

set_option maxRecDepth 100000 in
theorem lifted (os : Os) (started : os.Started) (H : Type) (enc : TypeId × Value → H) :
    ReturnsInHanded {} Try.checked os 4 .any (Rows.gaugeTimesSpec.pre6 enc Try.prog Try.f4 [] false)
      (Rows.gaugeTimesSpec.post enc Try.prog Try.f4 false true false false) := by
  refine returnsInHanded_of_change (C := Try.checked) own started (by kernel_rfl) Try.func4
    (ChangeSpec.witness6 (enc := enc) (C := Try.checked) false ⟨#[], #[.slice none 0 0], []⟩ 8 (by kernel_rfl) (by kernel_rfl) (by kernel_rfl) (by kernel_rfl)) ?_
  intro W base args ds gs before hval0 hW _ _
  have hval : ∀ (j : Nat) t v, Try.f4.params[j]? = some t → args[j]? = some v → Value.okWide Try.prog W .any base t v := hval0
  have hW' := hW
  obtain ⟨p, q, hA0, hV, rfl, _, _⟩ := hW
  have hA : DataW.TrodAll enc Try.prog W 0 (fun _ => true) true Try.f4.params.toList args.toList ds p := hA0
  rw [Try.params4] at hA hval
  obtain ⟨v0, d0, rfl, rfl, h0⟩ := trodAll_one hA
  obtain ⟨rfl, rfl⟩ := trodVars_none hV
  simp only [List.append_nil] at hW'
  have hlt0 : ∀ x ∈ p, x.block < W.heap.size := fun x hx => hW'.lt x (by simp [hx])
  obtain ⟨pa, n, nc, xs, rfl, hl, hc, hm, hX, hx⟩ := openInts (hval 0 38 v0 rfl rfl) h0
  refine (GaugeTimes_walk hl hc hm hX hx).mono fun e W' ⟨he, hb⟩ => ?_
  subst he
  have t0 := Below.trod laidOut (by kernel_rfl) (of_decide_eq_true (by kernel_rfl)) h0 hb hlt0
  refine ⟨_, rfl, _, _, _, [], _, [], hW', trodAll_mk1 (shut_bool Try.underlying4 _), trodAll_mk1 t0, rfl, hb.frame _, fun h => by cases h⟩

theorem said : Rows.GaugeTimesSaid :=
  OpenClaim.holds_of_wide 4 Try.f4 rfl rfl rfl rfl rfl rfl rfl ⟨rfl, rfl, rfl, rfl, rfl⟩ rfl rfl rfl rfl rfl (by kernel_rfl) Try.func4 (by kernel_rfl)
    (of_decide_eq_true (by kernel_rfl)) (by unfold Func.isWrapper; first | (rw [if_pos (by decide +kernel)]; kernel_rfl) | (rw [if_neg (by decide +kernel)]; exact ⟨rfl, rfl⟩))
    (fun os started H enc _ => lifted os started H enc)

end Go.Proofs.Ytcdfckjlmifjiaa.gaugeTimes
namespace Go.Proofs.Ytcdfckjlmifjiaa
theorem gaugeTimes_row : Rows.GaugeTimesSaid := gaugeTimes.said
#print axioms gaugeTimes_row
end Go.Proofs.Ytcdfckjlmifjiaa
