/-
  Proved: for every api.Rat a and every string s that can be read as data, in whatever memory, the law RatText of ashlarlaw2 returns true and leaves its arguments as they read before (text of rationals goes there and back; any other text is refused). Its conditions are those of the given card: the package-level variables that the card ties to the program's text.
-/
import Derived.Test.YtongkalfdgleaaaGreatDoorRows
import Derived.Test.YtongkalfdgleaaaGreatDoorTie
import Derived.Test.YtongkalfdgleaaaGreatDoorCards
import Derived.Test.YtongkalfdgleaaaGreatDoorZrOcOd
import Derived.ChangeMaps5
namespace Go.Proofs.YtongkalfdgleaaaGreatDoor.ratText
open Go.ChangeShapes Go.WideShapes Go.ChangeAt Go.RowKit Go.Joins
set_option linter.unusedVariables false
set_option linter.unusedSimpArgs false

set_option maxRecDepth 100000 in
theorem lifted (os : Os) (started : os.Started) (H : Type) (enc : TypeId × Value → H) :
    ReturnsInHanded {} Tryz.checked os 5 .any (fun w args => (Rows.ratTextSpec.pre enc Tryz.prog Tryz.f5 [] false w args ∧ laidMetH Tryz.prog Rows.ratTextRow.laid w) ∧ sizedMet enc Tryz.prog Tryz.f5 (OpenSpec.ofChange Rows.ratTextSpec) false w args)
      (Rows.ratTextSpec.post enc Tryz.prog Tryz.f5 false true false false) := by
  refine returnsInHanded_of_change_and (C := Tryz.checked) (X := fun w _ => laidMetH Tryz.prog Rows.ratTextRow.laid w) (fun _ _ _ hh h => h.of_heap hh) own started (by kernel_rfl) Tryz.func5
    (ChangeSpec.witness_shaped (enc := enc) (C := Tryz.checked) (os := os) (X := fun w _ => laidMetH Tryz.prog Rows.ratTextRow.laid w) false (World.laidAll Tryz.prog os Rows.ratTextRow.laid) #[.agg #[.bool false, .slice none 0 0, .bool false, .slice none 0 0], .string ⟨#[]⟩] 8 (World.laidAll_os _ _ _)
      (World.shaped_of_ZipB (by kernel_rfl) (by kernel_rfl)) (by kernel_rfl) (by kernel_rfl) (by kernel_rfl)
      (by rw [MakeChecks.laidMetH_plain _ _ _ (by kernel_rfl)]; exact laidMet_laidAll _ (by kernel_rfl) (by kernel_rfl))) ?_
  intro W base args ds gs before hval0 hW _ _ hL _
  have hval : ∀ (j : Nat) t v, Tryz.f5.params[j]? = some t → args[j]? = some v → Value.okWide Tryz.prog W .any base t v := hval0
  have hW' := hW
  obtain ⟨p, q, hA0, hV, rfl, _, _⟩ := hW
  have hA : DataW.TrodAll enc Tryz.prog W 0 (fun _ => true) true Tryz.f5.params.toList args.toList ds p := hA0
  rw [Tryz.params5] at hA hval
  obtain ⟨v0, v1, d0, d1, p0, p1, rfl, rfl, rfl, h0, h1⟩ := trodAll_two hA
  obtain ⟨rfl, rfl⟩ := trodVars_none hV
  obtain ⟨bs, rfl, rfl, rfl, hbs⟩ := Go.ChangeMaps.open_string Tryz.underlying9 (hval 1 9 v1 rfl rfl) h1
  simp only [List.append_nil] at hW'
  have hlt0 : ∀ x ∈ p0, x.block < W.heap.size := fun x hx => hW'.lt x (by simp [hx])
  obtain ⟨c0, c1, c2, c3, rfl, hRa, hRa'⟩ := openRat (hval 0 26 v0 rfl rfl) h0
  obtain ⟨sa, pa, na, nac, xa, ea, hla, hnca, hba, hXa, hUa, hpa⟩ := hRa
  obtain ⟨ta, qa, ma, mac, ya, ea', hma, hmca, hca, hYa, hVa, hqa⟩ := hRa'
  simp only [Value.agg.injEq, Array.mk.injEq, List.cons.injEq, and_true] at ea ea'
  obtain ⟨rfl, rfl⟩ := ea
  obtain ⟨rfl, rfl⟩ := ea'
  have hwk := RatText_walk sa ta pa qa na nac ma mac xa ya bs.data.toList W hla hnca hba hXa hUa hpa hma hmca hca hYa hVa hqa (by rw [Array.length_toList]; exact hbs)
  rw [show (⟨bs.data.toList.toArray⟩ : ByteArray) = bs from by rw [Array.toArray_toList]] at hwk
  refine hwk.mono fun e W' ⟨he, hb⟩ => ?_
  subst he
  have t0 := Below.trod laidOut (by kernel_rfl) (of_decide_eq_true (by kernel_rfl)) h0 hb hlt0
  refine ⟨_, rfl, _, _, _, [], _, [], hW', trodAll_mk1 (shut_bool Tryz.underlying4 _), trodAll_mk2 t0 (Go.ChangeMaps.shut_string Tryz.underlying9 hbs), ?_, hb.frame _, fun h => by cases h⟩
  rfl

theorem said : Rows.RatTextSaid :=
  OpenClaim.holds_of_wide 5 Tryz.f5 rfl rfl rfl rfl rfl rfl rfl ⟨rfl, rfl, rfl, rfl, rfl⟩ rfl rfl rfl rfl rfl (by kernel_rfl) Tryz.func5 (by kernel_rfl)
    (of_decide_eq_true (by kernel_rfl)) (by unfold Func.isWrapper; first | (rw [if_pos (by decide +kernel)]; kernel_rfl) | (rw [if_neg (by decide +kernel)]; exact ⟨rfl, rfl⟩))
    (fun os started H enc _ => lifted os started H enc)

theorem plain (f : FuncId) (fn : Func) (hf : Tryz.pinned.checked.prog.funcNamed Rows.ratTextRow.func = some f) (hfn : Tryz.pinned.checked.prog.funcs[f]? = some fn) :
    false = Tryz.pinned.checked.prog.looks [] ∧ ∀ (j : Nat) t, fn.params[j]? = some t → Tryz.pinned.checked.prog.wantsStandIn t = false := by
  obtain rfl : f = 5 := Option.some.inj ((show Tryz.prog.funcNamed Rows.ratTextRow.func = some 5 by kernel_rfl).symm.trans hf) |>.symm
  obtain rfl : fn = Tryz.f5 := (Option.some.inj (Tryz.func5.symm.trans hfn)).symm
  refine ⟨by kernel_rfl, fun j t ht => ?_⟩
  rw [Tryz.params5] at ht
  have hm : t ∈ [26, 9] := by simpa using Array.mem_of_getElem? ht
  have hall : ([26, 9].all fun u => !Tryz.prog.wantsStandIn u) = true := by kernel_rfl
  exact (show Tryz.prog.wantsStandIn t = false by simpa using List.all_eq_true.1 hall t (by simpa using hm))
end Go.Proofs.YtongkalfdgleaaaGreatDoor.ratText

namespace Go.Proofs.YtongkalfdgleaaaGreatDoor
theorem ratText_card : Rows.RatTextCardSaid :=
  Claim7.holds_tied_plain_at .later [] _ _ _ _ ratText.said (fun _ h => by cases h) (by kernel_rfl) (fun _ h => by cases h) ratText_row_tie rfl ⟨rfl, rfl⟩ (by kernel_rfl) rfl ratText.plain (by kernel_rfl)
#print axioms ratText_card
end Go.Proofs.YtongkalfdgleaaaGreatDoor
