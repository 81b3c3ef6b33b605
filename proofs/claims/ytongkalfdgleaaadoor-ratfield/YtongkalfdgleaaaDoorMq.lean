/-
  Proved: for all api.Rats a, b and c that can be read as data, in whatever memory, the law RatField of ashlarlaw2 returns true and leaves its arguments as they read before (products go over sums; a quotient times its divisor is what was divided). Its conditions are those of the given card: the package-level variables that the card ties to the program's text.
-/
import Derived.Test.YtongkalfdgleaaaDoorRows
import Derived.Test.YtongkalfdgleaaaDoorTie
import Derived.Test.YtongkalfdgleaaaDoorCards
import Derived.Test.YtongkalfdgleaaaDoorZm
import Derived.Test.YtongkalfdgleaaaDoorOcOd
namespace Go.Proofs.YtongkalfdgleaaaDoor.ratField
open Go.ChangeShapes Go.WideShapes Go.ChangeAt Go.RowKit Go.Joins
set_option linter.unusedVariables false
set_option linter.unusedSimpArgs false

set_option maxRecDepth 100000 in
theorem lifted (os : Os) (started : os.Started) (H : Type) (enc : TypeId × Value → H) :
    ReturnsInHanded {} Tryd.checked os 3 .any (fun w args => (Rows.ratFieldSpec.pre enc Tryd.prog Tryd.f3 [] false w args ∧ laidMetH Tryd.prog Rows.ratFieldRow.laid w) ∧ sizedMet enc Tryd.prog Tryd.f3 (OpenSpec.ofChange Rows.ratFieldSpec) false w args)
      (Rows.ratFieldSpec.post enc Tryd.prog Tryd.f3 false true false false) := by
  refine returnsInHanded_of_change_and (C := Tryd.checked) (X := fun w _ => laidMetH Tryd.prog Rows.ratFieldRow.laid w) (fun _ _ _ hh h => h.of_heap hh) own started (by kernel_rfl) Tryd.func3
    (ChangeSpec.witness_shaped (enc := enc) (C := Tryd.checked) (os := os) (X := fun w _ => laidMetH Tryd.prog Rows.ratFieldRow.laid w) false (World.laidAll Tryd.prog os Rows.ratFieldRow.laid) #[.agg #[.bool false, .slice none 0 0, .bool false, .slice none 0 0], .agg #[.bool false, .slice none 0 0, .bool false, .slice none 0 0], .agg #[.bool false, .slice none 0 0, .bool false, .slice none 0 0]] 8 (World.laidAll_os _ _ _)
      (World.shaped_of_ZipB (by kernel_rfl) (by kernel_rfl)) (by kernel_rfl) (by kernel_rfl) (by kernel_rfl)
      (by rw [MakeChecks.laidMetH_plain _ _ _ (by kernel_rfl)]; exact laidMet_laidAll _ (by kernel_rfl) (by kernel_rfl))) ?_
  intro W base args ds gs before hval0 hW _ _ hL _
  have hval : ∀ (j : Nat) t v, Tryd.f3.params[j]? = some t → args[j]? = some v → Value.okWide Tryd.prog W .any base t v := hval0
  have hW' := hW
  obtain ⟨p, q, hA0, hV, rfl, _, _⟩ := hW
  have hA : DataW.TrodAll enc Tryd.prog W 0 (fun _ => true) true Tryd.f3.params.toList args.toList ds p := hA0
  rw [Tryd.params3] at hA hval
  obtain ⟨v0, v1, v2, d0, d1, d2, p0, p1, p2, rfl, rfl, rfl, h0, h1, h2⟩ := trodAll_three hA
  obtain ⟨rfl, rfl⟩ := trodVars_none hV
  simp only [List.append_nil] at hW'
  have hlt0 : ∀ x ∈ p0, x.block < W.heap.size := fun x hx => hW'.lt x (by simp [hx])
  have hlt1 : ∀ x ∈ p1, x.block < W.heap.size := fun x hx => hW'.lt x (by simp [hx])
  have hlt2 : ∀ x ∈ p2, x.block < W.heap.size := fun x hx => hW'.lt x (by simp [hx])
  obtain ⟨c0, c1, c2, c3, rfl, hRa, hRa'⟩ := openRat (hval 0 26 v0 rfl rfl) h0
  obtain ⟨sa, pa, na, nac, xa, ea, hla, hnca, hba, hXa, hUa, hpa⟩ := hRa
  obtain ⟨ta, qa, ma, mac, ya, ea', hma, hmca, hca, hYa, hVa, hqa⟩ := hRa'
  obtain ⟨e0, e1, e2, e3, rfl, hRb, hRb'⟩ := openRat (hval 1 26 v1 rfl rfl) h1
  obtain ⟨sb, pb, nb, nbc, xb, eb, hlb, hncb, hbb, hXb, hUb, hpb⟩ := hRb
  obtain ⟨tb, qb, mb, mbc, yb, eb', hmb, hmcb, hcb, hYb, hVb, hqb⟩ := hRb'
  obtain ⟨g0, g1, g2, g3, rfl, hRc, hRc'⟩ := openRat (hval 2 26 v2 rfl rfl) h2
  obtain ⟨sc, pc, nc, ncc, xc, ec, hlc, hncc, hbc, hXc, hUc, hpc⟩ := hRc
  obtain ⟨tc, qc, mc, mcc, yc, ec', hmc, hmcc, hcc, hYc, hVc, hqc⟩ := hRc'
  simp only [Value.agg.injEq, Array.mk.injEq, List.cons.injEq, and_true] at ea ea' eb eb' ec ec'
  obtain ⟨rfl, rfl⟩ := ea
  obtain ⟨rfl, rfl⟩ := ea'
  obtain ⟨rfl, rfl⟩ := eb
  obtain ⟨rfl, rfl⟩ := eb'
  obtain ⟨rfl, rfl⟩ := ec
  obtain ⟨rfl, rfl⟩ := ec'
  refine (RatField_walk sa ta sb tb sc tc pa qa pb qb pc qc na nac ma mac nb nbc mb mbc nc ncc mc mcc xa ya xb yb xc yc W hla hnca hba hXa hUa hpa hma hmca hca hYa hVa hqa hlb hncb hbb hXb hUb hpb hmb hmcb hcb hYb hVb hqb hlc hncc hbc hXc hUc hpc hmc hmcc hcc hYc hVc hqc).mono fun e W' ⟨he, hb⟩ => ?_
  subst he
  have t0 := Below.trod laidOut (by kernel_rfl) (of_decide_eq_true (by kernel_rfl)) h0 hb hlt0
  have t1 := Below.trod laidOut (by kernel_rfl) (of_decide_eq_true (by kernel_rfl)) h1 hb hlt1
  have t2 := Below.trod laidOut (by kernel_rfl) (of_decide_eq_true (by kernel_rfl)) h2 hb hlt2
  refine ⟨_, rfl, _, _, _, [], _, [], hW', trodAll_mk1 (shut_bool Tryd.underlying4 _), trodAll_mk3 t0 t1 t2, rfl, hb.frame _, fun h => by cases h⟩

theorem said : Rows.RatFieldSaid :=
  OpenClaim.holds_of_wide 3 Tryd.f3 rfl rfl rfl rfl rfl rfl rfl ⟨rfl, rfl, rfl, rfl, rfl⟩ rfl rfl rfl rfl rfl (by kernel_rfl) Tryd.func3 (by kernel_rfl)
    (of_decide_eq_true (by kernel_rfl)) (by unfold Func.isWrapper; first | (rw [if_pos (by decide +kernel)]; kernel_rfl) | (rw [if_neg (by decide +kernel)]; exact ⟨rfl, rfl⟩))
    (fun os started H enc _ => lifted os started H enc)

theorem plain (f : FuncId) (fn : Func) (hf : Tryd.pinned.checked.prog.funcNamed Rows.ratFieldRow.func = some f) (hfn : Tryd.pinned.checked.prog.funcs[f]? = some fn) :
    false = Tryd.pinned.checked.prog.looks [] ∧ ∀ (j : Nat) t, fn.params[j]? = some t → Tryd.pinned.checked.prog.wantsStandIn t = false := by
  obtain rfl : f = 3 := Option.some.inj ((show Tryd.prog.funcNamed Rows.ratFieldRow.func = some 3 by kernel_rfl).symm.trans hf) |>.symm
  obtain rfl : fn = Tryd.f3 := (Option.some.inj (Tryd.func3.symm.trans hfn)).symm
  refine ⟨by kernel_rfl, fun j t ht => ?_⟩
  rw [Tryd.params3] at ht
  have hm : t ∈ [26, 26, 26] := by simpa using Array.mem_of_getElem? ht
  have hall : ([26, 26, 26].all fun u => !Tryd.prog.wantsStandIn u) = true := by kernel_rfl
  exact (show Tryd.prog.wantsStandIn t = false by simpa using List.all_eq_true.1 hall t (by simpa using hm))
end Go.Proofs.YtongkalfdgleaaaDoor.ratField

namespace Go.Proofs.YtongkalfdgleaaaDoor
theorem ratField_card : Rows.RatFieldCardSaid :=
  Claim7.holds_tied_plain_at .later [] _ _ _ _ ratField.said (fun _ h => by cases h) (by kernel_rfl) (fun _ h => by cases h) ratField_row_tie rfl ⟨rfl, rfl⟩ (by kernel_rfl) rfl ratField.plain (by kernel_rfl)
#print axioms ratField_card
end Go.Proofs.YtongkalfdgleaaaDoor
