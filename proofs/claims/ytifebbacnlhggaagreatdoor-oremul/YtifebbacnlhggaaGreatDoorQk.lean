/-
  Proved: for every int64 algebra, every api.Int q and all api.Ops a, b that can be read as data, in whatever memory, the law OreMul of ashlarlaw8 returns true and leaves its arguments as they read before (the skew product is as the document says in every algebra, and is refused just by the estimate). Its conditions are those of the given card: the package-level variables that the card ties to the program's text.
-/
import Derived.Test.YtifebbacnlhggaaGreatDoorRows
import Derived.Test.YtifebbacnlhggaaGreatDoorTie
import Derived.Test.YtifebbacnlhggaaGreatDoorCards
import Derived.Test.YtifebbacnlhggaaGreatDoorKjDwNfNnQjOcAo
import Derived.Test.YtifebbacnlhggaaGreatDoorCuOaOfJpCwDj
namespace Go.Proofs.YtifebbacnlhggaaGreatDoor.oreMul
open Go.ChangeShapes Go.WideShapes Go.ChangeAt Go.RowKit Go.Joins
set_option linter.unusedVariables false
set_option linter.unusedSimpArgs false
set_option maxHeartbeats 8000000
theorem i64_in {z : Int} (h : (Lit.int IntKind.i64 z).wf = true) : -9223372036854775808 ≤ z ∧ z ≤ 9223372036854775807 := by
  simpa [Lit.wf, IntKind.min, IntKind.max, IntKind.signed, IntKind.bits] using h
set_option maxRecDepth 100000 in
theorem lifted (os : Os) (started : os.Started) (H : Type) (enc : TypeId × Value → H) :
    ReturnsInHanded {} Tryz.checked os 4 .any (fun w args => (Rows.oreMulSpec.pre enc Tryz.prog Tryz.f4 [] false w args ∧ laidMetH Tryz.prog Rows.oreMulRow.laid w) ∧ sizedMet enc Tryz.prog Tryz.f4 (OpenSpec.ofChange Rows.oreMulSpec) false w args)
      (Rows.oreMulSpec.post enc Tryz.prog Tryz.f4 false true false false) := by
  refine returnsInHanded_of_change_and (C := Tryz.checked) (X := fun w _ => laidMetH Tryz.prog Rows.oreMulRow.laid w) (fun _ _ _ hh h => h.of_heap hh) own started (by kernel_rfl) Tryz.func4
    (ChangeSpec.witness_shaped (enc := enc) (C := Tryz.checked) (os := os) (X := fun w _ => laidMetH Tryz.prog Rows.oreMulRow.laid w) false (World.laidAll Tryz.prog os Rows.oreMulRow.laid) #[.int .i64 0, .agg #[.bool false, .slice none 0 0], .slice none 0 0, .slice none 0 0] 8 (World.laidAll_os _ _ _)
      (World.shaped_of_ZipB (by kernel_rfl) (by kernel_rfl)) (by kernel_rfl) (by kernel_rfl) (by kernel_rfl)
      (by rw [MakeChecks.laidMetH_plain _ _ _ (by kernel_rfl)]; exact laidMet_laidAll _ (by kernel_rfl) (by kernel_rfl))) ?_
  intro W base args ds gs before hval0 hW _ _ hL _
  have hval : ∀ (j : Nat) t v, Tryz.f4.params[j]? = some t → args[j]? = some v → Value.okWide Tryz.prog W .any base t v := hval0
  have hW' := hW
  obtain ⟨p, q, hA0, hV, rfl, _, _⟩ := hW
  have hA : DataW.TrodAll enc Tryz.prog W 0 (fun _ => true) true Tryz.f4.params.toList args.toList ds p := hA0
  rw [Tryz.params4] at hA hval
  obtain ⟨v0, v1, v2, v3, d0, d1, d2, d3, p0, p1, p2, p3, rfl, rfl, rfl, h0, h1, h2, h3⟩ := trodAll_four hA
  obtain ⟨rfl, rfl⟩ := trodVars_none hV
  obtain ⟨z, rfl, rfl, rfl, wz⟩ := open_int Tryz.underlying3 (hval 0 3 v0 rfl rfl) h0
  simp only [List.append_nil] at hW'
  have hlt1 : ∀ x ∈ p1, x.block < W.heap.size := fun x hx => hW'.lt x (by simp [hx])
  have hlt2 : ∀ x ∈ p2, x.block < W.heap.size := fun x hx => hW'.lt x (by simp [hx])
  have hlt3 : ∀ x ∈ p3, x.block < W.heap.size := fun x hx => hW'.lt x (by simp [hx])
  obtain ⟨sb, pb, nb, nbc, xb, rfl, hlb, hncb, hbb, hXb, hUb, hpb⟩ := openInt (hval 1 24 v1 rfl rfl) h1
  obtain ⟨oa, on, onc, ohs, rfl, hO⟩ := openOp (hval 2 52 v2 rfl rfl) h2
  obtain ⟨oa2, on2, onc2, ohs2, rfl, hP⟩ := openOp (hval 3 52 v3 rfl rfl) h3
  refine (OreMul_walk (al := z) (e := ⟨sb, pb, nb, nbc⟩) ⟨xb, hlb, hncb, hbb, hXb, hUb, hpb⟩ hO hP (i64_in wz)).mono fun e W' ⟨he, hb⟩ => ?_
  subst he
  have t1 := Below.trod laidOut (by kernel_rfl) (of_decide_eq_true (by kernel_rfl)) h1 hb hlt1
  have t2 := Below.trod laidOut (by kernel_rfl) (of_decide_eq_true (by kernel_rfl)) h2 hb hlt2
  have t3 := Below.trod laidOut (by kernel_rfl) (of_decide_eq_true (by kernel_rfl)) h3 hb hlt3
  refine ⟨_, rfl, _, _, _, [], _, [], hW', trodAll_mk1 (shut_bool Tryz.underlying4 _), trodAll_mk4 (shut_int Tryz.underlying3 wz) t1 t2 t3, rfl, hb.frame _, fun h => by cases h⟩
theorem said : Rows.OreMulSaid :=
  OpenClaim.holds_of_wide 4 Tryz.f4 rfl rfl rfl rfl rfl rfl rfl ⟨rfl, rfl, rfl, rfl, rfl⟩ rfl rfl rfl rfl rfl (by kernel_rfl) Tryz.func4 (by kernel_rfl)
    (of_decide_eq_true (by kernel_rfl)) (by unfold Func.isWrapper; first | (rw [if_pos (by decide +kernel)]; kernel_rfl) | (rw [if_neg (by decide +kernel)]; exact ⟨rfl, rfl⟩))
    (fun os started H enc _ => lifted os started H enc)
theorem plain (f : FuncId) (fn : Func) (hf : Tryz.pinned.checked.prog.funcNamed Rows.oreMulRow.func = some f) (hfn : Tryz.pinned.checked.prog.funcs[f]? = some fn) :
    false = Tryz.pinned.checked.prog.looks [] ∧ ∀ (j : Nat) t, fn.params[j]? = some t → Tryz.pinned.checked.prog.wantsStandIn t = false := by
  obtain rfl : f = 4 := Option.some.inj ((show Tryz.prog.funcNamed Rows.oreMulRow.func = some 4 by kernel_rfl).symm.trans hf) |>.symm
  obtain rfl : fn = Tryz.f4 := (Option.some.inj (Tryz.func4.symm.trans hfn)).symm
  refine ⟨by kernel_rfl, fun j t ht => ?_⟩
  rw [Tryz.params4] at ht
  have hm : t ∈ [3, 24, 52, 52] := by simpa using Array.mem_of_getElem? ht
  have hall : ([3, 24, 52, 52].all fun u => !Tryz.prog.wantsStandIn u) = true := by kernel_rfl
  exact (show Tryz.prog.wantsStandIn t = false by simpa using List.all_eq_true.1 hall t (by simpa using hm))
end Go.Proofs.YtifebbacnlhggaaGreatDoor.oreMul
namespace Go.Proofs.YtifebbacnlhggaaGreatDoor
theorem oreMul_card : Rows.OreMulCardSaid :=
  Claim7.holds_tied_plain_at .later [] _ _ _ _ oreMul.said (fun _ h => by cases h) (by kernel_rfl) (fun _ h => by cases h) oreMul_row_tie rfl ⟨rfl, rfl⟩ (by kernel_rfl) rfl oreMul.plain (by kernel_rfl)
#print axioms oreMul_card
end Go.Proofs.YtifebbacnlhggaaGreatDoor
