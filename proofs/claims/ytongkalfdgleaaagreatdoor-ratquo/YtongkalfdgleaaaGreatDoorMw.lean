/-
  Proved: for all api.Rats a and b that can be read as data, and all int64s n and m, in whatever memory, the law RatQuo of ashlarlaw2 returns true and leaves its arguments as they read before (quotients are right, and 0 divides nothing). Its conditions are those of the given card: the package-level variables that the card ties to the program's text.
-/
import Derived.Test.YtongkalfdgleaaaGreatDoorRows
import Derived.Test.YtongkalfdgleaaaGreatDoorTie
import Derived.Test.YtongkalfdgleaaaGreatDoorCards
import Derived.Carry
import Derived.Test.YtongkalfdgleaaaGreatDoorZq
import Derived.Test.YtongkalfdgleaaaGreatDoorOcOd
namespace Go.Proofs.YtongkalfdgleaaaGreatDoor.ratQuo
open Go.ChangeShapes Go.WideShapes Go.ChangeAt Go.RowKit Go.Joins
set_option linter.unusedVariables false
set_option linter.unusedSimpArgs false

set_option maxRecDepth 100000 in
theorem lifted (os : Os) (started : os.Started) (H : Type) (enc : TypeId × Value → H) :
    ReturnsInHanded {} Tryz.checked os 4 .any (fun w args => (Rows.ratQuoSpec.pre enc Tryz.prog Tryz.f4 [] false w args ∧ laidMetH Tryz.prog Rows.ratQuoRow.laid w) ∧ sizedMet enc Tryz.prog Tryz.f4 (OpenSpec.ofChange Rows.ratQuoSpec) false w args)
      (Rows.ratQuoSpec.post enc Tryz.prog Tryz.f4 false true false false) := by
  refine returnsInHanded_of_change_and (C := Tryz.checked) (X := fun w _ => laidMetH Tryz.prog Rows.ratQuoRow.laid w) (fun _ _ _ hh h => h.of_heap hh) own started (by kernel_rfl) Tryz.func4
    (ChangeSpec.witness_shaped (enc := enc) (C := Tryz.checked) (os := os) (X := fun w _ => laidMetH Tryz.prog Rows.ratQuoRow.laid w) false (World.laidAll Tryz.prog os Rows.ratQuoRow.laid) #[.agg #[.bool false, .slice none 0 0, .bool false, .slice none 0 0], .agg #[.bool false, .slice none 0 0, .bool false, .slice none 0 0], .int .i64 0, .int .i64 0] 8 (World.laidAll_os _ _ _)
      (World.shaped_of_ZipB (by kernel_rfl) (by kernel_rfl)) (by kernel_rfl) (by kernel_rfl) (by kernel_rfl)
      (by rw [MakeChecks.laidMetH_plain _ _ _ (by kernel_rfl)]; exact laidMet_laidAll _ (by kernel_rfl) (by kernel_rfl))) ?_
  intro W base args ds gs before hval0 hW _ _ hL _
  have hval : ∀ (j : Nat) t v, Tryz.f4.params[j]? = some t → args[j]? = some v → Value.okWide Tryz.prog W .any base t v := hval0
  have hW' := hW
  obtain ⟨p, q, hA0, hV, rfl, _, _⟩ := hW
  have hA : DataW.TrodAll enc Tryz.prog W 0 (fun _ => true) true Tryz.f4.params.toList args.toList ds p := hA0
  rw [Tryz.params4] at hA hval
  obtain ⟨v0, v1, v2, v3, d0, d1, d2, d3, p0, p1, p2, p3, rfl, rfl, rfl, h0, h1, h2, h3⟩ := trodAll_four hA
  obtain ⟨rfl, rfl⟩ := trodVars_none hV
  obtain ⟨N, rfl, rfl, rfl, wn⟩ := open_int Tryz.underlying2 (hval 2 2 v2 rfl rfl) h2
  obtain ⟨M, rfl, rfl, rfl, wm⟩ := open_int Tryz.underlying2 (hval 3 2 v3 rfl rfl) h3
  have hN : -9223372036854775808 ≤ N ∧ N ≤ 9223372036854775807 := by simpa [Lit.wf, IntKind.min, IntKind.max, IntKind.signed, IntKind.bits] using wn
  have hM : -9223372036854775808 ≤ M ∧ M ≤ 9223372036854775807 := by simpa [Lit.wf, IntKind.min, IntKind.max, IntKind.signed, IntKind.bits] using wm
  simp only [List.append_nil] at hW'
  have hlt0 : ∀ x ∈ p0, x.block < W.heap.size := fun x hx => hW'.lt x (by simp [hx])
  have hlt1 : ∀ x ∈ p1, x.block < W.heap.size := fun x hx => hW'.lt x (by simp [hx])
  obtain ⟨c0, c1, c2, c3, rfl, hRa, hRa'⟩ := openRat (hval 0 26 v0 rfl rfl) h0
  obtain ⟨sa, pa, na, nac, xa, ea, hla, hnca, hba, hXa, hUa, hpa⟩ := hRa
  obtain ⟨ta, qa, ma, mac, ya, ea', hma, hmca, hca, hYa, hVa, hqa⟩ := hRa'
  obtain ⟨e0, e1, e2, e3, rfl, hRb, hRb'⟩ := openRat (hval 1 26 v1 rfl rfl) h1
  obtain ⟨sb, pb, nb, nbc, xb, eb, hlb, hncb, hbb, hXb, hUb, hpb⟩ := hRb
  obtain ⟨tb, qb, mb, mbc, yb, eb', hmb, hmcb, hcb, hYb, hVb, hqb⟩ := hRb'
  simp only [Value.agg.injEq, Array.mk.injEq, List.cons.injEq, and_true] at ea ea' eb eb'
  obtain ⟨rfl, rfl⟩ := ea
  obtain ⟨rfl, rfl⟩ := ea'
  obtain ⟨rfl, rfl⟩ := eb
  obtain ⟨rfl, rfl⟩ := eb'
  refine (RatQuo_walk sa ta sb tb pa qa pb qb na nac ma mac nb nbc mb mbc xa ya xb yb N M hN hM W hla hnca hba hXa hUa hpa hma hmca hca hYa hVa hqa hlb hncb hbb hXb hUb hpb hmb hmcb hcb hYb hVb hqb).mono fun e W' ⟨he, hb⟩ => ?_
  subst he
  have t0 := Below.trod laidOut (by kernel_rfl) (of_decide_eq_true (by kernel_rfl)) h0 hb hlt0
  have t1 := Below.trod laidOut (by kernel_rfl) (of_decide_eq_true (by kernel_rfl)) h1 hb hlt1
  refine ⟨_, rfl, _, _, _, [], _, [], hW', trodAll_mk1 (shut_bool Tryz.underlying4 _), trodAll_mk4 t0 t1 (shut_int Tryz.underlying2 wn) (shut_int Tryz.underlying2 wm), rfl, hb.frame _, fun h => by cases h⟩

theorem said : Rows.RatQuoSaid :=
  OpenClaim.holds_of_wide 4 Tryz.f4 rfl rfl rfl rfl rfl rfl rfl ⟨rfl, rfl, rfl, rfl, rfl⟩ rfl rfl rfl rfl rfl (by kernel_rfl) Tryz.func4 (by kernel_rfl)
    (of_decide_eq_true (by kernel_rfl)) (by unfold Func.isWrapper; first | (rw [if_pos (by decide +kernel)]; kernel_rfl) | (rw [if_neg (by decide +kernel)]; exact ⟨rfl, rfl⟩))
    (fun os started H enc _ => lifted os started H enc)

theorem plain (f : FuncId) (fn : Func) (hf : Tryz.pinned.checked.prog.funcNamed Rows.ratQuoRow.func = some f) (hfn : Tryz.pinned.checked.prog.funcs[f]? = some fn) :
    false = Tryz.pinned.checked.prog.looks [] ∧ ∀ (j : Nat) t, fn.params[j]? = some t → Tryz.pinned.checked.prog.wantsStandIn t = false := by
  obtain rfl : f = 4 := Option.some.inj ((show Tryz.prog.funcNamed Rows.ratQuoRow.func = some 4 by kernel_rfl).symm.trans hf) |>.symm
  obtain rfl : fn = Tryz.f4 := (Option.some.inj (Tryz.func4.symm.trans hfn)).symm
  refine ⟨by kernel_rfl, fun j t ht => ?_⟩
  rw [Tryz.params4] at ht
  have hm : t ∈ [26, 26, 2, 2] := by simpa using Array.mem_of_getElem? ht
  have hall : ([26, 26, 2, 2].all fun u => !Tryz.prog.wantsStandIn u) = true := by kernel_rfl
  exact (show Tryz.prog.wantsStandIn t = false by simpa using List.all_eq_true.1 hall t (by simpa using hm))
end Go.Proofs.YtongkalfdgleaaaGreatDoor.ratQuo

namespace Go.Proofs.YtongkalfdgleaaaGreatDoor
theorem ratQuo_card : Rows.RatQuoCardSaid :=
  Claim7.holds_tied_plain_at .later [] _ _ _ _ ratQuo.said (fun _ h => by cases h) (by kernel_rfl) (fun _ h => by cases h) ratQuo_row_tie rfl ⟨rfl, rfl⟩ (by kernel_rfl) rfl ratQuo.plain (by kernel_rfl)
#print axioms ratQuo_card
end Go.Proofs.YtongkalfdgleaaaGreatDoor
