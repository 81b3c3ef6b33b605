/-
  Proved: for every api.Int a and every int64 m that can be read as data, in whatever memory, the law IntMod of ashlarlaw1 returns true and leaves its arguments as they read before (what is left of a number by a small number is right). Its conditions are those of the given card: the two tables of unicode/utf8 that the card ties to the program's text.
-/
import Derived.Test.YtgjgdhihpdpmcaaDoorRows
import Derived.Test.YtgjgdhihpdpmcaaDoorTie
import Derived.Test.YtgjgdhihpdpmcaaDoorCards
import Derived.Test.YtgjgdhihpdpmcaaDoorLa
import Derived.ProofKit
import Derived.OpenShut
import Derived.Lib.SmallJoins
import Derived.Lay
import Derived.LaidOnce
import Derived.SevenTiedAt
namespace Go.Proofs.YtgjgdhihpdpmcaaDoor.intMod
open Go.ChangeShapes Go.WideShapes Go.ChangeAt Go.RowKit Go.Joins
set_option linter.unusedVariables false
set_option linter.unusedSimpArgs false

theorem own : ownKnob Tryd.prog.godebug = none := by kernel_rfl
theorem laidOut : laidOutB Tryd.prog = true := by kernel_rfl
theorem cellsInt : Tryd.prog.cellsOf 24 = 2 := by kernel_rfl
theorem cellsLimb : Tryd.prog.cellsOf 58 = 1 := by kernel_rfl

set_option maxRecDepth 100000 in
theorem lifted (os : Os) (started : os.Started) (H : Type) (enc : TypeId × Value → H) :
    ReturnsInHanded {} Tryd.checked os 8 .any (fun w args => (Rows.intModSpec.pre enc Tryd.prog Tryd.f8 [] false w args ∧ laidMetH Tryd.prog Rows.intModRow.laid w) ∧ sizedMet enc Tryd.prog Tryd.f8 (OpenSpec.ofChange Rows.intModSpec) false w args)
      (Rows.intModSpec.post enc Tryd.prog Tryd.f8 false true false false) := by
  refine returnsInHanded_of_change_and (C := Tryd.checked) (X := fun w _ => laidMetH Tryd.prog Rows.intModRow.laid w) (fun _ _ _ hh h => h.of_heap hh) own started (by kernel_rfl) Tryd.func8
    (ChangeSpec.witness_shaped (enc := enc) (C := Tryd.checked) (os := os) (X := fun w _ => laidMetH Tryd.prog Rows.intModRow.laid w) false (World.laidAll Tryd.prog os Rows.intModRow.laid) #[.agg #[.bool false, .slice none 0 0], .int .i64 0] 8 (World.laidAll_os _ _ _)
      (World.shaped_of_ZipB (by kernel_rfl) (by kernel_rfl)) (by kernel_rfl) (by kernel_rfl) (by kernel_rfl)
      (by rw [MakeChecks.laidMetH_plain _ _ _ (by kernel_rfl)]; exact laidMet_laidAll _ (by kernel_rfl) (by kernel_rfl))) ?_
  intro W base args ds gs before hval0 hW _ _ hL _
  have hval : ∀ (j : Nat) t v, Tryd.f8.params[j]? = some t → args[j]? = some v → Value.okWide Tryd.prog W .any base t v := hval0
  have hW' := hW
  obtain ⟨p, q, hA0, hV, rfl, _, _⟩ := hW
  have hA : DataW.TrodAll enc Tryd.prog W 0 (fun _ => true) true Tryd.f8.params.toList args.toList ds p := hA0
  rw [Tryd.params8] at hA hval
  obtain ⟨v0, v1, d0, d1, p0, p1, rfl, rfl, rfl, h0, h1⟩ := trodAll_two hA
  obtain ⟨rfl, rfl⟩ := trodVars_none hV
  obtain ⟨m, rfl, rfl, rfl, wm⟩ := open_int Tryd.underlying2 (hval 1 2 v1 rfl rfl) h1
  simp only [List.append_nil] at hW'
  have hlt : ∀ x ∈ p0, x.block < W.heap.size := fun x hx => by simpa using hW'.lt x hx
  have hshape : ∃ (s : Bool) (pa : Option Addr) (n nc : Nat) (xs : List Int), v0 = .agg #[.bool s, .slice pa n nc] ∧ xs.length = n ∧ n ≤ nc ∧ nc ≤ maxLen ∧ Rd W pa .u32 xs ∧ U32 xs ∧ (pa = none → nc = 0) := by
    obtain ⟨c0, c1, y0, y1, k, rfl, -, -, hy0, hy1⟩ := open_agg2 Tryd.underlying24 (by kernel_rfl) cellsInt (hval 0 24 v0 rfl rfl) h0
    obtain ⟨s, e0, -⟩ := DataW.trod_bool Tryd.underlying4 hy0
    simp only [List.cons.injEq, and_true] at e0
    subst e0
    rcases open_ints Tryd.underlying22 Tryd.underlying58 cellsLimb hy1 with ⟨hcs, -⟩ | ⟨a, len, cap, zs, hcs, -, hl, hm, hz, -, hcell, hwz⟩
    · simp only [List.cons.injEq, and_true] at hcs
      subst hcs
      exact ⟨s, none, 0, 0, [], rfl, rfl, Nat.le_refl _, Nat.zero_le _, Rd.nil, u32_nil, fun _ => rfl⟩
    · simp only [List.cons.injEq, and_true] at hcs
      subst hcs
      simp only [if_true] at hz
      refine ⟨s, some a, len, cap, zs.take len, rfl, by simp; omega, hl, hm, ?_, ?_, fun h => by cases h⟩
      · intro hp
        have hp' : 0 < zs.length := by simp at hp; omega
        obtain ⟨b, off, rfl, hc⟩ := ints_at hcell hp'
        refine ⟨b, off, rfl, fun j hj => ?_⟩
        have hj' : j < len ∧ j < zs.length := by simp at hj; omega
        rw [gx_take _ _ _ hj'.1]
        exact hc j hj'.2
      · refine u32_take (fun j => ?_) len
        by_cases hj : j < zs.length
        · have := hwz zs[j] (List.getElem_mem hj)
          rw [gx_mem zs j hj]
          have h4 : 0 ≤ zs[j] ∧ zs[j] ≤ 4294967295 := by
            simpa [Lit.wf, IntKind.min, IntKind.max, IntKind.signed, IntKind.bits] using this
          exact ⟨h4.1, by omega⟩
        · rw [gx_past zs _ (Nat.le_refl _) j (by omega)]; decide
  obtain ⟨s, pa, n, nc, xs, rfl, hl, hnc, hb, hX, hU, hp⟩ := hshape
  refine (IntMod_walk s pa n nc xs m W hl hnc hb hX hU hp).mono fun e W' ⟨he, hb⟩ => ?_
  subst he
  refine ⟨_, rfl, _, _, _, [], p0 ++ [], [], hW', trodAll_mk1 (shut_bool Tryd.underlying4 _), trodAll_mk2 (Below.trod laidOut (by kernel_rfl) (of_decide_eq_true (by kernel_rfl)) h0 hb hlt) (shut_int Tryd.underlying2 wm), rfl, hb.frame _, fun h => by cases h⟩

theorem said : Rows.IntModSaid :=
  OpenClaim.holds_of_wide 8 Tryd.f8 rfl rfl rfl rfl rfl rfl rfl ⟨rfl, rfl, rfl, rfl, rfl⟩ rfl rfl rfl rfl rfl (by kernel_rfl) Tryd.func8 (by kernel_rfl)
    (of_decide_eq_true (by kernel_rfl)) (by unfold Func.isWrapper; first | (rw [if_pos (by decide +kernel)]; kernel_rfl) | (rw [if_neg (by decide +kernel)]; exact ⟨rfl, rfl⟩))
    (fun os started H enc _ => lifted os started H enc)

theorem plain (f : FuncId) (fn : Func) (hf : Tryd.pinned.checked.prog.funcNamed Rows.intModRow.func = some f) (hfn : Tryd.pinned.checked.prog.funcs[f]? = some fn) :
    false = Tryd.pinned.checked.prog.looks [] ∧ ∀ (j : Nat) t, fn.params[j]? = some t → Tryd.pinned.checked.prog.wantsStandIn t = false := by
  obtain rfl : f = 8 := Option.some.inj ((show Tryd.prog.funcNamed Rows.intModRow.func = some 8 by kernel_rfl).symm.trans hf) |>.symm
  obtain rfl : fn = Tryd.f8 := (Option.some.inj (Tryd.func8.symm.trans hfn)).symm
  refine ⟨by kernel_rfl, fun j t ht => ?_⟩
  rw [Tryd.params8] at ht
  have hm : t ∈ [24, 2] := by simpa using Array.mem_of_getElem? ht
  have hall : ([24, 2].all fun u => !Tryd.prog.wantsStandIn u) = true := by kernel_rfl
  exact (show Tryd.prog.wantsStandIn t = false by simpa using List.all_eq_true.1 hall t hm)
end Go.Proofs.YtgjgdhihpdpmcaaDoor.intMod

namespace Go.Proofs.YtgjgdhihpdpmcaaDoor
theorem intMod_card : Rows.IntModCardSaid :=
  Claim7.holds_tied_plain_at .later [] _ _ _ _ intMod.said (fun _ h => by cases h) (by kernel_rfl) (fun _ h => by cases h) intMod_row_tie rfl ⟨rfl, rfl⟩ (by kernel_rfl) rfl intMod.plain (by kernel_rfl)
#print axioms intMod_card
end Go.Proofs.YtgjgdhihpdpmcaaDoor
