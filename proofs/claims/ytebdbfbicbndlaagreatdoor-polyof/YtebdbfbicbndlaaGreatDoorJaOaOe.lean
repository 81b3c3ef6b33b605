/-
  PolyOf's walk.
-/
import Derived.Test.YtebdbfbicbndlaaGreatDoorKc
import Derived.Test.YtebdbfbicbndlaaGreatDoorUd
import Derived.Test.YtebdbfbicbndlaaGreatDoorRzVd
import Derived.Test.YtebdbfbicbndlaaGreatDoorDaVc
import Derived.Test.YtebdbfbicbndlaaGreatDoorNi
import Derived.ProofKit
import Derived.OpenShut
import Derived.Lib.SmallJoins
import Derived.Lay
import Derived.LaidOnce
import Derived.SevenTiedAt
namespace Go.Proofs.YtebdbfbicbndlaaGreatDoor
open Go.RowKit
set_option linter.unusedVariables false
set_option linter.unusedSimpArgs false

set_option maxHeartbeats 2000000 in
set_option maxRecDepth 100000 in
/-- PolyOf. -/
theorem PolyOf_walk (p : Option Addr) (n nc : Nat) (xs : List Int) (w : World) (hl : xs.length = n) (hc : n ≤ nc) (hm : nc ≤ maxLen) (hX : Rd w p .i64 xs) (hx : ∀ j, -9223372036854775808 ≤ gx xs j ∧ gx xs j ≤ 9223372036854775807) :
    Calls Tryz.prog 3 #[.slice p n nc] w fun r w' => r = .returned (.bool true) ∧ Below w.heap.size w w' := by
  unfold maxLen at hm
  have HX : Hid (Rd w p .i64 xs ∧ ∀ j, -9223372036854775808 ≤ gx xs j ∧ gx xs j ≤ 9223372036854775807) := ⟨hX, hx⟩
  clear hX hx
  go_enter Tryz.func3, Tryz.ntmps3
  go_wp2_with fail
  refine (begun3_any w).mono ?_
  rintro r w1 ⟨rfl, hb1⟩
  rcases Nat.lt_or_ge 100 n with hgt | hle
  · have hcell := HX.out.1.below hb1
    obtain ⟨b, o, hp, hq⟩ := hcell (by omega)
    subst hp
    have HR : Hid (Rd w1 (some ⟨b, o, none⟩) .i64 (xs.take 100) ∧ ∀ j, -9223372036854775808 ≤ gx (xs.take 100) j ∧ gx (xs.take 100) j ≤ 9223372036854775807) := ⟨hcell.take 100, fun j => by
      rcases Nat.lt_or_ge j 100 with h | h
      · rw [gx_take _ _ _ h]; exact HX.out.2 j
      · rw [gx_past (xs.take 100) 100 (by simp; omega) j h]; decide⟩
    have hl' : (xs.take 100).length = 100 := by simp; omega
    have i1 : (100 : Int) < (n : Int) := by omega
    have i2 : (100 : Int) ≤ (nc : Int) := by omega
    clear hq hcell
    have h1 := uOf_any (some ⟨b, o, none⟩) 100 nc (xs.take 100) w1 hl' (by omega) HR.out.1 HR.out.2
    go_wp2_with fail
    refine h1.mono ?_
    rintro r w2 ⟨p2, n2, es2, rfl, h2, hb2⟩
    clear h1
    have h3 := rpOf_any (some ⟨b, o, none⟩) 100 nc (xs.take 100) w2 hl' (by omega) (HR.out.1.below hb2) HR.out.2
    go_wp2_with fail
    refine h3.mono ?_
    rintro r w3 ⟨p3, n3, es3, rfl, h4, hf4, ht4, hb3⟩
    clear h3
    have hn2 := h2.zl
    have hn3 := h4.zl
    obtain rfl : n3 = n2 := by omega
    have hle2 : n3 ≤ 1000000 := by rw [← hn3, length_tr]; exact Nat.le_trans (tlen_le _) (by rw [hl']; decide)
    have h5 := rpIs_any (h2.below hb3) h4 (by decide) (by decide) hle2
    have HB : Hid (Below w.heap.size w w3) := bnext' (bnext' hb1 hb2) hb3
    clear h2 h4 hn2 hn3 ht4 hf4
    go_wp2_with fail
    refine h5.mono ?_
    rintro r w4 ⟨rfl, hb4⟩
    clear h5
    go_wp2
    go_ret
    exact ⟨rfl, bnext' HB.out hb4⟩
  · have i1 : ¬ (100 : Int) < (n : Int) := by omega
    have h1 := uOf_any p n nc xs w1 hl (by omega) (HX.out.1.below hb1) HX.out.2
    go_wp2_with fail
    refine h1.mono ?_
    rintro r w2 ⟨p2, n2, es2, rfl, h2, hb2⟩
    clear h1
    have h3 := rpOf_any p n nc xs w2 hl (by omega) ((HX.out.1.below hb1).below hb2) HX.out.2
    go_wp2_with fail
    refine h3.mono ?_
    rintro r w3 ⟨p3, n3, es3, rfl, h4, hf4, ht4, hb3⟩
    clear h3
    have hn2 := h2.zl
    have hn3 := h4.zl
    obtain rfl : n3 = n2 := by omega
    have hle2 : n3 ≤ 1000000 := by rw [← hn3, length_tr]; exact Nat.le_trans (tlen_le _) (by rw [hl]; omega)
    have h5 := rpIs_any (h2.below hb3) h4 (by decide) (by decide) hle2
    have HB : Hid (Below w.heap.size w w3) := bnext' (bnext' hb1 hb2) hb3
    clear h2 h4 hn2 hn3 ht4 hf4
    go_wp2_with fail
    refine h5.mono ?_
    rintro r w4 ⟨rfl, hb4⟩
    clear h5
    go_wp2
    go_ret
    exact ⟨rfl, bnext' HB.out hb4⟩
end Go.Proofs.YtebdbfbicbndlaaGreatDoor
/-
  Arguments, read as data: what every card wants.
-/
namespace Go.Proofs.YtebdbfbicbndlaaGreatDoor
open Go.ChangeShapes Go.WideShapes Go.ChangeAt Go.RowKit Go.Joins
set_option linter.unusedVariables false
set_option linter.unusedSimpArgs false

theorem own : ownKnob Tryz.prog.godebug = none := by kernel_rfl
theorem laidOut : laidOutB Tryz.prog = true := by kernel_rfl
end Go.Proofs.YtebdbfbicbndlaaGreatDoor
/-
  What an argument of type []int64 is, read as data.
-/
namespace Go.Proofs.YtebdbfbicbndlaaGreatDoor
open Go.ChangeShapes Go.WideShapes Go.ChangeAt Go.RowKit Go.Joins
set_option linter.unusedVariables false
set_option linter.unusedSimpArgs false

theorem cellsI64 : Tryz.prog.cellsOf 2 = 1 := by kernel_rfl
set_option maxRecDepth 100000 in
theorem openI64s {H : Type} {enc : TypeId × Value → H} {W : World} {base : Nat} {v0 : Value} {d0 : DataW H} {p0 : List MemPlace} (hv : Value.okWide Tryz.prog W .any base 22 v0)
    (h0 : DataW.Trod enc Tryz.prog W 0 (fun _ => true) true 22 v0 d0 p0) :
    ∃ (pa : Option Addr) (n nc : Nat) (xs : List Int), v0 = .slice pa n nc ∧ xs.length = n ∧ n ≤ nc ∧ nc ≤ maxLen ∧ Rd W pa .i64 xs ∧ (∀ j, -9223372036854775808 ≤ gx xs j ∧ gx xs j ≤ 9223372036854775807) := by
  obtain ⟨a0, len, cap, rfl⟩ := okWide_slice Tryz.underlying22 hv
  obtain ⟨fuel, hf⟩ := h0
  rcases open_ints Tryz.underlying22 Tryz.underlying2 cellsI64 hf with ⟨hcs, -⟩ | ⟨a, len', cap', zs, hcs, -, hl, hm, hz, -, hcell, hwz⟩
  · simp [Value.cells] at hcs
    obtain ⟨rfl, rfl, rfl⟩ := hcs
    exact ⟨none, 0, 0, [], rfl, rfl, Nat.le_refl _, Nat.zero_le _, Rd.nil, fun j => by simp [gx]⟩
  · simp [Value.cells] at hcs
    obtain ⟨rfl, rfl, rfl⟩ := hcs
    simp only [if_true] at hz
    refine ⟨some a, len, cap, zs.take len, rfl, by simp; omega, hl, hm, ?_, fun j => ?_⟩
    · intro hp
      have hp' : 0 < zs.length := by simp at hp; omega
      obtain ⟨b, off, rfl, hc⟩ := ints_at hcell hp'
      refine ⟨b, off, rfl, fun j hj => ?_⟩
      have hj' : j < len ∧ j < zs.length := by simp at hj; omega
      rw [gx_take _ _ _ hj'.1]
      exact hc j hj'.2
    · rcases Nat.lt_or_ge j len with h | h
      · rw [gx_take _ _ _ h]
        by_cases hj : j < zs.length
        · have := hwz zs[j] (List.getElem_mem hj)
          rw [gx_mem zs j hj]
          simpa [Lit.wf, IntKind.min, IntKind.max, IntKind.signed, IntKind.bits] using this
        · rw [gx_past zs _ (Nat.le_refl _) j (by omega)]; decide
      · rw [gx_past (zs.take len) len (by simp; omega) j h]; decide
end Go.Proofs.YtebdbfbicbndlaaGreatDoor
