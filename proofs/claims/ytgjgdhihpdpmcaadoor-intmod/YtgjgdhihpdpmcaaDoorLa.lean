/-
  ashlarlaw1.IntMod: for every number and every m the law's answer is true: what is left by a small number is right.
-/
import Derived.Test.YtgjgdhihpdpmcaaDoorBh
import Derived.Test.YtgjgdhihpdpmcaaDoorRb
import Derived.Test.YtgjgdhihpdpmcaaDoorRc
import Derived.Test.YtgjgdhihpdpmcaaDoorWx
namespace Go.Proofs.YtgjgdhihpdpmcaaDoor
open Go.RowKit
set_option linter.unusedVariables false
set_option linter.unusedSimpArgs false

theorem AI.set {w : World} {p : Option Addr} {n nc F : Nat} {xs : List Int} (h : AI w p n nc xs) (hF : Go.Proofs.YtgjgdhihpdpmcaaDoor.From F p) {a : Addr} (ha : a.block < F) (v : Value) : AI (w.setCell a v) p n nc xs :=
  ⟨h.len, h.cap, h.bnd, h.sml, h.rd.set_other a v (fun b hb e => by have := hF b hb; omega), h.u⟩
theorem nsg_rval (s : Bool) {xs : List Int} (h : U32 xs) : rval (nsg s (spl xs)) (tr (spl xs)) = ival s xs := by
  rw [rval, ival, vd_tr, vd_spl, nsg]
  split
  · rename_i ht
    have h0 : vd (spl xs) = 0 := by rw [← vd_tr, tr, ht]; rfl
    rw [vd_spl] at h0
    simp [h0]
  · rfl

set_option maxHeartbeats 2000000 in
theorem IntMod_walk (s : Bool) (p : Option Addr) (n nc : Nat) (xs : List Int) (m : Int) (w : World) (hl : xs.length = n) (hnc : n ≤ nc) (hb : nc ≤ maxLen) (hX : Rd w p .u32 xs) (hU : U32 xs) (hp : p = none → nc = 0) :
    Calls Tryd.prog 8 #[.agg #[.bool s, .slice p n nc], .int .i64 m] w fun e w' => e = .returned (.bool true) ∧ Below w.heap.size w w' := by
  have hc : (m < 1 ∨ 2147483647 < m) ∨ (1 ≤ m ∧ m ≤ 2147483647) := by omega
  go_enter Tryd.func8, Tryd.ntmps8
  go_wp2_with fail
  have hB0 : Bx (w.alloc (.cells #[.bool s, .slice p n nc] 24)) w.heap.size (.bool s) (.slice p n nc) := Bx.new _ _ _ rfl
  have hbw : Below w.heap.size w (w.alloc (.cells #[.bool s, .slice p n nc] 24)) := (Below.refl _ _).alloc (Nat.le_refl _) _
  have hz0 : w.heap.size < (w.alloc (.cells #[.bool s, .slice p n nc] 24)).heap.size := by simp
  generalize w.alloc (.cells #[.bool s, .slice p n nc] 24) = W0 at *
  refine (begun_any _).mono ?_
  rintro e w1 ⟨rfl, hb1⟩
  have hB1 := hB0.later hb1
  have hbw1 := hbw.trans (hb1.mono hbw.size)
  have hz1 : w.heap.size < w1.heap.size := Nat.lt_of_lt_of_le hz0 hb1.size
  have k0 := hB1.c0
  have k1 := hB1.c1
  clear hB0 hb1 hz0 hbw
  go_wp2_with fail
  refine (Cut_any s p n nc xs _ hl hnc hb (hX.below hbw1) hU hp).mono ?_
  rintro e w2 ⟨p', n', nc', rfl, hA, hn24, hF, hb2⟩
  have hB2 := hB1.later hb2
  have hbw2 := hbw1.trans (hb2.mono hbw1.size)
  have c0 := hB2.c0
  have c1 := hB2.c1
  have f0 := hB2.f0
  have f1 := hB2.f1
  clear k0 k1 hB1
  have hA3 := (hA.set hF (a := ⟨w.heap.size, 0, none⟩) hz1 (.bool s)).set hF (a := ⟨w.heap.size, 1, none⟩) hz1 (.slice p' n' nc')
  have hB3 : Bx ((w2.setCell ⟨w.heap.size, 0, none⟩ (.bool s)).setCell ⟨w.heap.size, 1, none⟩ (.slice p' n' nc')) w.heap.size (.bool s) (.slice p' n' nc') := Bx_set hB2
  have hbw3 : Below w.heap.size w ((w2.setCell ⟨w.heap.size, 0, none⟩ (.bool s)).setCell ⟨w.heap.size, 1, none⟩ (.slice p' n' nc')) := (hbw2.setCell (p := ⟨w.heap.size, 0, none⟩) (Nat.le_refl _) _).setCell (p := ⟨w.heap.size, 1, none⟩) (Nat.le_refl _) _
  have j0 := hB3.c0
  have j1 := hB3.c1
  rcases hc with hc | ⟨h1, h2⟩
  · go_wp2_with fail
    refine (Mod_bad s p' n' nc' m _ hc).mono ?_
    rintro e w4 ⟨rfl, hb4⟩
    rcases hc with hc | hc
    · go_wp2
      go_ret
      exact ⟨rfl, hbw3.trans (hb4.mono hbw3.size)⟩
    · have hc' : ¬ m < 1 := by omega
      go_wp2
      go_ret
      exact ⟨rfl, hbw3.trans (hb4.mono hbw3.size)⟩
  · have h1' : ¬ m < 1 := by omega
    have h2' : ¬ 2147483647 < m := by omega
    go_wp2_with fail
    refine (Mod_any s p' n' nc' (xs.take 24) m _ hA3 h1 h2).mono ?_
    rintro e w4 ⟨rfl, hb4⟩
    have hB4 := hB3.later hb4
    have hbw4 := hbw3.trans (hb4.mono hbw3.size)
    clear j0 j1
    have j0 := hB4.c0
    have j1 := hB4.c1
    go_wp2_with fail
    refine (From_any s p' n' nc' (xs.take 24) _ (hA3.below hb4)).mono ?_
    rintro e w5 ⟨s', q, nq, rfl, hR, rfl, hF5, hb5⟩
    have hbw5 := hbw4.trans (hb5.mono hbw4.size)
    go_wp2_with fail
    have hm := rMod_any (nsg s (spl (xs.take 24))) q nq nq (tr (spl (xs.take 24))) m w5 hR.len hR.sml hR.rd hR.u h1 h2
    rw [nsg_rval s (u32_take hU 24)] at hm
    refine hm.mono ?_
    rintro e w6 ⟨rfl, hb6⟩
    have heq : (ival s (xs.take 24) % m == ival s (xs.take 24) % m) = true := by simp
    go_wp2
    go_ret
    exact ⟨rfl, hbw5.trans (hb6.mono hbw5.size)⟩
end Go.Proofs.YtgjgdhihpdpmcaaDoor
