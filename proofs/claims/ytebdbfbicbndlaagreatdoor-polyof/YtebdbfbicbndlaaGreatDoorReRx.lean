/-
  ashlarref1.Eq, where both are the same.
-/
import Derived.Test.YtebdbfbicbndlaaGreatDoorRd
import Derived.Test.YtebdbfbicbndlaaGreatDoorOwRa
namespace Go.Proofs.YtebdbfbicbndlaaGreatDoor
open Go.RowKit
set_option linter.unusedVariables false
set_option linter.unusedSimpArgs false

set_option maxHeartbeats 1000000 in
/-- ashlarref1.Eq: the same. -/
theorem rEq_same (s : Bool) (p q : Option Addr) (n nc mc : Nat) (xs : List Int) (w : World) (hA : AI w p n nc xs) (hB : AI w q n mc xs) :
    Calls Tryz.prog 37 #[.agg #[.bool s, .slice p n nc], .agg #[.bool s, .slice q n mc]] w fun e w' => e = .returned (.bool true) ∧ Below w.heap.size w w' := by
  have hl := hA.len
  have hsm := hA.sml
  have hss : (s != s) = false := by cases s <;> rfl
  have hnn : ((n : Int) != (n : Int)) = false := by simp
  go_enter Tryz.func37, Tryz.ntmps37
  go_wp2
  have hX := boxes2 w (.bool s) (.slice p n nc) (.bool s) (.slice q n mc) 43 43
  generalize ((w.alloc (Obj.cells #[Value.bool s, Value.slice p n nc] 43)).alloc (Obj.cells #[Value.bool s, Value.slice q n mc] 43)) = W at *
  go_loopw [5] (fun iv wr => ∃ k : Nat, k ≤ n ∧ iv = .int .i64 k ∧ Hid (Below W.heap.size W wr)) (fun iv _ => n - (intOf iv).toNat)
  case atStart => exact ⟨0, Nat.zero_le _, rfl, Below.refl _ _⟩
  case round =>
    obtain ⟨k, hk, rfl, H⟩ := hrel
    have hXr := hX.later H.out
    have k1 := hXr.ca1
    have k3 := hXr.cb1
    by_cases hlt : k < n
    · have hltI : (k : Int) < (n : Int) := by omega
      obtain ⟨b1, o1, rfl, hc1⟩ := ((hA.below hX.below).rd.below H.out) (by omega)
      obtain ⟨b2, o2, rfl, hc2⟩ := ((hB.below hX.below).rd.below H.out) (by omega)
      have g1 := hc1 k (by omega)
      have g2 := hc2 k (by omega)
      have hq : (gx xs k != gx xs k) = false := by simp
      clear hc1 hc2 hXr
      go_wp2
      go_quiet (fail)
      go_wp2
      refine ⟨⟨k + 1, by omega, by go_num, below_drewN H.out nq⟩, by simp [intOf]; omega⟩
    · have hltI : ¬ (k : Int) < (n : Int) := by omega
      go_wp2
      go_ret
      exact ⟨rfl, hX.below.trans (H.out.mono hX.below.size)⟩

/-- ashlarref1.Eq of two answers with the same number. -/
theorem rEq_ni {B1 B2 : Nat} {w : World} {s t : Bool} {p q : Option Addr} {n m : Nat} {xs ys : List Int} {z : Int} (h : NI B1 w s p n xs z) (k : NI B2 w t q m ys z) (hn : n ≤ 1000) :
    Calls Tryz.prog 37 #[.agg #[.bool s, .slice p n n], .agg #[.bool t, .slice q m m]] w fun e w' => e = .returned (.bool true) ∧ Below w.heap.size w w' := by
  obtain ⟨rfl, rfl⟩ := nn_same h.nn k.nn
  obtain rfl : n = m := h.len.symm.trans k.len
  exact rEq_same s p q n n n xs w (h.ai (by omega)) (k.ai (by omega))
end Go.Proofs.YtebdbfbicbndlaaGreatDoor
/-
  Small rules for digits.
-/
namespace Go.Proofs.YtebdbfbicbndlaaGreatDoor
open Go.RowKit
set_option linter.unusedVariables false
set_option linter.unusedSimpArgs false

theorem info_int : (Tryz.prog.info? 3).map (fun i => (i.zero, i.size, i.bytes)) = some (some (.int .i64 0), 1, 8) := by kernel_rfl
theorem spl_snoc (xs : List Int) (k : Nat) (h : k < xs.length) : spl (xs.take (k + 1)) = spl (xs.take k) ++ [gx xs k % 65536, gx xs k / 65536] := by
  rw [take_snoc xs k h, spl_append]; rfl

theorem bel_alw {W x : World} {o : Obj} (h : Below W.heap.size W x) : Below W.heap.size W (x.alloc o) := h.alloc h.size o

end Go.Proofs.YtebdbfbicbndlaaGreatDoor
