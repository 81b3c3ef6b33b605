/-
  limbs.bitsFrom.
-/
import Derived.Test.YtongkalfdgleaaaDoorGc
namespace Go.Proofs.YtongkalfdgleaaaDoor
open Go.RowKit
set_option linter.unusedVariables false
set_option linter.unusedSimpArgs false

set_option maxHeartbeats 1000000 in
/-- The limb at a place, 0 beyond the end. -/
theorem limb_any (g : Nat) (p : Option Addr) (n nc : Nat) (xs : List Int) (j : Nat) (w : World) (hb : w.cell? ⟨g, 0, none⟩ = some (.slice p n nc)) (hl : xs.length = n) (hn : n ≤ 1000000) (hX : Rd w p .u32 xs) (hU : U32 xs) :
    Calls Tryd.prog 89 #[.int .i64 j, .pointer (some ⟨g, 0, none⟩)] w fun e w' => e = .returned (.int .u64 (gx xs j)) ∧ w = w' := by
  by_cases hj : j < n
  · obtain ⟨b, off, rfl, hcell⟩ := hX (by omega)
    have hc := hcell j (by omega)
    have hjI : (j : Int) < (n : Int) := by omega
    obtain ⟨u0, u1⟩ := hU j
    clear hcell
    go_enter Tryd.func89, Tryd.ntmps89
    go_wp2
    go_ret
    exact ⟨rfl, rfl⟩
  · have hz := gx_past xs n (by omega) j (by omega)
    rw [hz]
    go_enter Tryd.func89, Tryd.ntmps89
    go_wp2
    go_ret
    exact ⟨rfl, rfl⟩

theorem or_low64 (x y : Int) (x0 : 0 ≤ x) (x1 : x < 4294967296) (y0 : 0 ≤ y) (y1 : y < 4294967296) : bits .or .u64 x (y * 4294967296) = x + y * 4294967296 :=
  or_bits x y 32 (by decide) x0 (by omega) y0 (by omega)

set_option maxRecDepth 100000 in
set_option maxHeartbeats 4000000 in
/-- limbs.bitsFrom. -/
theorem bitsFrom_go (p : Option Addr) (n nc : Nat) (xs : List Int) (i off : Nat) (V : Int) (w : World) (hl : xs.length = n) (hn : n ≤ 1000000) (hX : Rd w p .u32 xs) (hU : U32 xs) (hi : i ≤ 1000000) (hoff : off < 32)
    (hV : bits .or .u64 ((gx xs i + gx xs (i + 1) * 4294967296) / 2 ^ off) (IntKind.u64.wrap (gx xs (i + 2) * 2 ^ (64 - off))) = V) :
    Calls Tryd.prog 84 #[.slice p n nc, .int .i64 (32 * (i : Int) + (off : Int))] w fun e w' => e = .returned (.int .u64 V) ∧ Below w.heap.size w w' := by
  have q1 : (32 * (i : Int) + (off : Int)) / 32 = (i : Int) := by omega
  have q2 : (32 * (i : Int) + (off : Int)) % 32 = (off : Int) := by omega
  have q3 : (off : Int) % 32 = (off : Int) := by omega
  have hoffI : (0 : Int) ≤ (off : Int) := by omega
  have hoffJ : (off : Int) ≤ 31 := by omega
  go_enter Tryd.func84, Tryd.ntmps84
  go_wp2
  have hc0 : (w.alloc (.cells #[.slice p n nc] 22)).cell? ⟨w.heap.size, 0, none⟩ = some (.slice p n nc) := by simp [go_sem]
  have hX' := hX.alloc (.cells #[.slice p n nc] 22)
  have hbw : Below w.heap.size w (w.alloc (.cells #[.slice p n nc] 22)) := (Below.refl _ _).alloc (Nat.le_refl _) _
  generalize (w.alloc (.cells #[.slice p n nc] 22)) = W at *
  have lq : ∀ (j x : Nat), Calls Tryd.prog 89 #[.int .i64 j, .pointer (some ⟨w.heap.size, 0, none⟩)] (W.drewN x) fun e w'' => e = .returned (.int .u64 (gx xs j)) ∧ ∃ m, w'' = W.drewN m := fun j x =>
    (limb_any w.heap.size p n nc xs j (W.drewN x) hc0 hl hn hX' hU).mono fun e w'' ⟨h1, h2⟩ => ⟨h1, x, h2.symm⟩
  have l0 := lq i
  have l1 := lq (i + 1)
  have l2 := lq (i + 2)
  rw [show ((i + 1 : Nat) : Int) = (i : Int) + 1 by omega] at l1
  rw [show ((i + 2 : Nat) : Int) = (i : Int) + 2 by omega] at l2
  clear lq
  obtain ⟨u0, u1⟩ := hU i
  obtain ⟨v0, v1⟩ := hU (i + 1)
  obtain ⟨z0, z1⟩ := hU (i + 2)
  have ho := or_low64 (gx xs i) (gx xs (i + 1)) u0 u1 v0 v1
  generalize gx xs i = g0 at *
  generalize gx xs (i + 1) = g1 at *
  generalize gx xs (i + 2) = g2 at *
  clear hX hX' hU hl hc0
  go_quiet (first | with_reducible exact l0 _ | with_reducible exact l1 _ | with_reducible exact l2 _)
  clear hV ho
  go_wp2
  go_ret
  exact ⟨rfl, below_drewN hbw _⟩

/-- limbs.bitsFrom. -/
theorem bitsFrom_any (p : Option Addr) (n nc : Nat) (xs : List Int) (i off : Nat) (w : World) (hl : xs.length = n) (hn : n ≤ 1000000) (hX : Rd w p .u32 xs) (hU : U32 xs) (hi : i ≤ 1000000) (hoff : off < 32) (hv : val xs < 2 ^ (32 * i + off) * 1152921504606846976) :
    Calls Tryd.prog 84 #[.slice p n nc, .int .i64 (32 * (i : Int) + (off : Int))] w fun e w' => e = .returned (.int .u64 (val xs / 2 ^ (32 * i + off))) ∧ Below w.heap.size w w' := by
  refine bitsFrom_go p n nc xs i off _ w hl hn hX hU hi hoff ?_
  obtain ⟨h1, h2, h3, h4⟩ := bits_from hU i off hoff hv
  have hz := (hU (i + 2)).1
  have hG : (0 : Int) < 2 ^ (64 - off) := Int.pow_pos (by decide)
  have h5 := Int.mul_nonneg hz (Int.le_of_lt hG)
  rw [IntKind.wrap_u64, Int.emod_eq_of_lt h5 (by omega), Int.mul_comm (gx xs (i + 1)), or_bits _ _ _ (by omega) h3 h4 hz (by omega), h1]
end Go.Proofs.YtongkalfdgleaaaDoor
