/-
  limbs.shiftUp, shiftDown.
-/
import Derived.Test.YtkbgeggflhfleaaGreatDoorQc
import Derived.Test.YtkbgeggflhfleaaGreatDoorWbWcWd
import Derived.Lib.EndianBits
namespace Go.Proofs.YtkbgeggflhfleaaGreatDoor
open Go.RowKit
set_option linter.unusedVariables false
set_option linter.unusedSimpArgs false
set_option maxHeartbeats 8000000
theorem p2_split {s : Nat} (h : s ≤ 32) : (2 : Int) ^ s * 2 ^ (32 - s) = 4294967296 := by
  rw [← Int.pow_add, show s + (32 - s) = 32 by omega]; rfl
theorem shl_parts (s : Nat) (h : s ≤ 32) (x : Int) (h0 : 0 ≤ x) (h1 : x < 4294967296) :
    x * 2 ^ s % 4294967296 = 2 ^ s * (x % 2 ^ (32 - s)) ∧ x * 2 ^ s % 4294967296 + 4294967296 * (x / 2 ^ (32 - s)) = 2 ^ s * x ∧ 0 ≤ x / 2 ^ (32 - s) ∧ x / 2 ^ (32 - s) < 2 ^ s ∧ x * 2 ^ s % 4294967296 + 2 ^ s ≤ 4294967296 ∧ 0 ≤ x * 2 ^ s % 4294967296 := by
  have hP : (0 : Int) < 2 ^ s := Int.pow_pos (by decide)
  have hD : (0 : Int) < 2 ^ (32 - s) := Int.pow_pos (by decide)
  have hb := p2_split h
  have e1 : x * 2 ^ s % 4294967296 = 2 ^ s * (x % 2 ^ (32 - s)) := by
    rw [← hb, Int.mul_comm x, Int.mul_emod_mul_of_pos _ _ hP]
  have e2 := Int.emod_add_mul_ediv x (2 ^ (32 - s))
  have e3 := Int.emod_nonneg x (show (2 : Int) ^ (32 - s) ≠ 0 by omega)
  have e4 := Int.emod_lt_of_pos x hD
  refine ⟨e1, ?_, Int.ediv_nonneg h0 (by omega), Int.ediv_lt_of_lt_mul hD (by rw [hb]; exact h1), ?_, ?_⟩
  · rw [e1, ← hb, Int.mul_assoc, ← Int.mul_add, e2]
  · rw [e1]
    have : (2 : Int) ^ s * (x % 2 ^ (32 - s) + 1) ≤ 2 ^ s * 2 ^ (32 - s) := Int.mul_le_mul_of_nonneg_left (by omega) (by omega)
    rw [Int.mul_add, Int.mul_one, hb] at this
    exact this
  · rw [e1]; exact Int.mul_nonneg (by omega) e3
theorem or_low (s : Nat) (h : s ≤ 32) (y x : Int) (y0 : 0 ≤ y) (y1 : y < 2 ^ s) (h0 : 0 ≤ x) (h1 : x < 4294967296) : bits .or .u32 y (x * 2 ^ s % 4294967296) = y + x * 2 ^ s % 4294967296 := by
  obtain ⟨e1, e2, e3, e4, e5, e6⟩ := shl_parts s h x h0 h1
  have hP : (0 : Int) < 2 ^ s := Int.pow_pos (by decide)
  exact bits_join_low .u32 32 (by decide) (fun n a b => by rw [IntKind.wrap_u32']; omega) s y _ y0 y1 (by omega) e6 (by rw [e1]; exact Int.mul_emod_right _ _) (by omega)
set_option maxRecDepth 100000 in
theorem shiftUp_any (p : Option Addr) (n nc s : Nat) (xs : List Int) (w : World) (hl : xs.length = n) (hn : n ≤ 100000000) (hs : s ≤ 31) (hX : Rd w p .u32 xs) (hU : U32 xs) :
    Calls Tryz.prog 211 #[.slice p n nc, .int .i64 (s : Int)] w fun e w' => ∃ R, e = .returned (.slice (some ⟨w.heap.size, 0, none⟩) (n + 1) (n + 1)) ∧ R.length = n + 1 ∧ U32 R ∧ Hid (val R = 2 ^ s * val xs) ∧ Row w' w.heap.size 134 .u32 R ∧ Below w.heap.size w w' := by
  have hmk := mk_u32 (n + 1) (by omega)
  have ec : ((n + 1 : Nat) : Int) = (n : Int) + 1 := by omega
  rw [ec] at hmk
  clear ec
  have HL : Hid (xs.length = n) := hl
  clear hl
  have hrow := Row.new w 134 .u32 (zeros (n + 1))
  have hbel : Below w.heap.size w (w.alloc (.cells (ca .u32 (zeros (n + 1))) 134)) := (Below.refl _ _).alloc (Nat.le_refl _) _
  have HB : Hid (Row (w.alloc (.cells (ca .u32 (zeros (n + 1))) 134)) w.heap.size 134 .u32 (zeros (n + 1)) ∧ Below w.heap.size w (w.alloc (.cells (ca .u32 (zeros (n + 1))) 134))) := ⟨hrow, hbel⟩
  clear hrow hbel
  go_enter Tryz.func211, Tryz.ntmps211
  go_wp2
  generalize w.alloc (.cells (ca .u32 (zeros (n + 1))) 134) = W at *
  go_loopw [14] (fun iv wr => ∃ (i : Nat) (R : List Int), i ≤ n ∧ iv = .int .i64 i ∧ Hid (R.length = n + 1 ∧ U32 R ∧ val R = 2 ^ s * val (xs.take i) ∧ gx R i < 2 ^ s ∧ (∀ j, i < j → gx R j = 0) ∧ Row wr w.heap.size 134 .u32 R ∧ Below w.heap.size w wr)) (fun iv _ => n - (intOf iv).toNat)
  case atStart => exact ⟨0, zeros (n + 1), Nat.zero_le _, rfl, length_zeros _, u32_zeros _, by simp [val_zero, val], by rw [gx_zeros]; exact Int.pow_pos (by decide), fun j _ => gx_zeros _ j, HB.out.1, HB.out.2⟩
  case round =>
    obtain ⟨i, R, hi, rfl, H⟩ := hrel
    by_cases hlt : i < n
    · have hltI : (i : Int) < (n : Int) := by omega
      obtain ⟨h1, h2, h3, h4, h5, h6, h7⟩ := H.out
      obtain ⟨b, off, rfl, hcell⟩ := (hX.below h7) (by have := HL.out; omega)
      have hc := hcell i (by have := HL.out; omega)
      have g1 := h6.cell i (by omega)
      have g2 := h6.frozen i
      have g3 := h6.cell (i + 1) (by omega)
      have g4 := h6.frozen (i + 1)
      obtain ⟨x0, x1⟩ := hU i
      obtain ⟨z0, z1⟩ := h2 i
      clear h1 h2 h3 h4 h5 h6 h7 hcell
      have hor := or_low s (by omega) (gx R i) (gx xs i) z0 H.out.2.2.2.1 x0 x1
      have HP : Hid (gx xs i * 2 ^ s % 4294967296 + 4294967296 * (gx xs i / 2 ^ (32 - s)) = 2 ^ s * gx xs i ∧ 0 ≤ gx xs i / 2 ^ (32 - s) ∧ gx xs i / 2 ^ (32 - s) < 2 ^ s ∧ gx xs i * 2 ^ s % 4294967296 + 2 ^ s ≤ 4294967296 ∧ 0 ≤ gx xs i * 2 ^ s % 4294967296) := (shl_parts s (by omega) (gx xs i) x0 x1).2
      have hsI : (0 : Int) ≤ (s : Int) := by omega
      have hsJ : (s : Int) ≤ 31 := by omega
      go_wp2
      go_region
      go_wp2
      obtain ⟨h1, h2, h3, h4, h5, h6, h7⟩ := H.out
      obtain ⟨e2, e3, e4, e5, e6⟩ := HP.out
      have hp32 : (2 : Int) ^ s ≤ 4294967296 := by
        have hb := p2_split (show s ≤ 32 by omega)
        have hD : (0 : Int) < 2 ^ (32 - s) := Int.pow_pos (by decide)
        have : (2 : Int) ^ s * 1 ≤ 2 ^ s * 2 ^ (32 - s) := Int.mul_le_mul_of_nonneg_left (by omega) (Int.le_of_lt (Int.pow_pos (by decide)))
        omega
      refine ⟨⟨i + 1, (R.set i (gx R i + gx xs i * 2 ^ s % 4294967296)).set (i + 1) (gx xs i / 2 ^ (32 - s)), by omega, by go_num, by rw [List.length_set, List.length_set]; exact h1, u32_set (u32_set h2 _ (by omega)) _ (by omega), ?_, ?_, ?_, (h6.set i _).set (i + 1) _, (((h7.setCell (p := ⟨w.heap.size, i, none⟩) (Nat.le_refl _) _).setCell (p := ⟨w.heap.size, i + 1, none⟩) (Nat.le_refl _) _)).drew⟩, by simp [intOf]; omega⟩
      · rw [val_set _ _ _ (by rw [List.length_set]; omega), val_set _ _ _ (by omega), gx_set_ne _ _ _ _ (by omega), h5 (i + 1) (by omega), h3, val_take_succ xs i (by have := HL.out; omega), pw_succ, Int.mul_add (2 ^ s), Int.mul_left_comm (2 ^ s) (pw i), ← e2]
        simp only [Int.mul_add, Int.mul_sub, Int.sub_zero]
        have e7 : pw i * (4294967296 * (gx xs i / 2 ^ (32 - s))) = 4294967296 * pw i * (gx xs i / 2 ^ (32 - s)) := by rw [← Int.mul_assoc, Int.mul_comm (pw i) 4294967296]
        rw [e7]
        omega
      · rw [gx_set_eq _ _ _ (by rw [List.length_set]; omega)]; exact e4
      · intro j hj
        rw [gx_set_ne _ _ _ _ (by omega), gx_set_ne _ _ _ _ (by omega)]; exact h5 j (by omega)
    · obtain rfl : i = n := by omega
      have hltI : ¬ (i : Int) < (i : Int) := by omega
      go_wp2
      go_ret
      obtain ⟨h1, h2, h3, h4, h5, h6, h7⟩ := H.out
      rw [List.take_of_length_le (by have := HL.out; omega)] at h3
      exact ⟨rfl, R, h1, h2, h3, h6, h7⟩
def SDPost (g o n s : Nat) (Z R : List Int) (w : World) (e : Ending) (w' : World) : Prop :=
  ∃ R', e = .returned (.tuple #[]) ∧ R'.length = n ∧ U32 R' ∧ 2 ^ s * val R' = val R - gx R 0 % 2 ^ s ∧ Row w' g 134 .u32 (mid Z o R') ∧ w.grownBy w' (some g)
theorem sd_step {T R : List Int} {s i : Nat} {v yP r0 : Int} (hT : i < T.length) (hR : i < R.length) (h4 : 2 ^ s * val (T.take i) = val (R.take i) - r0 + pw i * (gx R i % 2 ^ s)) (hv : 2 ^ s * v = gx R i - gx R i % 2 ^ s + 4294967296 * yP) :
    2 ^ s * val ((T.set i v).take (i + 1)) = val (R.take (i + 1)) - r0 + pw (i + 1) * yP := by
  rw [val_take_succ _ i (by rw [List.length_set]; exact hT), gx_set_eq T i v hT, List.take_set_of_le (Nat.le_refl _), val_take_succ R i hR, Int.mul_add, h4, Int.mul_left_comm, hv, pw_succ]
  simp only [Int.mul_add, Int.mul_sub]
  have e : pw i * (4294967296 * yP) = 4294967296 * pw i * yP := by rw [← Int.mul_assoc, Int.mul_comm (pw i) 4294967296]
  rw [e]
  omega
set_option maxRecDepth 100000 in
theorem shiftDown_any (g o cap n s : Nat) (Z R : List Int) (w : World) (hz : o + n ≤ Z.length) (hcap : cap ≤ 1099511627776) (hn : n ≤ cap) (hs : s ≤ 31) (hRl : R.length = n) (hR : Row w g 134 .u32 (mid Z o R)) (hU : U32 R) :
    Calls Tryz.prog 213 #[.slice (some ⟨g, o, none⟩) n cap, .int .i64 (s : Int)] w (SDPost g o n s Z R w) := by
  have HL : Hid (R.length = n) := hRl
  clear hRl
  go_enter Tryz.func213, Tryz.ntmps213
  go_wp2
  go_loopw [7] (fun iv wr => ∃ (i : Nat) (T : List Int), i ≤ n ∧ iv = .int .i64 i ∧ Hid (T.length = n ∧ U32 T ∧ (∀ j, i ≤ j → gx T j = gx R j) ∧ 2 ^ s * val (T.take i) = val (R.take i) - gx R 0 % 2 ^ s + pw i * (gx R i % 2 ^ s) ∧ Row wr g 134 .u32 (mid Z o T) ∧ w.grownBy wr (some g))) (fun iv _ => n - (intOf iv).toNat)
  case atStart => exact ⟨0, R, Nat.zero_le _, rfl, HL.out, hU, fun _ _ => rfl, by simp [val, pw_zero]; omega, hR, grownBy_refl _ _⟩
  case round =>
    obtain ⟨i, T, hi, rfl, H⟩ := hrel
    have hsI : (0 : Int) ≤ (s : Int) := by omega
    have hsJ : (s : Int) ≤ 31 := by omega
    have hP : (0 : Int) < 2 ^ s := Int.pow_pos (by decide)
    by_cases hlt : i < n
    · have hltI : (i : Int) < (n : Int) := by omega
      obtain ⟨h1, h2, h3, h4, h5, h6⟩ := H.out
      have g1 := h5.mid_cell (by omega) i (by omega)
      have g2 := h5.frozen (o + i)
      obtain ⟨x0, x1⟩ := h2 i
      have hx := h3 i (Nat.le_refl _)
      have q0 : 0 ≤ gx T i / 2 ^ s := Int.ediv_nonneg x0 (by omega)
      have q1 : gx T i / 2 ^ s ≤ gx T i := Int.ediv_le_self _ x0
      have qd := Int.emod_add_mul_ediv (gx T i) (2 ^ s)
      have q2 : gx T i / 2 ^ s < 2 ^ (32 - s) := Int.ediv_lt_of_lt_mul hP (by rw [Int.mul_comm, p2_split (show s ≤ 32 by omega)]; exact x1)
      have HQ : Hid (gx T i = gx R i ∧ 0 ≤ gx T i / 2 ^ s ∧ gx T i % 2 ^ s + 2 ^ s * (gx T i / 2 ^ s) = gx T i ∧ gx T i / 2 ^ s < 2 ^ (32 - s) ∧ gx T i / 2 ^ s ≤ gx T i) := ⟨hx, q0, qd, q2, q1⟩
      by_cases hl2 : i + 1 < n
      · have hl2I : (i : Int) + 1 < (n : Int) := by omega
        have g3 := h5.mid_cell (by omega) (i + 1) (by omega)
        have g4 := h5.frozen (o + (i + 1))
        obtain ⟨y0, y1⟩ := h2 (i + 1)
        have hy := h3 (i + 1) (by omega)
        have hor := or_low (32 - s) (by omega) (gx T i / 2 ^ s) (gx T (i + 1)) q0 q2 y0 y1
        have HP : Hid (gx T (i + 1) = gx R (i + 1) ∧ gx T (i + 1) * 2 ^ (32 - s) % 4294967296 = 2 ^ (32 - s) * (gx T (i + 1) % 2 ^ (32 - (32 - s))) ∧ gx T (i + 1) * 2 ^ (32 - s) % 4294967296 + 2 ^ (32 - s) ≤ 4294967296 ∧ 0 ≤ gx T (i + 1) * 2 ^ (32 - s) % 4294967296) := by
          obtain ⟨e1, e2, e3, e4, e5, e6⟩ := shl_parts (32 - s) (by omega) (gx T (i + 1)) y0 y1
          exact ⟨hy, e1, e5, e6⟩
        clear h1 h2 h3 h4 h5 h6 hx q1 qd hy
        go_wp2
        go_region
        go_wp2
        obtain ⟨h1, h2, h3, h4, h5, h6⟩ := H.out
        obtain ⟨a1, a2, a3, a4, a5⟩ := HQ.out
        obtain ⟨b1, b2, b3, b4⟩ := HP.out
        have hb := p2_split (show s ≤ 32 by omega)
        have hss : 32 - (32 - s) = s := by omega
        refine ⟨⟨i + 1, T.set i (gx T i / 2 ^ s + gx T (i + 1) * 2 ^ (32 - s) % 4294967296), by omega, by go_num, by rw [List.length_set]; exact h1, u32_set h2 _ (by omega), fun j hj => by rw [gx_set_ne _ _ _ _ (by omega)]; exact h3 j (by omega), ?_, ?_, grownBy_drew (grownBy_setCell (grownBy_setCell h6 _ _) _ _)⟩, by simp [intOf]; omega⟩
        · refine sd_step (by omega) (by have := HL.out; omega) h4 ?_
          rw [Int.mul_add, b2, hss, ← b1, ← a1, ← Int.mul_assoc, hb]
          omega
        · have hr1 := h5.mid_set (by omega) i (by omega) (gx T i / 2 ^ s)
          have hr2 := hr1.mid_set (by rw [List.length_set]; omega) i (by rw [List.length_set]; omega) (gx T i / 2 ^ s + gx T (i + 1) * 2 ^ (32 - s) % 4294967296)
          rw [List.set_set] at hr2
          exact hr2.drew
      · have hl2I : ¬ (i : Int) + 1 < (n : Int) := by omega
        clear h1 h2 h3 h4 h5 h6 hx q1 qd
        go_wp2
        obtain ⟨h1, h2, h3, h4, h5, h6⟩ := H.out
        obtain ⟨a1, a2, a3, a4, a5⟩ := HQ.out
        have hz0 : gx R (i + 1) = 0 := gx_past R n (by have := HL.out; omega) _ (by omega)
        refine ⟨⟨i + 1, T.set i (gx T i / 2 ^ s), by omega, by go_num, by rw [List.length_set]; exact h1, u32_set h2 _ (by omega), fun j hj => by rw [gx_set_ne _ _ _ _ (by omega)]; exact h3 j (by omega), ?_, h5.mid_set (by omega) i (by omega) _, grownBy_setCell h6 _ _⟩, by simp [intOf]; omega⟩
        refine sd_step (by omega) (by have := HL.out; omega) h4 ?_
        rw [hz0, Int.zero_emod, Int.mul_zero, Int.add_zero, ← a1]
        omega
    · obtain rfl : i = n := by omega
      have hltI : ¬ (i : Int) < (i : Int) := by omega
      go_wp2
      go_end0
      obtain ⟨h1, h2, h3, h4, h5, h6⟩ := H.out
      have hz0 : gx R i = 0 := gx_past R i (by have := HL.out; omega) i (Nat.le_refl _)
      rw [List.take_of_length_le (by omega), List.take_of_length_le (by have := HL.out; omega), hz0, Int.zero_emod, Int.mul_zero, Int.add_zero] at h4
      exact ⟨T, rfl, h1, h2, h4, h5, h6⟩
end Go.Proofs.YtkbgeggflhfleaaGreatDoor
