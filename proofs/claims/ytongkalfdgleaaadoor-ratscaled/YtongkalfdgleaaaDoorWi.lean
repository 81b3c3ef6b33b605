/-
  limbs.multiplyRows.
-/
import Derived.Test.YtongkalfdgleaaaDoorPn
import Derived.Test.YtongkalfdgleaaaDoorWa
namespace Go.Proofs.YtongkalfdgleaaaDoor
open Go.RowKit
set_option linter.unusedVariables false
set_option linter.unusedSimpArgs false

set_option maxHeartbeats 2000000 in
/-- limbs.multiplyRows. -/
theorem multiplyRows_any (g o cap : Nat) (Z : List Int) (p q : Option Addr) (n nc m mc : Nat) (xs ys : List Int) (w : World)
    (hz : o + (n + m) ≤ Z.length) (hcap : cap ≤ 1099511627776) (hn : n + m ≤ cap) (hR : Row w g 55 .u32 Z) (hZ : (Z.drop o).take (n + m) = zeros (n + m)) (hx : xs.length = n) (hy : ys.length = m)
    (hX : Rd w p .u32 xs) (hXu : U32 xs) (hY : Rd w q .u32 ys) (hYu : U32 ys) (hoffx : 0 < n → Off g p) (hoffy : 0 < m → Off g q) :
    Calls Tryd.prog 72 #[.slice (some ⟨g, o, none⟩) (n + m) cap, .slice p n nc, .slice q m mc] w fun e w' => ∃ R, e = .returned (.tuple #[]) ∧ R.length = n + m ∧ U32 R ∧ val R = val xs * val ys ∧ Row w' g 55 .u32 (mid Z o R) ∧ w.grownBy w' (some g) := by
  go_enter Tryd.func72, Tryd.ntmps72
  go_wp2
  go_loopw [15] (fun iv wr => ∃ (i : Nat) (R : List Int), i ≤ m ∧ iv = .int .i64 i ∧ Hid (R.length = n + m ∧ U32 R ∧ val R = val xs * val (ys.take i) ∧ (∀ j, n + i ≤ j → gx R j = 0) ∧ Row wr g 55 .u32 (mid Z o R) ∧ w.grownBy wr (some g)))
    (fun iv _ => m - (intOf iv).toNat)
  case atStart => exact ⟨0, zeros (n + m), Nat.zero_le _, rfl, length_zeros _, u32_zeros _, by simp [val_zero, val], fun j _ => gx_zeros _ j, by rw [← hZ, mid_self Z o (n + m) hz]; exact hR, grownBy_refl _ _⟩
  case round =>
    obtain ⟨i, R, hi, rfl, H⟩ := hrel
    by_cases hlt : i < m
    · obtain ⟨hl, hu, hv, h0, hr, hg⟩ := H.out
      obtain ⟨b, off, rfl, hcell⟩ := (hY.keptOff hg (hoffy (by omega))) (by omega)
      have hcy := hcell i (by omega)
      clear hl hu hv h0 hr hg hcell
      go_wp2
      go_loopw [8, 29] (fun cv jv wr' => ∃ (j : Nat) (c : Int) (T : List Int), j ≤ n ∧ jv = .int .i64 j ∧ cv = .int .u64 c ∧ 0 ≤ c ∧ c < 4294967296 ∧ Hid (T.length = n + m ∧ U32 T ∧ val T + pw (i + j) * c = val R + pw i * (gx ys i * val (xs.take j)) ∧ (∀ j, n + i ≤ j → gx T j = 0) ∧ Row wr' g 55 .u32 (mid Z o T) ∧ w.grownBy wr' (some g)))
        (fun _ jv _ => n - (intOf jv).toNat)
      case atStart =>
        obtain ⟨hl, hu, hv, h0, hr, hg⟩ := H.out
        exact ⟨0, 0, R, Nat.zero_le _, rfl, rfl, by decide, by decide, hl, hu, by simp [val], h0, hr, hg⟩
      case round =>
        obtain ⟨j, c, T, hj, rfl, rfl, hc0, hc1, HT⟩ := hrel
        by_cases hjn : j < n
        · obtain ⟨hl, hu, hv, h0, hr, hg⟩ := HT.out
          obtain ⟨b', off', rfl, hcell⟩ := (hX.keptOff hg (hoffx (by omega))) (by omega)
          have hcx := hcell j (by omega)
          have hct := hr.mid_cell (by omega) (i + j) (by omega)
          have hfz := hr.frozen (o + (i + j))
          obtain ⟨bt0, bt1⟩ := hu (i + j)
          obtain ⟨bm0, bm1⟩ := mul_bd (hYu i) (hXu j)
          obtain ⟨by0, by1⟩ := hYu i
          obtain ⟨bx0, bx1⟩ := hXu j
          rw [← Nat.add_assoc] at hct hfz
          clear hl hu hv h0 hr hg hcell
          go_wp2
          obtain ⟨hl, hu, hv, h0, hr, hg⟩ := HT.out
          refine ⟨⟨j + 1, _, T.set (i + j) ((gx ys i * gx xs j + gx T (i + j) + c) % 4294967296), by omega, by go_num, rfl, by omega, by omega, ?_⟩, by simp [intOf]; omega⟩
          refine ⟨by rw [List.length_set]; exact hl, u32_set hu _ (by omega), ?_, fun k hk => ?_, ?_, ?_⟩
          · rw [val_set T _ _ (by omega), val_take_succ xs j (by omega), ← Nat.add_assoc, pw_succ]
            have e := cut_step (pw (i + j)) (gx ys i * gx xs j + gx T (i + j) + c)
            have e2 : pw i * (gx ys i * (val (List.take j xs) + pw j * gx xs j)) = pw i * (gx ys i * val (List.take j xs)) + pw (i + j) * (gx ys i * gx xs j) := by
              rw [pw_add, Int.mul_add, Int.mul_add]
              congr 1
              simp only [Int.mul_assoc, Int.mul_left_comm]
            rw [e2]
            simp only [Int.mul_add, Int.mul_sub] at e ⊢
            omega
          · rw [gx_set_ne T _ _ _ (by omega)]; exact h0 k hk
          · rw [Nat.add_assoc]; exact hr.mid_set (by omega) (i + j) (by omega) _
          · exact grownBy_setCell hg _ _
        · have hjn' : j = n := by omega
          subst hjn'
          obtain ⟨hl, hu, hv, h0, hr, hg⟩ := HT.out
          have hct := hr.mid_cell (by omega) (i + j) (by omega)
          have hfz := hr.frozen (o + (i + j))
          clear hl hu hv h0 hr hg
          go_wp2
          obtain ⟨hl, hu, hv, h0, hr, hg⟩ := HT.out
          obtain ⟨rl, ru, rv, r0, rr, rg⟩ := H.out
          refine ⟨⟨i + 1, T.set (i + j) c, by omega, by go_num, ?_⟩, by simp [intOf]; omega⟩
          refine ⟨by rw [List.length_set]; exact hl, u32_set hu _ ⟨hc0, hc1⟩, ?_, fun k hk => ?_, hr.mid_set (by omega) (i + j) (by omega) _, grownBy_setCell hg _ _⟩
          · rw [val_set T _ _ (by omega), h0 (i + j) (by omega), Int.sub_zero, hv, rv, List.take_of_length_le (l := xs) (by omega), val_take_succ ys i (by omega)]
            rw [Int.mul_add]
            congr 1
            simp only [Int.mul_assoc, Int.mul_left_comm, Int.mul_comm]
          · rw [gx_set_ne T _ _ _ (by omega)]; exact h0 k (by omega)
    · have him : i = m := by omega
      subst him
      go_wp2
      go_end0
      obtain ⟨hl, hu, hv, h0, hr, hg⟩ := H.out
      rw [List.take_of_length_le (by omega)] at hv
      exact ⟨R, rfl, hl, hu, hv, hr, hg⟩
end Go.Proofs.YtongkalfdgleaaaDoor
