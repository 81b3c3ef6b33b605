/-
  limbs.takeTimes.
-/
import Derived.Test.YtijckfcpnghmiaaGreatDoorWhPn
import Derived.Test.YtijckfcpnghmiaaGreatDoorWa
namespace Go.Proofs.YtijckfcpnghmiaaGreatDoor
open Go.RowKit
set_option linter.unusedVariables false
set_option linter.unusedSimpArgs false

/-- What takeTimes leaves. -/
def TTPost (g o n : Nat) (Z R vs : List Int) (d : Int) (w : World) (e : Ending) (w' : World) : Prop :=
  ∃ (R' : List Int) (lk : Bool), e = .returned (.bool lk) ∧ R'.length = n + 1 ∧ U32 R' ∧ Hid (val R' = val R - d * val vs + (if lk then pw (n + 1) else 0)) ∧ Row w' g 96 .u32 (mid Z o R') ∧ w.grownBy w' (some g)

set_option maxHeartbeats 2000000 in
/-- limbs.takeTimes. -/
theorem takeTimes_any (g o cap : Nat) (Z R : List Int) (p : Option Addr) (n nc : Nat) (vs : List Int) (d : Int) (w : World)
    (hz : o + (n + 1) ≤ Z.length) (hcap : cap ≤ 1099511627776) (hn : n + 1 ≤ cap) (hRl : R.length = n + 1) (hR : Row w g 96 .u32 (mid Z o R)) (hU : U32 R) (hv : vs.length = n)
    (hV : Rd w p .u32 vs) (hVu : U32 vs) (hoff : 0 < n → Off g p) (hd0 : 0 ≤ d) (hd1 : d < 4294967296) :
    Calls Tryz.prog 122 #[.slice (some ⟨g, o, none⟩) (n + 1) cap, .slice p n nc, .int .u64 d] w (TTPost g o n Z R vs d w) := by
  have HN : Hid (R.length = n + 1 ∧ vs.length = n) := ⟨hRl, hv⟩
  clear hRl hv
  go_enter Tryz.func122, Tryz.ntmps122
  go_wp2
  go_loopw [7, 15] (fun cv iv wr => ∃ (i : Nat) (c : Int) (T : List Int), i ≤ n ∧ iv = .int .i64 i ∧ cv = .int .u64 c ∧ 0 ≤ c ∧ c < 4294967296 ∧ Hid (T.length = n + 1 ∧ U32 T ∧ val T = val R - d * val (vs.take i) + pw i * c ∧ Row wr g 96 .u32 (mid Z o T) ∧ w.grownBy wr (some g))) (fun _ iv _ => n - (intOf iv).toNat)
  case atStart => exact ⟨0, 0, R, Nat.zero_le _, rfl, rfl, by decide, by decide, HN.out.1, hU, by simp [val], hR, grownBy_refl _ _⟩
  case round =>
    obtain ⟨i, c, T, hi, rfl, rfl, hc0, hc1, HT⟩ := hrel
    by_cases hlt : i < n
    · have hltI : (i : Int) < (n : Int) := by omega
      obtain ⟨hl, hu, hval, hr, hg⟩ := HT.out
      obtain ⟨b, off, rfl, hcell⟩ := (hV.keptOff hg (hoff (by omega))) (by have := HN.out; omega)
      have hcv := hcell i (by have := HN.out; omega)
      have hct := hr.mid_cell (by omega) i (by omega)
      have hfz := hr.frozen (o + i)
      obtain ⟨bt0, bt1⟩ := hu i
      obtain ⟨bm0, bm1⟩ := mul_bd (⟨hd0, hd1⟩ : 0 ≤ d ∧ d < 4294967296) (hVu i)
      have bm2 : d * gx vs i ≤ 18446744065119617025 := bm1
      obtain ⟨bv0, bv1⟩ := hVu i
      have hi1 : (i : Int) < (n : Int) + 1 := by omega
      clear hl hu hval hr hg hcell
      by_cases hb : gx T i < (d * gx vs i + c) % 4294967296
      · have q1 : IntKind.u32.wrap (gx T i - (d * gx vs i + c) % 4294967296) = gx T i - (d * gx vs i + c) % 4294967296 + 4294967296 := by rw [IntKind.wrap_u32']; omega
        go_wp2
        obtain ⟨hl, hu, hval, hr, hg⟩ := HT.out
        refine ⟨⟨i + 1, _, T.set i (gx T i - (d * gx vs i + c) % 4294967296 + 4294967296), by omega, by go_num, rfl, by omega, by omega, by rw [List.length_set]; exact hl, u32_set hu _ (by omega), ?_, hr.mid_set (by omega) i (by omega) _, grownBy_setCell hg _ _⟩, by simp [intOf]; omega⟩
        rw [val_set T _ _ (by omega), val_take_succ vs i (by have := HN.out; omega), pw_succ, hval]
        have e := cut_step (pw i) (d * gx vs i + c)
        have e2 : d * (val (vs.take i) + pw i * gx vs i) = d * val (vs.take i) + pw i * (d * gx vs i) := by
          rw [Int.mul_add]; congr 1; simp only [Int.mul_assoc, Int.mul_left_comm]
        rw [e2]
        simp only [Int.mul_add, Int.mul_sub] at e ⊢
        omega
      · have q1 : IntKind.u32.wrap (gx T i - (d * gx vs i + c) % 4294967296) = gx T i - (d * gx vs i + c) % 4294967296 := by rw [IntKind.wrap_u32']; omega
        go_wp2
        obtain ⟨hl, hu, hval, hr, hg⟩ := HT.out
        refine ⟨⟨i + 1, _, T.set i (gx T i - (d * gx vs i + c) % 4294967296), by omega, by go_num, rfl, by omega, by omega, by rw [List.length_set]; exact hl, u32_set hu _ (by omega), ?_, hr.mid_set (by omega) i (by omega) _, grownBy_setCell hg _ _⟩, by simp [intOf]; omega⟩
        rw [val_set T _ _ (by omega), val_take_succ vs i (by have := HN.out; omega), pw_succ, hval]
        have e := cut_step (pw i) (d * gx vs i + c)
        have e2 : d * (val (vs.take i) + pw i * gx vs i) = d * val (vs.take i) + pw i * (d * gx vs i) := by
          rw [Int.mul_add]; congr 1; simp only [Int.mul_assoc, Int.mul_left_comm]
        rw [e2]
        simp only [Int.mul_add, Int.mul_sub] at e ⊢
        omega
    · obtain rfl : i = n := by omega
      have hltI : ¬ (i : Int) < (i : Int) := by omega
      obtain ⟨hl, hu, hval, hr, hg⟩ := HT.out
      have hct := hr.mid_cell (by omega) i (by omega)
      have hfz := hr.frozen (o + i)
      obtain ⟨bt0, bt1⟩ := hu i
      clear hl hu hval hr hg
      by_cases hb : gx T i < c
      · have q1 : IntKind.u32.wrap (gx T i - c) = gx T i - c + 4294967296 := by rw [IntKind.wrap_u32']; omega
        go_wp2
        go_ret
        obtain ⟨hl, hu, hval, hr, hg⟩ := HT.out
        refine ⟨T.set i (gx T i - c + 4294967296), true, rfl, by rw [List.length_set]; exact hl, u32_set hu _ (by omega), ?_, hr.mid_set (by omega) i (by omega) _, grownBy_setCell hg _ _⟩
        show _ = _
        rw [val_set T _ _ (by omega), hval, List.take_of_length_le (by have := HN.out; omega), if_pos rfl, pw_succ]
        simp only [Int.mul_add, Int.mul_sub]
        omega
      · have q1 : IntKind.u32.wrap (gx T i - c) = gx T i - c := by rw [IntKind.wrap_u32']; omega
        go_wp2
        go_ret
        obtain ⟨hl, hu, hval, hr, hg⟩ := HT.out
        refine ⟨T.set i (gx T i - c), false, rfl, by rw [List.length_set]; exact hl, u32_set hu _ (by omega), ?_, hr.mid_set (by omega) i (by omega) _, grownBy_setCell hg _ _⟩
        show _ = _
        rw [val_set T _ _ (by omega), hval, List.take_of_length_le (by have := HN.out; omega), if_neg (by decide)]
        simp only [Int.mul_sub]
        omega
end Go.Proofs.YtijckfcpnghmiaaGreatDoor
