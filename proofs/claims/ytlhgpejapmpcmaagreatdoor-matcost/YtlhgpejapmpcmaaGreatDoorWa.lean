/-
  The contracts of the small functions of limbs, read off the program by walking it.
-/
import Derived.Test.YtlhgpejapmpcmaaGreatDoorProg
import Derived.Test.YtlhgpejapmpcmaaGreatDoorMm
namespace Go.Proofs.YtlhgpejapmpcmaaGreatDoor
open Go.RowKit
set_option linter.unusedVariables false
set_option linter.unusedSimpArgs false

set_option maxHeartbeats 400000 in
/-- limbs.trim: the same memory, without the highest limbs that are 0. -/
theorem trim_any (p : Option Addr) (len cap : Nat) (xs : List Int) (w : World) (hl : xs.length = len) (hc : len ≤ cap) (hm : cap ≤ maxLen) (hx : Rd w p .u32 xs) :
    Calls Tryz.prog 68 #[.slice p len cap] w fun e w' => e = .returned (.slice p (tlen xs) cap) ∧ w = w' := by
  unfold maxLen at hm
  go_enter Tryz.func68, Tryz.ntmps68
  go_wp2
  go_loop [3] (fun n => ∃ k : Nat, k ≤ len ∧ n = .int .i64 k ∧ Hid (∀ j, k ≤ j → gx xs j = 0)) (fun n => (intOf n).toNat)
  case atStart => exact ⟨len, Nat.le_refl _, rfl, gx_past xs len (by omega)⟩
  case round =>
    obtain ⟨k, hk, rfl, hz⟩ := hrel
    by_cases h0 : k = 0
    · subst h0
      go_wp2
      go_ret
      rw [tlen_eq xs 0 hz.out (.inl rfl)]
      exact ⟨rfl, rfl⟩
    · obtain ⟨m, rfl⟩ : ∃ m, k = m + 1 := ⟨k - 1, by omega⟩
      obtain ⟨b, off, rfl, hcell⟩ := hx (by omega)
      have hcm := hcell m (by omega)
      clear hcell
      by_cases h1 : gx xs m = 0
      · have h2 : (gx xs m == 0) = true := by simp only [h1]; rfl
        go_wp2
        go_round
        case rel => exact ⟨m, by omega, by go_num, fun j hj => by
          rcases Nat.lt_or_ge m j with h | h
          · exact hz.out j h
          · have : j = m := by omega
            subst this; exact h1⟩
        case measure => simp [intOf]
      · have h2 : (gx xs m == 0) = false := by simpa using h1
        go_wp2
        go_ret
        rw [tlen_eq xs (m + 1) hz.out (.inr h1)]
        exact ⟨rfl, rfl⟩
set_option maxHeartbeats 1000000 in
/-- limbs.addTo: x is added to z in the memory of z; what does not fit is told. -/
theorem addTo_any (g o n cap : Nat) (Z : List Int) (q : Option Addr) (m mc : Nat) (xs : List Int) (w : World)
    (hz : o + n ≤ Z.length) (hcap : cap ≤ 1099511627776) (hn : n ≤ cap) (hR : Row w g 98 .u32 Z) (hU : U32 Z) (hx : xs.length = m) (hm : m ≤ n)
    (hX : Rd w q .u32 xs) (hXu : U32 xs) (hoff : 0 < m → Off g q) :
    Calls Tryz.prog 129 #[.slice (some ⟨g, o, none⟩) n cap, .slice q m mc] w fun e w' => ∃ c new, e = .returned (.int .u32 c) ∧ new.length = n ∧ U32 new ∧ 0 ≤ c ∧ c ≤ 1 ∧
      val new + pw n * c = val ((Z.drop o).take n) + val xs ∧ Row w' g 98 .u32 (Z.take o ++ new ++ Z.drop (o + n)) ∧ w.grownBy w' (some g) := by
  go_enter Tryz.func129, Tryz.ntmps129
  go_wp2
  go_loopw [5, 12] (fun cv iv wr => ∃ (k : Nat) (c : Int) (new : List Int), k ≤ m ∧ iv = .int .i64 k ∧ cv = .int .u64 c ∧ 0 ≤ c ∧ c ≤ 1 ∧ Hid (new.length = k ∧ U32 new ∧ val new + pw k * c = val ((Z.drop o).take k) + val (xs.take k) ∧ Row wr g 98 .u32 (Z.take o ++ new ++ Z.drop (o + new.length)) ∧ w.grownBy wr (some g)))
    (fun _ iv _ => m - (intOf iv).toNat)
  case atStart => exact ⟨0, 0, [], Nat.zero_le _, rfl, rfl, by decide, by decide, rfl, u32_nil, by simp [val], by rw [row_zero]; exact hR, grownBy_refl _ _⟩
  case round =>
    obtain ⟨k, c, new, hk, rfl, rfl, hc0, hc1, H⟩ := hrel
    by_cases hlt : k < m
    · obtain ⟨hl, hu, hv, hr, hg⟩ := H.out
      obtain ⟨b, off, rfl, hcell⟩ := (hX.keptOff hg (hoff (by omega))) (by omega)
      have hcx := hcell k (by omega)
      have hcz := hr.at (j := o + k) (by omega) (by omega) (by omega)
      have hfz := hr.frozen (o + k)
      have bx := hXu k
      have bz := hU (o + k)
      obtain ⟨bx0, bx1⟩ := bx
      obtain ⟨bz0, bz1⟩ := bz
      clear hl hu hv hr hg hcell
      go_wp2
      refine ⟨⟨k + 1, _, new ++ [(gx Z (o + k) + gx xs k + c) % 4294967296], by omega, by go_num, rfl, by omega, by omega, ?_⟩, by simp [intOf]; omega⟩
      obtain ⟨rfl, hu, hv, hr, hg⟩ := H.out
      refine ⟨by simp, u32_append hu (u32_one (by omega)), ?_, ?_, grownBy_setCell hg _ _⟩
      · rw [val_append, val_one, val_take_succ _ _ (by simp; omega), val_take_succ _ _ (by omega), gx_drop, pw_succ]
        have e := cut_step (pw new.length) (gx Z (o + new.length) + gx xs new.length + c)
        simp only [Int.mul_add] at e
        simp only [Int.mul_assoc] at e ⊢
        omega
      · exact hr.step (by omega) _
    · have hkm : k = m := by omega
      subst hkm
      go_wp2
      go_loopw [5, 9] (fun cv iv wr => ∃ (k : Nat) (c : Int) (new : List Int), k ≤ n ∧ iv = .int .i64 k ∧ cv = .int .u64 c ∧ 0 ≤ c ∧ c ≤ 1 ∧ Hid (new.length = k ∧ U32 new ∧ val new + pw k * c = val ((Z.drop o).take k) + val xs ∧ Row wr g 98 .u32 (Z.take o ++ new ++ Z.drop (o + new.length)) ∧ w.grownBy wr (some g)))
        (fun _ iv _ => n - (intOf iv).toNat)
      case atStart =>
        refine ⟨k, c, new, hm, rfl, rfl, hc0, hc1, ?_⟩
        have h := H.out
        rw [List.take_of_length_le (l := xs) (by omega)] at h
        exact h
      case round =>
        clear H hc0 hc1
        obtain ⟨j, c, new, hj, rfl, rfl, hc0, hc1, H⟩ := hrel
        by_cases hjn : j < n
        · by_cases hcz : c = 0
          · subst hcz
            go_wp2
            go_ret
            obtain ⟨hl, hu, hv, hr, hg⟩ := H.out
            refine ⟨0, new ++ ((Z.drop o).take n).drop new.length, rfl, ?_, u32_append hu (u32_drop (part_u32 hU o n) _), by decide, by decide, ?_, ?_, hg⟩
            · have := part_length Z o n hz
              simp at this ⊢; omega
            · rw [val_append, val_drop_take ((Z.drop o).take n) new.length (by rw [part_length Z o n hz]; omega), List.take_take, Nat.min_eq_left (by omega), hl]
              simp only [Int.mul_zero] at hv ⊢
              omega
            · rw [← row_rest Z new o n hz (by omega)]
              exact hr
          · have hc1' : c = 1 := by omega
            subst hc1'
            obtain ⟨hl, hu, hv, hr, hg⟩ := H.out
            have hcz := hr.at (j := o + j) (by omega) (by omega) (by omega)
            have hfz := hr.frozen (o + j)
            obtain ⟨bz0, bz1⟩ := hU (o + j)
            clear hl hu hv hr hg
            go_wp2
            · have hne : ((gx Z (o + j) + 1) % 4294967296 != 0) = true := by assumption
              obtain ⟨rfl, hu, hv, hr, hg⟩ := H.out
              refine ⟨⟨new.length + 1, 0, new ++ [(gx Z (o + new.length) + 1) % 4294967296], by omega, by go_num, rfl, by decide, by decide, by simp, u32_append hu (u32_one (by omega)), ?_, hr.step (by omega) _, grownBy_setCell hg _ _⟩, by simp [intOf]; omega⟩
              rw [val_append, val_one, val_take_succ _ _ (by simp; omega), gx_drop, pw_succ]
              simp at hne
              rw [show (gx Z (o + new.length) + 1) % 4294967296 = gx Z (o + new.length) + 1 by omega]
              simp only [Int.mul_add, Int.mul_zero, Int.mul_one] at hv ⊢
              omega
            · have hne : ((gx Z (o + j) + 1) % 4294967296 != 0) = false := by assumption
              obtain ⟨rfl, hu, hv, hr, hg⟩ := H.out
              refine ⟨⟨new.length + 1, 1, new ++ [(gx Z (o + new.length) + 1) % 4294967296], by omega, by go_num, rfl, by decide, by decide, by simp, u32_append hu (u32_one (by omega)), ?_, hr.step (by omega) _, grownBy_setCell hg _ _⟩, by simp [intOf]; omega⟩
              rw [val_append, val_one, val_take_succ _ _ (by simp; omega), gx_drop, pw_succ]
              simp at hne
              rw [show gx Z (o + new.length) = 4294967295 by omega]
              simp only [Int.mul_one] at hv ⊢
              omega
        · have hjn' : j = n := by omega
          subst hjn'
          go_wp2
          go_ret
          obtain ⟨hl, hu, hv, hr, hg⟩ := H.out
          exact ⟨c, new, rfl, hl, hu, hc0, hc1, hv, hl ▸ hr, hg⟩
end Go.Proofs.YtlhgpejapmpcmaaGreatDoor
