/-
  ashlarref1.add.
-/
import Derived.Test.YtcdfckjlmifjiaaGreatCxRbCyRvCzTeZa
namespace Go.Proofs.YtcdfckjlmifjiaaGreat
open Go.RowKit
set_option linter.unusedVariables false
set_option linter.unusedSimpArgs false

/-- What a function of the reference answers that gives digits. -/
def DAns (N : Nat) (v : Int) (w : World) (e : Ending) (w' : World) : Prop :=
  ∃ q k cap D, e = .returned (.slice q k cap) ∧ D.length = k ∧ k ≤ cap ∧ cap ≤ maxLen ∧ Rd w' q .i64 D ∧ U16 D ∧ vd D = v ∧ k ≤ N ∧ Go.Proofs.YtcdfckjlmifjiaaGreat.From w.heap.size q ∧ Below w.heap.size w w'

set_option maxRecDepth 100000 in
set_option maxHeartbeats 4000000 in
/-- ashlarref1.add. -/
theorem radd_any (p q : Option Addr) (n nc m mc : Nat) (xs ys : List Int) (w : World) (hn : xs.length = n) (hm : ys.length = m) (hnb : n ≤ 1000000) (hmb : m ≤ 1000000)
    (hX : Rd w p .i64 xs) (hXu : U16 xs) (hY : Rd w q .i64 ys) (hYu : U16 ys) :
    Calls Tryz.prog 96 #[.slice p n nc, .slice q m mc] w (DAns (n + m + 1) (vd xs + vd ys) w) := by
  obtain ⟨i0, hi, hzz⟩ := Option.map_eq_some_iff.1 info_int
  simp only [Prod.mk.injEq] at hzz
  obtain ⟨hz0, hz1, hz2⟩ := hzz
  have HI : Hid (Tryz.prog.info? 3 = some i0 ∧ i0.zero = some (.int .i64 0) ∧ i0.size = 1 ∧ i0.bytes = 8) := ⟨hi, hz0, hz1, hz2⟩
  clear hi hz0 hz1 hz2
  have HN : Hid (xs.length = n ∧ ys.length = m) := ⟨hn, hm⟩
  clear hn hm
  go_enter Tryz.func96, Tryz.ntmps96
  go_wp2
  go_loopw [5, 6, 7] (fun dv cv iv wr => ∃ (k : Nat) (c : Int) (ds : List Int), k ≤ n + m + 1 ∧ iv = .int .i64 k ∧ cv = .int .i64 c ∧ 0 ≤ c ∧ c ≤ 1 ∧ (k ≤ n ∨ k ≤ m ∨ c = 0) ∧ ds.length = k ∧ Hid (vd ds + pd k * c = vd (xs.take k) + vd (ys.take k) ∧ U16 ds ∧ wr.ownsRow w.heap.size 3 1 dv k (ds.map (Value.int .i64)) ∧ Below w.heap.size w wr)) (fun _ _ iv _ => n + m + 2 - (intOf iv).toNat)
  case atStart => exact ⟨0, 0, [], Nat.zero_le _, rfl, rfl, by decide, by decide, .inl (Nat.zero_le _), rfl, by simp [vd], u16_nil, World.ownsRow_nil _ _ _ _, Below.refl _ _⟩
  case round =>
    obtain ⟨k, c, ds, hk, rfl, rfl, hc0, hc1, hkc, hkl, H⟩ := hrel
    have hBr := H.out.2.2.2
    have HV : Hid (vd ds + pd k * c = vd (xs.take k) + vd (ys.take k) ∧ U16 ds) := ⟨H.out.1, H.out.2.1⟩
    have HO : Hid (wr.ownsRow w.heap.size 3 1 u5 k (ds.map (Value.int .i64))) := H.out.2.2.1
    have HL : Hid (ds.length = k) := hkl
    clear H hkl
    obtain ⟨x0, x1⟩ := hXu k
    obtain ⟨y0, y1⟩ := hYu k
    obtain ⟨hi, hz0, hz1, hz2⟩ := HI.out
    by_cases h1 : k < n
    · have h1I : (k : Int) < (n : Int) := by omega
      obtain ⟨b, off, rfl, hcell⟩ := (hX.below hBr) (by have := HN.out; omega)
      have hck := hcell k (by have := HN.out; omega)
      clear hcell
      by_cases h2 : k < m
      · have h2I : (k : Int) < (m : Int) := by omega
        obtain ⟨b2, off2, rfl, hcell⟩ := (hY.below hBr) (by have := HN.out; omega)
        have hck2 := hcell k (by have := HN.out; omega)
        clear hcell
        have q1 : (c + gx xs k + gx ys k).tmod 65536 = (c + gx xs k + gx ys k) % 65536 := Int.tmod_eq_emod_of_nonneg (by omega)
        have q2 : (c + gx xs k + gx ys k).tdiv 65536 = (c + gx xs k + gx ys k) / 65536 := Int.tdiv_eq_ediv_of_nonneg (by omega)
        go_wp2_with (refine wpList_append_lies _ rfl _ _ 60 rfl w.heap.size 3 i0 (.int .i64 0) 1 8 Tryz.underlying60 hi hz0 hz1 hz2 rfl (by decide) u5 k (ds.map (Value.int .i64)) rfl (HO.out.alloc _) ⟨wr.heap.size, 0, none⟩ 1 1 [.int .i64 ((c + gx xs k + gx ys k) % 65536)] rfl rfl ?_ (fun x hx => by simp at hx; subst hx; rfl) (by decide) (by unfold maxLen; omega) (by omega) (by have := hBr.size; simp; omega) _ rfl ?_; exact World.news_of_block (heap_alloc_new wr _); intro g cap w3 hown3 hgrow3 hat3 hlt3; have hB3 : Below w.heap.size w w3 := (bel_alw hBr).grown hgrow3 (by have := hBr.size; simp; omega) (fun q hq => (HO.out.lt q hq).1))
        refine ⟨⟨k + 1, (c + gx xs k + gx ys k) / 65536, ds ++ [(c + gx xs k + gx ys k) % 65536], by omega, by go_num, by go_num, by omega, by omega, by omega, by have := HL.out; simp; omega, ?_, u16_append HV.out.2 (u16_one (by omega)), ?_, hB3⟩, by simp [intOf]; omega⟩
        · have e := cut16 (pd k) (c + gx xs k + gx ys k)
          have e0 := HV.out.1
          rw [vd_append, vd_one, pd_succ, HL.out, vd_take_succ, vd_take_succ]
          simp only [Int.mul_add] at e ⊢
          omega
        · rw [List.map_append]
          exact hown3
      · have h2I : ¬ (k : Int) < (m : Int) := by omega
        have q1 : (c + gx xs k).tmod 65536 = (c + gx xs k) % 65536 := Int.tmod_eq_emod_of_nonneg (by omega)
        have q2 : (c + gx xs k).tdiv 65536 = (c + gx xs k) / 65536 := Int.tdiv_eq_ediv_of_nonneg (by omega)
        have hy0 : Hid (gx ys k = 0) := gx_past ys m (by have := HN.out; omega) k (by omega)
        go_wp2_with (refine wpList_append_lies _ rfl _ _ 60 rfl w.heap.size 3 i0 (.int .i64 0) 1 8 Tryz.underlying60 hi hz0 hz1 hz2 rfl (by decide) u5 k (ds.map (Value.int .i64)) rfl (HO.out.alloc _) ⟨wr.heap.size, 0, none⟩ 1 1 [.int .i64 ((c + gx xs k) % 65536)] rfl rfl ?_ (fun x hx => by simp at hx; subst hx; rfl) (by decide) (by unfold maxLen; omega) (by omega) (by have := hBr.size; simp; omega) _ rfl ?_; exact World.news_of_block (heap_alloc_new wr _); intro g cap w3 hown3 hgrow3 hat3 hlt3; have hB3 : Below w.heap.size w w3 := (bel_alw hBr).grown hgrow3 (by have := hBr.size; simp; omega) (fun q hq => (HO.out.lt q hq).1))
        refine ⟨⟨k + 1, (c + gx xs k) / 65536, ds ++ [(c + gx xs k) % 65536], by omega, by go_num, by go_num, by omega, by omega, by omega, by have := HL.out; simp; omega, ?_, u16_append HV.out.2 (u16_one (by omega)), ?_, hB3⟩, by simp [intOf]; omega⟩
        · have e := cut16 (pd k) (c + gx xs k)
          have e0 := HV.out.1
          rw [vd_append, vd_one, pd_succ, HL.out, vd_take_succ, vd_take_succ]
          rw [hy0.out, Int.mul_zero, Int.add_zero]; simp only [Int.mul_add] at e ⊢
          omega
        · rw [List.map_append]
          exact hown3
    · have h1I : ¬ (k : Int) < (n : Int) := by omega
      have hx0 : Hid (gx xs k = 0) := gx_past xs n (by have := HN.out; omega) k (by omega)
      by_cases h2 : k < m
      · have h2I : (k : Int) < (m : Int) := by omega
        obtain ⟨b2, off2, rfl, hcell⟩ := (hY.below hBr) (by have := HN.out; omega)
        have hck2 := hcell k (by have := HN.out; omega)
        clear hcell
        have q1 : (c + gx ys k).tmod 65536 = (c + gx ys k) % 65536 := Int.tmod_eq_emod_of_nonneg (by omega)
        have q2 : (c + gx ys k).tdiv 65536 = (c + gx ys k) / 65536 := Int.tdiv_eq_ediv_of_nonneg (by omega)
        go_wp2_with (refine wpList_append_lies _ rfl _ _ 60 rfl w.heap.size 3 i0 (.int .i64 0) 1 8 Tryz.underlying60 hi hz0 hz1 hz2 rfl (by decide) u5 k (ds.map (Value.int .i64)) rfl (HO.out.alloc _) ⟨wr.heap.size, 0, none⟩ 1 1 [.int .i64 ((c + gx ys k) % 65536)] rfl rfl ?_ (fun x hx => by simp at hx; subst hx; rfl) (by decide) (by unfold maxLen; omega) (by omega) (by have := hBr.size; simp; omega) _ rfl ?_; exact World.news_of_block (heap_alloc_new wr _); intro g cap w3 hown3 hgrow3 hat3 hlt3; have hB3 : Below w.heap.size w w3 := (bel_alw hBr).grown hgrow3 (by have := hBr.size; simp; omega) (fun q hq => (HO.out.lt q hq).1))
        refine ⟨⟨k + 1, (c + gx ys k) / 65536, ds ++ [(c + gx ys k) % 65536], by omega, by go_num, by go_num, by omega, by omega, by omega, by have := HL.out; simp; omega, ?_, u16_append HV.out.2 (u16_one (by omega)), ?_, hB3⟩, by simp [intOf]; omega⟩
        · have e := cut16 (pd k) (c + gx ys k)
          have e0 := HV.out.1
          rw [vd_append, vd_one, pd_succ, HL.out, vd_take_succ, vd_take_succ]
          rw [hx0.out, Int.mul_zero, Int.add_zero]; simp only [Int.mul_add] at e ⊢
          omega
        · rw [List.map_append]
          exact hown3
      · have h2I : ¬ (k : Int) < (m : Int) := by omega
        have hy0 : Hid (gx ys k = 0) := gx_past ys m (by have := HN.out; omega) k (by omega)
        by_cases h3 : 0 < c
        · obtain rfl : c = 1 := by omega
          go_wp2_with (refine wpList_append_lies _ rfl _ _ 60 rfl w.heap.size 3 i0 (.int .i64 0) 1 8 Tryz.underlying60 hi hz0 hz1 hz2 rfl (by decide) u5 k (ds.map (Value.int .i64)) rfl (HO.out.alloc _) ⟨wr.heap.size, 0, none⟩ 1 1 [.int .i64 (1)] rfl rfl ?_ (fun x hx => by simp at hx; subst hx; rfl) (by decide) (by unfold maxLen; omega) (by omega) (by have := hBr.size; simp; omega) _ rfl ?_; exact World.news_of_block (heap_alloc_new wr _); intro g cap w3 hown3 hgrow3 hat3 hlt3; have hB3 : Below w.heap.size w w3 := (bel_alw hBr).grown hgrow3 (by have := hBr.size; simp; omega) (fun q hq => (HO.out.lt q hq).1))
          refine ⟨⟨k + 1, 0, ds ++ [1], by omega, by go_num, rfl, by decide, by decide, .inr (.inr rfl), by have := HL.out; simp; omega, ?_, u16_append HV.out.2 (u16_one (by decide)), ?_, hB3⟩, by simp [intOf]; omega⟩
          · have e0 := HV.out.1
            rw [vd_append, vd_one, pd_succ, HL.out, vd_take_succ, vd_take_succ, hx0.out, hy0.out]
            omega
          · rw [List.map_append]
            exact hown3
        · obtain rfl : c = 0 := by omega
          have hform : ∃ q' cap, u5 = .slice q' k cap ∧ k ≤ cap ∧ cap ≤ maxLen ∧ Rd wr q' .i64 ds ∧ Go.Proofs.YtcdfckjlmifjiaaGreat.From w.heap.size q' := by
            have hown := HO.out
            rcases hown.2 with ⟨h1, h2⟩ | ⟨g, cap, cur, h1, hbg, _, h4, h5, _⟩
            · refine ⟨none, 0, by rw [h1, h2], by omega, Nat.zero_le _, ?_, from_none⟩
              have : ds = [] := List.eq_nil_of_length_eq_zero (by have := HL.out; omega)
              rw [this]; exact Rd.nil
            · subst h1
              exact ⟨_, cap, rfl, h4, h5, rd_owns hown, from_new hbg⟩
          obtain ⟨q', cap, rfl, hq1, hq2, hq3, hq4⟩ := hform
          go_wp2
          go_ret
          have e0 := HV.out.1
          rw [Int.mul_zero, Int.add_zero, List.take_of_length_le (by have := HN.out; omega), List.take_of_length_le (by have := HN.out; omega)] at e0
          exact ⟨q', k, cap, ds, rfl, HL.out, hq1, hq2, hq3, HV.out.2, e0, hk, hq4, hBr⟩

end Go.Proofs.YtcdfckjlmifjiaaGreat
/-
  ashlarref1.sub.
-/
namespace Go.Proofs.YtcdfckjlmifjiaaGreat
open Go.RowKit
set_option linter.unusedVariables false
set_option linter.unusedSimpArgs false


set_option maxRecDepth 100000 in
set_option maxHeartbeats 4000000 in
/-- ashlarref1.sub: the first is not below the second. -/
theorem rsub_any (p q : Option Addr) (n nc m mc : Nat) (xs ys : List Int) (w : World) (hn : xs.length = n) (hm : ys.length = m) (hnb : n ≤ 1000000) (hmn : m ≤ n) (hge : vd ys ≤ vd xs)
    (hX : Rd w p .i64 xs) (hXu : U16 xs) (hY : Rd w q .i64 ys) (hYu : U16 ys) :
    Calls Tryz.prog 97 #[.slice p n nc, .slice q m mc] w (DAns n (vd xs - vd ys) w) := by
  obtain ⟨i0, hi, hzz⟩ := Option.map_eq_some_iff.1 info_int
  simp only [Prod.mk.injEq] at hzz
  obtain ⟨hz0, hz1, hz2⟩ := hzz
  have HI : Hid (Tryz.prog.info? 3 = some i0 ∧ i0.zero = some (.int .i64 0) ∧ i0.size = 1 ∧ i0.bytes = 8) := ⟨hi, hz0, hz1, hz2⟩
  clear hi hz0 hz1 hz2
  have HN : Hid (xs.length = n ∧ ys.length = m) := ⟨hn, hm⟩
  clear hn hm
  go_enter Tryz.func97, Tryz.ntmps97
  go_wp2
  go_loopw [5, 6, 7, 8] (fun dv cv iv nv wr => ∃ (k : Nat) (c : Int) (ds : List Int), k ≤ n ∧ iv = .int .i64 k ∧ cv = .int .i64 c ∧ 0 ≤ c ∧ c ≤ 1 ∧ ds.length = k ∧ Hid (vd ds - pd k * c = vd (xs.take k) - vd (ys.take k) ∧ U16 ds ∧ wr.ownsRow w.heap.size 3 1 dv k (ds.map (Value.int .i64)) ∧ Below w.heap.size w wr)) (fun _ _ iv _ _ => n - (intOf iv).toNat)
  case atStart => exact ⟨0, 0, [], Nat.zero_le _, rfl, rfl, by decide, by decide, rfl, by simp [vd], u16_nil, World.ownsRow_nil _ _ _ _, Below.refl _ _⟩
  case round =>
    obtain ⟨k, c, ds, hk, rfl, rfl, hc0, hc1, hkl, H⟩ := hrel
    have hBr := H.out.2.2.2
    have HV : Hid (vd ds - pd k * c = vd (xs.take k) - vd (ys.take k) ∧ U16 ds) := ⟨H.out.1, H.out.2.1⟩
    have HO : Hid (wr.ownsRow w.heap.size 3 1 u5 k (ds.map (Value.int .i64))) := H.out.2.2.1
    have HL : Hid (ds.length = k) := hkl
    clear H hkl
    obtain ⟨x0, x1⟩ := hXu k
    obtain ⟨y0, y1⟩ := hYu k
    obtain ⟨hi, hz0, hz1, hz2⟩ := HI.out
    by_cases h1 : k < n
    · have h1I : (k : Int) < (n : Int) := by omega
      obtain ⟨b, off, rfl, hcell⟩ := (hX.below hBr) (by have := HN.out; omega)
      have hck := hcell k (by have := HN.out; omega)
      clear hcell
      by_cases h2 : k < m
      · have h2I : (k : Int) < (m : Int) := by omega
        obtain ⟨b2, off2, rfl, hcell⟩ := (hY.below hBr) (by have := HN.out; omega)
        have hck2 := hcell k (by have := HN.out; omega)
        clear hcell
        by_cases h3 : gx xs k - c - gx ys k < 0
        · go_wp2_with (refine wpList_append_lies _ rfl _ _ 60 rfl w.heap.size 3 i0 (.int .i64 0) 1 8 Tryz.underlying60 hi hz0 hz1 hz2 rfl (by decide) u5 k (ds.map (Value.int .i64)) rfl (HO.out.alloc _) ⟨wr.heap.size, 0, none⟩ 1 1 [.int .i64 (gx xs k - c - gx ys k + 65536)] rfl rfl ?_ (fun x hx => by simp at hx; subst hx; rfl) (by decide) (by unfold maxLen; omega) (by omega) (by have := hBr.size; simp; omega) _ rfl ?_; exact World.news_of_block (heap_alloc_new wr _); intro g cap w3 hown3 hgrow3 hat3 hlt3; have hB3 : Below w.heap.size w w3 := (bel_alw hBr).grown hgrow3 (by have := hBr.size; simp; omega) (fun q hq => (HO.out.lt q hq).1))
          refine ⟨⟨k + 1, 1, ds ++ [gx xs k - c - gx ys k + 65536], by omega, by go_num, rfl, by decide, by decide, by have := HL.out; simp; omega, ?_, u16_append HV.out.2 (u16_one (by omega)), ?_, hB3⟩, by simp [intOf]; omega⟩
          · have e0 := HV.out.1
            rw [vd_append, vd_one, pd_succ, HL.out, vd_take_succ, vd_take_succ]
            simp only [Int.mul_add, Int.mul_sub] at e0 ⊢
            omega
          · rw [List.map_append]
            exact hown3
        · go_wp2_with (refine wpList_append_lies _ rfl _ _ 60 rfl w.heap.size 3 i0 (.int .i64 0) 1 8 Tryz.underlying60 hi hz0 hz1 hz2 rfl (by decide) u5 k (ds.map (Value.int .i64)) rfl (HO.out.alloc _) ⟨wr.heap.size, 0, none⟩ 1 1 [.int .i64 (gx xs k - c - gx ys k)] rfl rfl ?_ (fun x hx => by simp at hx; subst hx; rfl) (by decide) (by unfold maxLen; omega) (by omega) (by have := hBr.size; simp; omega) _ rfl ?_; exact World.news_of_block (heap_alloc_new wr _); intro g cap w3 hown3 hgrow3 hat3 hlt3; have hB3 : Below w.heap.size w w3 := (bel_alw hBr).grown hgrow3 (by have := hBr.size; simp; omega) (fun q hq => (HO.out.lt q hq).1))
          refine ⟨⟨k + 1, 0, ds ++ [gx xs k - c - gx ys k], by omega, by go_num, rfl, by decide, by decide, by have := HL.out; simp; omega, ?_, u16_append HV.out.2 (u16_one (by omega)), ?_, hB3⟩, by simp [intOf]; omega⟩
          · have e0 := HV.out.1
            rw [vd_append, vd_one, pd_succ, HL.out, vd_take_succ, vd_take_succ]
            simp only [Int.mul_add, Int.mul_sub] at e0 ⊢
            omega
          · rw [List.map_append]
            exact hown3
      · have h2I : ¬ (k : Int) < (m : Int) := by omega
        have hy0 : Hid (gx ys k = 0) := gx_past ys m (by have := HN.out; omega) k (by omega)
        by_cases h3 : gx xs k - c < 0
        · go_wp2_with (refine wpList_append_lies _ rfl _ _ 60 rfl w.heap.size 3 i0 (.int .i64 0) 1 8 Tryz.underlying60 hi hz0 hz1 hz2 rfl (by decide) u5 k (ds.map (Value.int .i64)) rfl (HO.out.alloc _) ⟨wr.heap.size, 0, none⟩ 1 1 [.int .i64 (gx xs k - c + 65536)] rfl rfl ?_ (fun x hx => by simp at hx; subst hx; rfl) (by decide) (by unfold maxLen; omega) (by omega) (by have := hBr.size; simp; omega) _ rfl ?_; exact World.news_of_block (heap_alloc_new wr _); intro g cap w3 hown3 hgrow3 hat3 hlt3; have hB3 : Below w.heap.size w w3 := (bel_alw hBr).grown hgrow3 (by have := hBr.size; simp; omega) (fun q hq => (HO.out.lt q hq).1))
          refine ⟨⟨k + 1, 1, ds ++ [gx xs k - c + 65536], by omega, by go_num, rfl, by decide, by decide, by have := HL.out; simp; omega, ?_, u16_append HV.out.2 (u16_one (by omega)), ?_, hB3⟩, by simp [intOf]; omega⟩
          · have e0 := HV.out.1
            rw [vd_append, vd_one, pd_succ, HL.out, vd_take_succ, vd_take_succ]
            rw [hy0.out]; simp only [Int.mul_add, Int.mul_sub, Int.mul_zero] at e0 ⊢
            omega
          · rw [List.map_append]
            exact hown3
        · go_wp2_with (refine wpList_append_lies _ rfl _ _ 60 rfl w.heap.size 3 i0 (.int .i64 0) 1 8 Tryz.underlying60 hi hz0 hz1 hz2 rfl (by decide) u5 k (ds.map (Value.int .i64)) rfl (HO.out.alloc _) ⟨wr.heap.size, 0, none⟩ 1 1 [.int .i64 (gx xs k - c)] rfl rfl ?_ (fun x hx => by simp at hx; subst hx; rfl) (by decide) (by unfold maxLen; omega) (by omega) (by have := hBr.size; simp; omega) _ rfl ?_; exact World.news_of_block (heap_alloc_new wr _); intro g cap w3 hown3 hgrow3 hat3 hlt3; have hB3 : Below w.heap.size w w3 := (bel_alw hBr).grown hgrow3 (by have := hBr.size; simp; omega) (fun q hq => (HO.out.lt q hq).1))
          refine ⟨⟨k + 1, 0, ds ++ [gx xs k - c], by omega, by go_num, rfl, by decide, by decide, by have := HL.out; simp; omega, ?_, u16_append HV.out.2 (u16_one (by omega)), ?_, hB3⟩, by simp [intOf]; omega⟩
          · have e0 := HV.out.1
            rw [vd_append, vd_one, pd_succ, HL.out, vd_take_succ, vd_take_succ]
            rw [hy0.out]; simp only [Int.mul_add, Int.mul_sub, Int.mul_zero] at e0 ⊢
            omega
          · rw [List.map_append]
            exact hown3
    · have h1I : ¬ (k : Int) < (n : Int) := by omega
      obtain rfl : k = n := by omega
      have hform : ∃ q' cap, u5 = .slice q' k cap ∧ k ≤ cap ∧ cap ≤ maxLen ∧ Rd wr q' .i64 ds ∧ Go.Proofs.YtcdfckjlmifjiaaGreat.From w.heap.size q' := by
        have hown := HO.out
        rcases hown.2 with ⟨h1, h2⟩ | ⟨g, cap, cur, h1, hbg, _, h4, h5, _⟩
        · refine ⟨none, 0, by rw [h1, h2], by omega, Nat.zero_le _, ?_, from_none⟩
          have : ds = [] := List.eq_nil_of_length_eq_zero (by have := HL.out; omega)
          rw [this]; exact Rd.nil
        · subst h1
          exact ⟨_, cap, rfl, h4, h5, rd_owns hown, from_new hbg⟩
      obtain ⟨q', cap, rfl, hq1, hq2, hq3, hq4⟩ := hform
      go_wp2
      go_ret
      have e0 := HV.out.1
      rw [List.take_of_length_le (by have := HN.out; omega), List.take_of_length_le (by have := HN.out; omega)] at e0
      have hl := vd_lt HV.out.2
      rw [HL.out] at hl
      have hcz : c = 0 := by
        rcases (show c = 0 ∨ c = 1 by omega) with h | h
        · exact h
        · rw [h, Int.mul_one] at e0; omega
      rw [hcz, Int.mul_zero, Int.sub_zero] at e0
      exact ⟨q', k, cap, ds, rfl, HL.out, hq1, hq2, hq3, HV.out.2, e0, Nat.le_refl _, hq4, hBr⟩

end Go.Proofs.YtcdfckjlmifjiaaGreat
