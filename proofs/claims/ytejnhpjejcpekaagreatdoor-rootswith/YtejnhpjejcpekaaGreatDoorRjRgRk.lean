/-
  ashlarref1.sub.
-/
import Derived.Test.YtejnhpjejcpekaaGreatDoorRmRpDkDlDbRi
import Derived.Test.YtejnhpjejcpekaaGreatDoorRfRhCqRrRw
namespace Go.Proofs.YtejnhpjejcpekaaGreatDoor
open Go.RowKit
set_option linter.unusedVariables false
set_option linter.unusedSimpArgs false
set_option maxHeartbeats 8000000
set_option maxRecDepth 100000 in
theorem rsub_any (p q : Option Addr) (n nc m mc : Nat) (xs ys : List Int) (w : World) (hn : xs.length = n) (hm : ys.length = m) (hnb : n ≤ 1000000) (hmn : m ≤ n) (hge : vd ys ≤ vd xs)
    (hX : Rd w p .i64 xs) (hXu : U16 xs) (hY : Rd w q .i64 ys) (hYu : U16 ys) :
    Calls Tryz.prog 105 #[.slice p n nc, .slice q m mc] w (DAns n (vd xs - vd ys) w) := by
  obtain ⟨i0, hi, hzz⟩ := Option.map_eq_some_iff.1 info_int
  simp only [Prod.mk.injEq] at hzz
  obtain ⟨hz0, hz1, hz2⟩ := hzz
  have HI : Hid (Tryz.prog.info? 3 = some i0 ∧ i0.zero = some (.int .i64 0) ∧ i0.size = 1 ∧ i0.bytes = 8) := ⟨hi, hz0, hz1, hz2⟩
  clear hi hz0 hz1 hz2
  have HN : Hid (xs.length = n ∧ ys.length = m) := ⟨hn, hm⟩
  clear hn hm
  go_enter Tryz.func105, Tryz.ntmps105
  go_wp2
  go_loopw [5, 6, 7, 8] (fun dv cv iv nv wr => ∃ (k : Nat) (c : Int) (ds : List Int), k ≤ n ∧ iv = .int .i64 k ∧ cv = .int .i64 c ∧ 0 ≤ c ∧ c ≤ 1 ∧ ds.length = k ∧ Hid (vd ds - pd k * c = vd (xs.take k) - vd (ys.take k) ∧ U16 ds ∧ wr.ownsRow w.heap.size 3 1 dv k (ds.map (Value.int .i64)) ∧ Below w.heap.size w wr)) (fun _ _ iv _ _ => n - (intOf iv).toNat)
  case atStart => exact ⟨0, 0, [], Nat.zero_le _, rfl, rfl, by decide, by decide, rfl, by simp [vd], u16_nil, World.ownsRow_nil _ _ _ _, Below.refl _ _⟩
  case round =>
    obtain ⟨k, c, ds, hk, rfl, rfl, hc0, hc1, hkl, H⟩ := hrel
    have hBr := H.out.2.2.2
    have HV : Hid (vd ds - pd k * c = vd (xs.take k) - vd (ys.take k) ∧ U16 ds) := ⟨H.out.1, H.out.2.1⟩
    have HO : Hid (wr.ownsRow w.heap.size 3 1 u5 k (ds.map (Value.int .i64))) := H.out.2.2.1
    have HL : Hid (ds.length = k) := hkl
    clear H hkl
    obtain ⟨x0, x1⟩ := hXu k
    obtain ⟨y0, y1⟩ := hYu k
    obtain ⟨hi, hz0, hz1, hz2⟩ := HI.out
    by_cases h1 : k < n
    · have h1I : (k : Int) < (n : Int) := by omega
      obtain ⟨b, off, rfl, hcell⟩ := (hX.below hBr) (by have := HN.out; omega)
      have hck := hcell k (by have := HN.out; omega)
      clear hcell
      by_cases h2 : k < m
      · have h2I : (k : Int) < (m : Int) := by omega
        obtain ⟨b2, off2, rfl, hcell⟩ := (hY.below hBr) (by have := HN.out; omega)
        have hck2 := hcell k (by have := HN.out; omega)
        clear hcell
        by_cases h3 : gx xs k - c - gx ys k < 0
        · go_wp2_with (refine wpList_append_lies _ rfl _ _ 32 rfl w.heap.size 3 i0 (.int .i64 0) 1 8 Tryz.underlying32 hi hz0 hz1 hz2 rfl (by decide) u5 k (ds.map (Value.int .i64)) rfl (HO.out.alloc _) ⟨wr.heap.size, 0, none⟩ 1 1 [.int .i64 (gx xs k - c - gx ys k + 65536)] rfl rfl ?_ (fun x hx => by simp at hx; subst hx; rfl) (by decide) (by unfold maxLen; omega) (by omega) (by have := hBr.size; simp; omega) _ rfl ?_; exact World.news_of_block (heap_alloc_new wr _); intro g cap w3 hown3 hgrow3 hat3 hlt3; have hB3 : Below w.heap.size w w3 := (bel_alw hBr).grown hgrow3 (by have := hBr.size; simp; omega) (fun q hq => (HO.out.lt q hq).1))
          refine ⟨⟨k + 1, 1, ds ++ [gx xs k - c - gx ys k + 65536], by omega, by go_num, rfl, by decide, by decide, by have := HL.out; simp; omega, ?_, u16_append HV.out.2 (u16_one (by omega)), ?_, hB3⟩, by simp [intOf]; omega⟩
          · have e0 := HV.out.1
            rw [vd_append, vd_one, pd_succ, HL.out, vd_take_succ, vd_take_succ]
            simp only [Int.mul_add, Int.mul_sub] at e0 ⊢
            omega
          · rw [List.map_append]
            exact hown3
        · go_wp2_with (refine wpList_append_lies _ rfl _ _ 32 rfl w.heap.size 3 i0 (.int .i64 0) 1 8 Tryz.underlying32 hi hz0 hz1 hz2 rfl (by decide) u5 k (ds.map (Value.int .i64)) rfl (HO.out.alloc _) ⟨wr.heap.size, 0, none⟩ 1 1 [.int .i64 (gx xs k - c - gx ys k)] rfl rfl ?_ (fun x hx => by simp at hx; subst hx; rfl) (by decide) (by unfold maxLen; omega) (by omega) (by have := hBr.size; simp; omega) _ rfl ?_; exact World.news_of_block (heap_alloc_new wr _); intro g cap w3 hown3 hgrow3 hat3 hlt3; have hB3 : Below w.heap.size w w3 := (bel_alw hBr).grown hgrow3 (by have := hBr.size; simp; omega) (fun q hq => (HO.out.lt q hq).1))
          refine ⟨⟨k + 1, 0, ds ++ [gx xs k - c - gx ys k], by omega, by go_num, rfl, by decide, by decide, by have := HL.out; simp; omega, ?_, u16_append HV.out.2 (u16_one (by omega)), ?_, hB3⟩, by simp [intOf]; omega⟩
          · have e0 := HV.out.1
            rw [vd_append, vd_one, pd_succ, HL.out, vd_take_succ, vd_take_succ]
            simp only [Int.mul_add, Int.mul_sub] at e0 ⊢
            omega
          · rw [List.map_append]
            exact hown3
      · have h2I : ¬ (k : Int) < (m : Int) := by omega
        have hy0 : Hid (gx ys k = 0) := gx_past ys m (by have := HN.out; omega) k (by omega)
        by_cases h3 : gx xs k - c < 0
        · go_wp2_with (refine wpList_append_lies _ rfl _ _ 32 rfl w.heap.size 3 i0 (.int .i64 0) 1 8 Tryz.underlying32 hi hz0 hz1 hz2 rfl (by decide) u5 k (ds.map (Value.int .i64)) rfl (HO.out.alloc _) ⟨wr.heap.size, 0, none⟩ 1 1 [.int .i64 (gx xs k - c + 65536)] rfl rfl ?_ (fun x hx => by simp at hx; subst hx; rfl) (by decide) (by unfold maxLen; omega) (by omega) (by have := hBr.size; simp; omega) _ rfl ?_; exact World.news_of_block (heap_alloc_new wr _); intro g cap w3 hown3 hgrow3 hat3 hlt3; have hB3 : Below w.heap.size w w3 := (bel_alw hBr).grown hgrow3 (by have := hBr.size; simp; omega) (fun q hq => (HO.out.lt q hq).1))
          refine ⟨⟨k + 1, 1, ds ++ [gx xs k - c + 65536], by omega, by go_num, rfl, by decide, by decide, by have := HL.out; simp; omega, ?_, u16_append HV.out.2 (u16_one (by omega)), ?_, hB3⟩, by simp [intOf]; omega⟩
          · have e0 := HV.out.1
            rw [vd_append, vd_one, pd_succ, HL.out, vd_take_succ, vd_take_succ]
            rw [hy0.out]; simp only [Int.mul_add, Int.mul_sub, Int.mul_zero] at e0 ⊢
            omega
          · rw [List.map_append]
            exact hown3
        · go_wp2_with (refine wpList_append_lies _ rfl _ _ 32 rfl w.heap.size 3 i0 (.int .i64 0) 1 8 Tryz.underlying32 hi hz0 hz1 hz2 rfl (by decide) u5 k (ds.map (Value.int .i64)) rfl (HO.out.alloc _) ⟨wr.heap.size, 0, none⟩ 1 1 [.int .i64 (gx xs k - c)] rfl rfl ?_ (fun x hx => by simp at hx; subst hx; rfl) (by decide) (by unfold maxLen; omega) (by omega) (by have := hBr.size; simp; omega) _ rfl ?_; exact World.news_of_block (heap_alloc_new wr _); intro g cap w3 hown3 hgrow3 hat3 hlt3; have hB3 : Below w.heap.size w w3 := (bel_alw hBr).grown hgrow3 (by have := hBr.size; simp; omega) (fun q hq => (HO.out.lt q hq).1))
          refine ⟨⟨k + 1, 0, ds ++ [gx xs k - c], by omega, by go_num, rfl, by decide, by decide, by have := HL.out; simp; omega, ?_, u16_append HV.out.2 (u16_one (by omega)), ?_, hB3⟩, by simp [intOf]; omega⟩
          · have e0 := HV.out.1
            rw [vd_append, vd_one, pd_succ, HL.out, vd_take_succ, vd_take_succ]
            rw [hy0.out]; simp only [Int.mul_add, Int.mul_sub, Int.mul_zero] at e0 ⊢
            omega
          · rw [List.map_append]
            exact hown3
    · have h1I : ¬ (k : Int) < (n : Int) := by omega
      obtain rfl : k = n := by omega
      have hform : ∃ q' cap, u5 = .slice q' k cap ∧ k ≤ cap ∧ cap ≤ maxLen ∧ Rd wr q' .i64 ds ∧ Go.Proofs.YtejnhpjejcpekaaGreatDoor.From w.heap.size q' := by
        have hown := HO.out
        rcases hown.2 with ⟨h1, h2⟩ | ⟨g, cap, cur, h1, hbg, _, h4, h5, _⟩
        · refine ⟨none, 0, by rw [h1, h2], by omega, Nat.zero_le _, ?_, from_none⟩
          have : ds = [] := List.eq_nil_of_length_eq_zero (by have := HL.out; omega)
          rw [this]; exact Rd.nil
        · subst h1
          exact ⟨_, cap, rfl, h4, h5, rd_owns hown, from_new hbg⟩
      obtain ⟨q', cap, rfl, hq1, hq2, hq3, hq4⟩ := hform
      go_wp2
      go_ret
      have e0 := HV.out.1
      rw [List.take_of_length_le (by have := HN.out; omega), List.take_of_length_le (by have := HN.out; omega)] at e0
      have hl := vd_lt HV.out.2
      rw [HL.out] at hl
      have hcz : c = 0 := by
        rcases (show c = 0 ∨ c = 1 by omega) with h | h
        · exact h
        · rw [h, Int.mul_one] at e0; omega
      rw [hcz, Int.mul_zero, Int.sub_zero] at e0
      exact ⟨q', k, cap, ds, rfl, HL.out, hq1, hq2, hq3, HV.out.2, e0, Nat.le_refl _, hq4, hBr⟩
theorem rcmp_any (p q : Option Addr) (n nc m mc : Nat) (xs ys : List Int) (w : World) (hn : xs.length = n) (hm : ys.length = m) (hnb : n ≤ 1000000000) (hmb : m ≤ 1000000000) (tx : tlen xs = n) (ty : tlen ys = m)
    (hX : Rd w p .i64 xs) (hXu : U16 xs) (hY : Rd w q .i64 ys) (hYu : U16 ys) :
    Calls Tryz.prog 104 #[.slice p n nc, .slice q m mc] w fun e w' => e = .returned (.int .i64 (icmp (vd xs) (vd ys))) ∧ Below w.heap.size w w' := by
  by_cases hne : n = m
  · subst hne
    have hb : ((n : Int) != (n : Int)) = false := by simp
    go_enter Tryz.func104, Tryz.ntmps104
    go_wp2_with fail
    go_loopw [5] (fun iv wr => ∃ k : Nat, k ≤ n ∧ iv = .int .i64 ((k : Int) - 1) ∧ Hid (xs.drop k = ys.drop k ∧ Below w.heap.size w wr)) (fun iv _ => (intOf iv + 1).toNat)
    case atStart =>
      refine ⟨n, Nat.le_refl _, by go_num, ?_, Below.refl _ _⟩
      rw [List.drop_of_length_le (by omega), List.drop_of_length_le (by omega)]
    case round =>
      obtain ⟨k, hk, rfl, H⟩ := hrel
      by_cases h0 : k = 0
      · subst h0
        go_wp2
        go_ret
        obtain ⟨hd, hb⟩ := H.out
        rw [List.drop_zero, List.drop_zero] at hd
        rw [hd, icmp_eq]
        exact ⟨rfl, hb⟩
      · obtain ⟨j, rfl⟩ : ∃ j, k = j + 1 := ⟨k - 1, by omega⟩
        have ej : ((j + 1 : Nat) : Int) - 1 = (j : Int) := by omega
        rw [ej]
        clear ej
        obtain ⟨hd, hb⟩ := H.out
        obtain ⟨b1, o1, rfl, hc1⟩ := (hX.below hb) (by omega)
        obtain ⟨b2, o2, rfl, hc2⟩ := (hY.below hb) (by omega)
        have g1 := hc1 j (by omega)
        have g2 := hc2 j (by omega)
        clear hc1 hc2 hd hb
        rcases Int.lt_trichotomy (gx xs j) (gx ys j) with hc | hc | hc
        · go_wp2
          go_quiet (fail)
          have hB := below_drewN H.out.2 nq
          generalize wr.drewN nq = wq at *
          go_wp2
          go_ret
          obtain ⟨hd, hb⟩ := H.out
          rw [icmp_lt (vd_lt_at hXu hYu j (by omega) (by omega) hd hc)]
          exact ⟨rfl, hB⟩
        · have hc1 : ¬ gx xs j < gx ys j := by omega
          have hc2 : ¬ gx ys j < gx xs j := by omega
          have HC : Hid (gx xs j = gx ys j) := hc
          clear hc
          go_wp2
          go_quiet (fail)
          have hB := below_drewN H.out.2 nq
          have e1 : (wr.drewN nq).cell? ⟨b1, o1 + j, none⟩ = some (.int .i64 (gx xs j)) := g1
          have e2 : (wr.drewN nq).cell? ⟨b2, o2 + j, none⟩ = some (.int .i64 (gx ys j)) := g2
          generalize wr.drewN nq = wq at *
          go_wp2
          go_quiet (fail)
          go_wp2
          obtain ⟨hd, hb⟩ := H.out
          refine ⟨⟨j, by omega, by go_num, drop_step j (by omega) (by omega) hd HC.out, below_drewN hB _⟩, by simp [intOf]⟩
        · have hc1 : ¬ gx xs j < gx ys j := by omega
          go_wp2
          go_quiet (fail)
          have hB := below_drewN H.out.2 nq
          have e1 : (wr.drewN nq).cell? ⟨b1, o1 + j, none⟩ = some (.int .i64 (gx xs j)) := g1
          have e2 : (wr.drewN nq).cell? ⟨b2, o2 + j, none⟩ = some (.int .i64 (gx ys j)) := g2
          generalize wr.drewN nq = wq at *
          go_wp2
          go_quiet (fail)
          go_wp2
          go_ret
          obtain ⟨hd, hb⟩ := H.out
          rw [icmp_gt (vd_lt_at hYu hXu j (by omega) (by omega) hd.symm hc)]
          exact ⟨rfl, below_drewN hB _⟩
  · have hb : ((n : Int) != (m : Int)) = true := by rw [bne_iff_ne]; omega
    rcases Nat.lt_or_ge n m with h | h
    · have h1 : (n : Int) < (m : Int) := by omega
      go_enter Tryz.func104, Tryz.ntmps104
      go_wp2
      go_ret
      rw [icmp_lt (vd_lt_len hXu hYu (by omega))]
      exact ⟨rfl, Below.refl _ _⟩
    · have h1 : ¬ (n : Int) < (m : Int) := by omega
      go_enter Tryz.func104, Tryz.ntmps104
      go_wp2
      go_ret
      rw [icmp_gt (vd_lt_len hYu hXu (by omega))]
      exact ⟨rfl, Below.refl _ _⟩
set_option maxRecDepth 100000 in
theorem rAdd_same (s : Bool) (p q : Option Addr) (n nc m mc : Nat) (xs ys : List Int) (w : World) (hn : xs.length = n) (hm : ys.length = m) (hnb : n ≤ 1000000) (hmb : m ≤ 1000000) (hX : Rd w p .i64 xs) (hXu : U16 xs) (hY : Rd w q .i64 ys) (hYu : U16 ys) :
    Calls Tryz.prog 45 #[.agg #[.bool s, .slice p n nc], .agg #[.bool s, .slice q m mc]] w (RAns (n + m + 1) (rval s xs + rval s ys) w) := by
  have hss : (s == s) = true := by simp
  have HN : Hid (xs.length = n ∧ ys.length = m) := ⟨hn, hm⟩
  clear hn hm
  go_enter Tryz.func45, Tryz.ntmps45
  go_wp2_with fail
  have hX3 := boxes3' w (.bool s) (.slice p n nc) (.bool s) (.slice q m mc) (.bool false) (.slice none 0 0) 34 34 34
  generalize ((w.alloc (Obj.cells #[Value.bool s, Value.slice p n nc] 34)).alloc (Obj.cells #[Value.bool s, Value.slice q m mc] 34)).alloc (Obj.cells #[Value.bool false, Value.slice none 0 0] 34) = W at *
  have hXW := hX.below hX3.below
  have hYW := hY.below hX3.below
  have k0 := hX3.ca0
  have k1 := hX3.ca1
  have k2 := hX3.cb0
  have k3 := hX3.cb1
  go_region_held3 (fun w' => w'.cell? ⟨w.heap.size, 0, none⟩ = some (.bool s) ∧ w'.cell? ⟨w.heap.size, 1, none⟩ = some (.slice p n nc) ∧ w'.cell? ⟨w.heap.size + 1, 0, none⟩ = some (.bool s) ∧ w'.cell? ⟨w.heap.size + 1, 1, none⟩ = some (.slice q m mc)) (first | exact ⟨by assumption, by assumption, by assumption, by assumption⟩ | exact keepc4 (by assumption) (by assumption) | (simp [go_sem, *]; done))
    (first
      | (go_at_call 103; obtain ⟨hn, hm⟩ := HN.out; refine (radd_any p q n nc m mc xs ys _ hn hm hnb hmb hXW.drew hXu hYW.drew hYu).mono ?_; clear hn hm; rintro e w1 ⟨q1, n1, c1, D, rfl, hl1, hc1, hc2, hR1, hU1, hv1, hn1, hF1, hb1⟩; have HV1 : Hid (D.length = n1 ∧ vd D = vd xs + vd ys) := ⟨hl1, hv1⟩; clear hl1 hv1)
      | (go_at_call 44; refine (rtrim_any s q1 n1 c1 D _ HV1.out.1 hc1 hc2 hR1).mono ?_; rintro e w2 ⟨rfl, hb2⟩; obtain ⟨c0', c1', f0, f1⟩ := resbox (bnext' (undrew hb1) hb2) hX3.cr0 hX3.cr1 hX3.fr0 hX3.fr1))
  go_wp2
  have hsz := hX3.size
  refine bodyPost_ret (v := .agg #[.bool (nsg s D), .slice q1 (tlen D) (tlen D)]) (by simp [results, Tryz.results45, go_sem, c0', c1']) rfl ?_
  exact end_rn2 hX3.below (r := w.heap.size + 1 + 1) (by omega) (by omega) (undrew hb1) hb2 hR1 hF1 hU1 (by have := HV1.out.1; omega) (by omega) (by rw [rval, HV1.out.2, rval, rval]; cases s <;> simp <;> omega)
set_option maxRecDepth 100000 in
theorem rAdd_ge (s : Bool) (p q : Option Addr) (n nc m mc : Nat) (xs ys : List Int) (w : World) (hn : xs.length = n) (hm : ys.length = m) (hnb : n ≤ 1000000) (hmb : m ≤ 1000000) (tx : tlen xs = n) (ty : tlen ys = m) (hX : Rd w p .i64 xs) (hXu : U16 xs) (hY : Rd w q .i64 ys) (hYu : U16 ys) (hge : vd ys ≤ vd xs) :
    Calls Tryz.prog 45 #[.agg #[.bool s, .slice p n nc], .agg #[.bool (!s), .slice q m mc]] w (RAns (n + m + 1) (rval s xs + rval (!s) ys) w) := by
  have hss : (s == !s) = false := by cases s <;> rfl
  have hic : 0 ≤ icmp (vd xs) (vd ys) := by
    rw [icmp, if_neg (by omega)]; split <;> decide
  have hmn : m ≤ n := by
    rcases Nat.lt_or_ge n m with h | h
    · have := vd_lt_len hXu hYu (by omega); omega
    · exact h
  have HN : Hid ((xs.length = n ∧ ys.length = m) ∧ tlen xs = n ∧ tlen ys = m) := ⟨⟨hn, hm⟩, tx, ty⟩
  clear hn hm tx ty
  go_enter Tryz.func45, Tryz.ntmps45
  go_wp2_with fail
  have hX0 := boxes3' w (.bool s) (.slice p n nc) (.bool (!s)) (.slice q m mc) (.bool false) (.slice none 0 0) 34 34 34
  generalize ((w.alloc (Obj.cells #[Value.bool s, Value.slice p n nc] 34)).alloc (Obj.cells #[Value.bool !s, Value.slice q m mc] 34)).alloc (Obj.cells #[Value.bool false, Value.slice none 0 0] 34) = W0 at *
  refine (rcmp_any p q n nc m mc xs ys _ HN.out.1.1 HN.out.1.2 (by omega) (by omega) HN.out.2.1 HN.out.2.2 (hX.below hX0.below) hXu (hY.below hX0.below) hYu).mono ?_
  rintro e W ⟨rfl, hb0⟩
  have hX3 := hX0.later hb0
  clear hX0 hb0 W0
  have hXW := hX.below hX3.below
  have hYW := hY.below hX3.below
  have k0 := hX3.ca0
  have k1 := hX3.ca1
  have k2 := hX3.cb0
  have k3 := hX3.cb1
  go_wp2_with fail
  go_region_held3 (fun w' => w'.cell? ⟨w.heap.size, 0, none⟩ = some (.bool s) ∧ w'.cell? ⟨w.heap.size, 1, none⟩ = some (.slice p n nc) ∧ w'.cell? ⟨w.heap.size + 1, 0, none⟩ = some (.bool (!s)) ∧ w'.cell? ⟨w.heap.size + 1, 1, none⟩ = some (.slice q m mc)) (first | exact ⟨by assumption, by assumption, by assumption, by assumption⟩ | exact keepc4 (by assumption) (by assumption) | (simp [go_sem, *]; done))
    (first
      | (go_at_call 105; obtain ⟨⟨hn, hm⟩, tx, ty⟩ := HN.out; refine (rsub_any p q n nc m mc xs ys _ hn hm hnb hmn hge hXW.drew hXu hYW.drew hYu).mono ?_; clear hn hm tx ty; rintro e w1 ⟨q1, n1, c1, D, rfl, hl1, hc1, hc2, hR1, hU1, hv1, hn1, hF1, hb1⟩; have HV1 : Hid (D.length = n1 ∧ vd D = vd xs - vd ys) := ⟨hl1, hv1⟩; clear hl1 hv1)
      | (go_at_call 44; refine (rtrim_any s q1 n1 c1 D _ HV1.out.1 hc1 hc2 hR1).mono ?_; rintro e w2 ⟨rfl, hb2⟩; obtain ⟨c0', c1', f0, f1⟩ := resbox (bnext' (undrew hb1) hb2) hX3.cr0 hX3.cr1 hX3.fr0 hX3.fr1))
  go_wp2
  have hsz := hX3.size
  refine bodyPost_ret (v := .agg #[.bool (nsg s D), .slice q1 (tlen D) (tlen D)]) (by simp [results, Tryz.results45, go_sem, c0', c1']) rfl ?_
  exact end_rn2 hX3.below (r := w.heap.size + 1 + 1) (by omega) (by omega) (undrew hb1) hb2 hR1 hF1 hU1 (by have := HV1.out.1; omega) (by omega) (by rw [rval, HV1.out.2, rval, rval]; cases s <;> simp <;> omega)
set_option maxRecDepth 100000 in
theorem rAdd_lt (s : Bool) (p q : Option Addr) (n nc m mc : Nat) (xs ys : List Int) (w : World) (hn : xs.length = n) (hm : ys.length = m) (hnb : n ≤ 1000000) (hmb : m ≤ 1000000) (tx : tlen xs = n) (ty : tlen ys = m) (hX : Rd w p .i64 xs) (hXu : U16 xs) (hY : Rd w q .i64 ys) (hYu : U16 ys) (hge : vd xs < vd ys) :
    Calls Tryz.prog 45 #[.agg #[.bool s, .slice p n nc], .agg #[.bool (!s), .slice q m mc]] w (RAns (n + m + 1) (rval s xs + rval (!s) ys) w) := by
  have hss : (s == !s) = false := by cases s <;> rfl
  have hic : ¬ 0 ≤ icmp (vd xs) (vd ys) := by
    rw [icmp_lt hge]; decide
  have hmn : n ≤ m := by
    rcases Nat.lt_or_ge m n with h | h
    · have := vd_lt_len hYu hXu (by omega); omega
    · exact h
  have HN : Hid ((xs.length = n ∧ ys.length = m) ∧ tlen xs = n ∧ tlen ys = m) := ⟨⟨hn, hm⟩, tx, ty⟩
  clear hn hm tx ty
  go_enter Tryz.func45, Tryz.ntmps45
  go_wp2_with fail
  have hX0 := boxes3' w (.bool s) (.slice p n nc) (.bool (!s)) (.slice q m mc) (.bool false) (.slice none 0 0) 34 34 34
  generalize ((w.alloc (Obj.cells #[Value.bool s, Value.slice p n nc] 34)).alloc (Obj.cells #[Value.bool !s, Value.slice q m mc] 34)).alloc (Obj.cells #[Value.bool false, Value.slice none 0 0] 34) = W0 at *
  refine (rcmp_any p q n nc m mc xs ys _ HN.out.1.1 HN.out.1.2 (by omega) (by omega) HN.out.2.1 HN.out.2.2 (hX.below hX0.below) hXu (hY.below hX0.below) hYu).mono ?_
  rintro e W ⟨rfl, hb0⟩
  have hX3 := hX0.later hb0
  clear hX0 hb0 W0
  have hXW := hX.below hX3.below
  have hYW := hY.below hX3.below
  have k0 := hX3.ca0
  have k1 := hX3.ca1
  have k2 := hX3.cb0
  have k3 := hX3.cb1
  go_wp2_with fail
  go_region_held3 (fun w' => w'.cell? ⟨w.heap.size, 0, none⟩ = some (.bool s) ∧ w'.cell? ⟨w.heap.size, 1, none⟩ = some (.slice p n nc) ∧ w'.cell? ⟨w.heap.size + 1, 0, none⟩ = some (.bool (!s)) ∧ w'.cell? ⟨w.heap.size + 1, 1, none⟩ = some (.slice q m mc)) (first | exact ⟨by assumption, by assumption, by assumption, by assumption⟩ | exact keepc4 (by assumption) (by assumption) | (simp [go_sem, *]; done))
    (first
      | (go_at_call 105; obtain ⟨⟨hn, hm⟩, tx, ty⟩ := HN.out; refine (rsub_any q p m mc n nc ys xs _ hm hn hmb hmn (by omega) hYW.drew hYu hXW.drew hXu).mono ?_; clear hn hm tx ty; rintro e w1 ⟨q1, n1, c1, D, rfl, hl1, hc1, hc2, hR1, hU1, hv1, hn1, hF1, hb1⟩; have HV1 : Hid (D.length = n1 ∧ vd D = vd ys - vd xs) := ⟨hl1, hv1⟩; clear hl1 hv1)
      | (go_at_call 44; refine (rtrim_any (!s) q1 n1 c1 D _ HV1.out.1 hc1 hc2 hR1).mono ?_; rintro e w2 ⟨rfl, hb2⟩; obtain ⟨c0', c1', f0, f1⟩ := resbox (bnext' (undrew hb1) hb2) hX3.cr0 hX3.cr1 hX3.fr0 hX3.fr1))
  go_wp2
  have hsz := hX3.size
  refine bodyPost_ret (v := .agg #[.bool (nsg (!s) D), .slice q1 (tlen D) (tlen D)]) (by simp [results, Tryz.results45, go_sem, c0', c1']) rfl ?_
  exact end_rn2 hX3.below (r := w.heap.size + 1 + 1) (by omega) (by omega) (undrew hb1) hb2 hR1 hF1 hU1 (by have := HV1.out.1; omega) (by omega) (by rw [rval, HV1.out.2, rval, rval]; cases s <;> simp <;> omega)
theorem rAdd_rn {w : World} {s t : Bool} {p q : Option Addr} {n m : Nat} {xs ys : List Int} (h : RN w s p n xs) (k : RN w t q m ys) (hn : n ≤ 1000000) (hm : m ≤ 1000000) :
    Calls Tryz.prog 45 #[.agg #[.bool s, .slice p n n], .agg #[.bool t, .slice q m m]] w (RAns (n + m + 1) (rval s xs + rval t ys) w) := by
  by_cases e : s = t
  · subst e; exact rAdd_same s p q n n m m xs ys w h.len k.len hn hm h.rd h.u k.rd k.u
  · have : t = !s := by cases s <;> cases t <;> simp_all
    subst this
    rcases Int.lt_or_le (vd xs) (vd ys) with hv | hv
    · exact rAdd_lt s p q n n m m xs ys w h.len k.len hn hm h.nrm k.nrm h.rd h.u k.rd k.u hv
    · exact rAdd_ge s p q n n m m xs ys w h.len k.len hn hm h.nrm k.nrm h.rd h.u k.rd k.u hv
end Go.Proofs.YtejnhpjejcpekaaGreatDoor
