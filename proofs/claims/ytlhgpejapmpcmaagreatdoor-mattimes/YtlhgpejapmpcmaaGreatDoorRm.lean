/-
  ashlarref1.Mul.
-/
import Derived.Test.YtlhgpejapmpcmaaGreatDoorRbCyVi
namespace Go.Proofs.YtlhgpejapmpcmaaGreatDoor
open Go.RowKit
set_option linter.unusedVariables false
set_option linter.unusedSimpArgs false

theorem mul_bd16 {v x : Int} (h1 : 0 ≤ v ∧ v < 65536) (h2 : 0 ≤ x ∧ x < 65536) : 0 ≤ v * x ∧ v * x ≤ 4294836225 := by
  refine ⟨Int.mul_nonneg h1.1 h2.1, ?_⟩
  have a1 : v * x ≤ v * 65535 := Int.mul_le_mul_of_nonneg_left (by omega) h1.1
  omega
theorem mul_lt_pd {a b : List Int} {i j : Nat} (ha : U16 a) (hb : U16 b) (hi : a.length ≤ i) (hj : b.length ≤ j) : vd a * vd b < pd (i + j) := by
  have a1 := vd_lt ha
  have b1 := vd_lt hb
  have a0 := vd_nonneg ha
  have b0 := vd_nonneg hb
  have a2 := pd_mono hi
  have b2 := pd_mono hj
  rw [pd_add]
  have c1 : vd a * vd b ≤ vd a * pd j := Int.mul_le_mul_of_nonneg_left (by omega) a0
  have c2 : vd a * pd j < pd i * pd j := Int.mul_lt_mul_of_pos_right (by omega) (pd_pos j)
  omega

set_option maxRecDepth 100000 in
set_option maxHeartbeats 4000000 in
/-- ashlarref1.Mul. -/
theorem rMul_any (s t : Bool) (p q : Option Addr) (n nc m mc : Nat) (xs ys : List Int) (w : World) (hn : xs.length = n) (hm : ys.length = m) (hnb : n ≤ 1000000) (hmb : m ≤ 1000000) (hX : Rd w p .i64 xs) (hXu : U16 xs) (hY : Rd w q .i64 ys) (hYu : U16 ys) :
    Calls Tryz.prog 33 #[.agg #[.bool s, .slice p n nc], .agg #[.bool t, .slice q m mc]] w (RAns (n + m + 1) (rval s xs * rval t ys) w) := by
  have hmk := mk_int (n + m + 1) (by omega)
  have ec : ((n + m + 1 : Nat) : Int) = (n : Int) + (m : Int) + 1 := by omega
  rw [ec] at hmk
  clear ec
  have HN : Hid (xs.length = n ∧ ys.length = m) := ⟨hn, hm⟩
  clear hn hm
  go_enter Tryz.func33, Tryz.ntmps33
  go_wp2
  have hrow := Row.new3 w (Obj.cells #[Value.bool s, Value.slice p n nc] 62) (Obj.cells #[Value.bool t, Value.slice q m mc] 62) (Obj.cells #[Value.bool false, Value.slice none 0 0] 62) 3 .i64 (zeros (n + m + 1))
  have hWs : (((w.alloc (Obj.cells #[Value.bool s, Value.slice p n nc] 62)).alloc (Obj.cells #[Value.bool t, Value.slice q m mc] 62)).alloc (Obj.cells #[Value.bool false, Value.slice none 0 0] 62)).heap.size = w.heap.size + 1 + 1 + 1 := by simp
  have hX3 := boxes3' w (.bool s) (.slice p n nc) (.bool t) (.slice q m mc) (.bool false) (.slice none 0 0) 62 62 62
  generalize ((w.alloc (Obj.cells #[Value.bool s, Value.slice p n nc] 62)).alloc (Obj.cells #[Value.bool t, Value.slice q m mc] 62)).alloc (Obj.cells #[Value.bool false, Value.slice none 0 0] 62) = W at *
  have hXW := hX.below hX3.below
  have hYW := hY.below hX3.below
  have HWs : Hid (W.heap.size = w.heap.size + 1 + 1 + 1) := hWs
  clear hWs
  have hbel : Below W.heap.size W (W.alloc (.cells (ca .i64 (zeros (n + m + 1))) 3)) := (Below.refl _ _).alloc (Nat.le_refl _) _
  generalize W.alloc (.cells (ca .i64 (zeros (n + m + 1))) 3) = W1 at *
  have HST : Hid (Row W1 (w.heap.size + 1 + 1 + 1) 3 .i64 (zeros (n + m + 1)) ∧ Below W.heap.size W W1) := ⟨hrow, hbel⟩
  clear hrow hbel hmk
  go_loopw [6] (fun iv wr => ∃ (i : Nat) (D : List Int), i ≤ n ∧ iv = .int .i64 i ∧ Hid (D.length = n + m + 1 ∧ U16 D ∧ vd D = vd (xs.take i) * vd ys ∧ Row wr (w.heap.size + 1 + 1 + 1) 3 .i64 D ∧ Below W.heap.size W wr)) (fun iv _ => n - (intOf iv).toNat)
  case atStart => exact ⟨0, zeros (n + m + 1), Nat.zero_le _, rfl, length_zeros _, u16_zeros _, by simp [vd_zero, vd], HST.out.1, HST.out.2⟩
  case round =>
    obtain ⟨i, D, hi, rfl, H⟩ := hrel
    have hXr := hX3.later H.out.2.2.2.2
    have k1 := hXr.ca1
    have k3 := hXr.cb1
    by_cases hlt : i < n
    · have hltI : (i : Int) < (n : Int) := by omega
      clear hXr
      go_wp2
      go_loopw [7, 8] (fun cv jv wr' => ∃ (j : Nat) (c : Int) (T : List Int), j ≤ m ∧ jv = .int .i64 j ∧ cv = .int .i64 c ∧ 0 ≤ c ∧ c < 65536 ∧ Hid (T.length = n + m + 1 ∧ U16 T ∧ vd T + pd (i + j) * c = vd D + pd i * (gx xs i * vd (ys.take j)) ∧ Row wr' (w.heap.size + 1 + 1 + 1) 3 .i64 T ∧ Below W.heap.size W wr')) (fun _ jv _ => m - (intOf jv).toNat)
      case atStart =>
        obtain ⟨hl, hu, hv, hr, hg⟩ := H.out
        exact ⟨0, 0, D, Nat.zero_le _, rfl, rfl, by decide, by decide, hl, hu, by simp [vd], hr, hg⟩
      case round =>
        obtain ⟨j, c, T, hj, rfl, rfl, hc0, hc1, HT⟩ := hrel
        clear k1 k3
        have hXr := hX3.later HT.out.2.2.2.2
        have k1 := hXr.ca1
        have k3 := hXr.cb1
        clear hXr
        by_cases hjm : j < m
        · have hjI : (j : Int) < (m : Int) := by omega
          have hijI : (i : Int) + (j : Int) < (n : Int) + (m : Int) + 1 := by omega
          obtain ⟨b1, o1, rfl, hc1'⟩ := (hXW.below HT.out.2.2.2.2) (by have := HN.out; omega)
          obtain ⟨b2, o2, rfl, hc2'⟩ := (hYW.below HT.out.2.2.2.2) (by have := HN.out; omega)
          have g1 := hc1' i (by have := HN.out; omega)
          have g2 := hc2' j (by have := HN.out; omega)
          have g3 := HT.out.2.2.2.1.cell (i + j) (by have := HT.out.1; omega)
          have g4 := HT.out.2.2.2.1.frozen (i + j)
          obtain ⟨bt0, bt1⟩ := HT.out.2.1 (i + j)
          obtain ⟨bm0, bm1⟩ := mul_bd16 (hXu i) (hYu j)
          obtain ⟨bx0, bx1⟩ := hXu i
          obtain ⟨by0, by1⟩ := hYu j
          have q1 : (c + (gx T (i + j) + gx xs i * gx ys j)).tmod 65536 = (c + (gx T (i + j) + gx xs i * gx ys j)) % 65536 := Int.tmod_eq_emod_of_nonneg (by omega)
          have q2 : (c + (gx T (i + j) + gx xs i * gx ys j)).tdiv 65536 = (c + (gx T (i + j) + gx xs i * gx ys j)) / 65536 := Int.tdiv_eq_ediv_of_nonneg (by omega)
          have v0 : IntKind.i64.wrap ((i : Int) + (j : Int)) = (i : Int) + (j : Int) := by rw [IntKind.wrap_i64]; omega
          have v1 : IntKind.i64.wrap (gx xs i * gx ys j) = gx xs i * gx ys j := by rw [IntKind.wrap_i64]; omega
          have v2 : IntKind.i64.wrap (gx T (i + j) + gx xs i * gx ys j) = gx T (i + j) + gx xs i * gx ys j := by rw [IntKind.wrap_i64]; omega
          have v3 : IntKind.i64.wrap (c + (gx T (i + j) + gx xs i * gx ys j)) = c + (gx T (i + j) + gx xs i * gx ys j) := by rw [IntKind.wrap_i64]; omega
          have v4 : ((i : Int) + (j : Int)).toNat = i + j := by omega
          have v5 : 0 ≤ (i : Int) + (j : Int) := by omega
          clear hc1' hc2'
          go_wp2_with fail
          go_quiet (fail)
          go_wp2_with fail
          have hsW := HWs.out
          obtain ⟨hl, hu, hv, hr, hg⟩ := HT.out
          have hr' : Row (wr.drewN nq) (w.heap.size + 1 + 1 + 1) 3 .i64 T := hr
          refine ⟨⟨j + 1, _, T.set (i + j) ((c + (gx T (i + j) + gx xs i * gx ys j)) % 65536), by omega, by go_num, rfl, by omega, by omega, by rw [List.length_set]; exact hl, u16_set hu _ (by omega), ?_, hr'.set (i + j) _, (below_drewN hg nq).setCell (by simp only; omega) _⟩, by simp [intOf]; omega⟩
          rw [vd_set T _ _ (by omega), vd_take_succ ys j, ← Nat.add_assoc, pd_succ]
          have e := cut16 (pd (i + j)) (c + (gx T (i + j) + gx xs i * gx ys j))
          have e2 : pd i * (gx xs i * (vd (List.take j ys) + pd j * gx ys j)) = pd i * (gx xs i * vd (List.take j ys)) + pd (i + j) * (gx xs i * gx ys j) := by
            rw [pd_add, Int.mul_add, Int.mul_add]
            congr 1
            simp only [Int.mul_assoc, Int.mul_left_comm]
          rw [e2]
          simp only [Int.mul_add, Int.mul_sub] at e ⊢
          omega
        · obtain rfl : j = m := by omega
          have hjI : ¬ (j : Int) < (j : Int) := by omega
          have v0 : IntKind.i64.wrap ((i : Int) + (j : Int)) = (i : Int) + (j : Int) := by rw [IntKind.wrap_i64]; omega
          go_wp2
          go_loopw [7, 9] (fun cv kv wr' => ∃ (k : Nat) (c : Int) (T : List Int), i + j ≤ k ∧ k ≤ n + j + 1 ∧ kv = .int .i64 k ∧ cv = .int .i64 c ∧ 0 ≤ c ∧ c < 65536 ∧ Hid (T.length = n + j + 1 ∧ U16 T ∧ vd T + pd k * c = vd (xs.take (i + 1)) * vd ys ∧ Row wr' (w.heap.size + 1 + 1 + 1) 3 .i64 T ∧ Below W.heap.size W wr')) (fun _ kv _ => n + j + 1 - (intOf kv).toNat)
          case atStart =>
            obtain ⟨hl, hu, hv, hr, hg⟩ := HT.out
            refine ⟨i + j, c, T, Nat.le_refl _, by omega, by go_num, rfl, hc0, hc1, hl, hu, ?_, hr, hg⟩
            rw [hv, H.out.2.2.1, List.take_of_length_le (l := ys) (by have := HN.out; omega), vd_take_succ, Int.add_mul, Int.mul_assoc]
          case round =>
            obtain ⟨k, c2, T2, hk1, hk2, rfl, rfl, hd0, hd1, HT2⟩ := hrel
            by_cases hc : 0 < c2
            · have hkL : k < n + j + 1 := by
                rcases Nat.lt_or_ge k (n + j + 1) with h | h
                · exact h
                · exfalso
                  obtain ⟨hl, hu, hv, hr, hg⟩ := HT2.out
                  have e1 := mul_lt_pd (i := n) (j := j) (u16_take hXu (i + 1)) hYu (by have := HN.out; simp; omega) (by have := HN.out; omega)
                  have e2 : pd (n + j) ≤ pd k := pd_mono (by omega)
                  have e3 := vd_nonneg hu
                  have e4 : pd k * 1 ≤ pd k * c2 := Int.mul_le_mul_of_nonneg_left (by omega) (Int.le_of_lt (pd_pos k))
                  omega
              have hkI : (k : Int) < (n : Int) + (j : Int) + 1 := by omega
              have g3 := HT2.out.2.2.2.1.cell k (by have := HT2.out.1; omega)
              have g4 := HT2.out.2.2.2.1.frozen k
              obtain ⟨bt0, bt1⟩ := HT2.out.2.1 k
              have q1 : (c2 + gx T2 k).tmod 65536 = (c2 + gx T2 k) % 65536 := Int.tmod_eq_emod_of_nonneg (by omega)
              have q2 : (c2 + gx T2 k).tdiv 65536 = (c2 + gx T2 k) / 65536 := Int.tdiv_eq_ediv_of_nonneg (by omega)
              go_wp2
              have hsW := HWs.out
              obtain ⟨hl, hu, hv, hr, hg⟩ := HT2.out
              refine ⟨⟨k + 1, _, T2.set k ((c2 + gx T2 k) % 65536), by omega, by omega, by go_num, rfl, by omega, by omega, by rw [List.length_set]; exact hl, u16_set hu _ (by omega), ?_, hr.set k _, hg.setCell (by simp only; omega) _⟩, by simp [intOf]; omega⟩
              rw [vd_set T2 _ _ (by omega), pd_succ, ← hv]
              have e := cut16 (pd k) (c2 + gx T2 k)
              simp only [Int.mul_add, Int.mul_sub] at e ⊢
              omega
            · obtain rfl : c2 = 0 := by omega
              go_wp2
              obtain ⟨hl, hu, hv, hr, hg⟩ := HT2.out
              rw [Int.mul_zero, Int.add_zero] at hv
              refine ⟨⟨i + 1, T2, by omega, by go_num, hl, hu, hv, hr, hg⟩, by simp [intOf]; omega⟩
    · obtain rfl : i = n := by omega
      have hltI : ¬ (i : Int) < (i : Int) := by omega
      have k0 := hXr.ca0
      have k2 := hXr.cb0
      clear hXr
      go_wp2_with fail
      obtain ⟨hl, hu, hv, hr, hg⟩ := H.out
      have hXe := hX3.later hg
      refine (rtrim_any (!(s == t)) (some ⟨w.heap.size + 1 + 1 + 1, 0, none⟩) (i + m + 1) (i + m + 1) D _ hl (Nat.le_refl _) (by unfold maxLen; omega) hr.rd_all).mono ?_
      rintro e w4 ⟨rfl, hb4⟩
      have HE : Hid (D.length = i + m + 1 ∧ vd D = vd (xs.take i) * vd ys) := ⟨hl, hv⟩
      clear hl hv k0 k1 k2 k3
      obtain ⟨c0', c1', f0, f1⟩ := resbox hb4 hXe.cr0 hXe.cr1 hXe.fr0 hXe.fr1
      go_wp2
      have hsz := hX3.size
      have hsW := HWs.out
      refine bodyPost_ret (v := .agg #[.bool (nsg (!(s == t)) D), .slice (some ⟨w.heap.size + 1 + 1 + 1, 0, none⟩) (tlen D) (tlen D)]) (by simp [results, Tryz.results33, go_sem, c0', c1']) rfl ?_
      refine end_rn2 hX3.below (r := w.heap.size + 1 + 1) (by omega) (by omega) hg hb4 hr.rd_all (from_new (by omega)) hu (by have := HE.out.1; omega) (by omega) ?_
      have hv := HE.out.2
      rw [List.take_of_length_le (by have := HN.out; omega)] at hv
      rw [rval, hv, rval, rval]
      cases s <;> cases t <;> simp [Int.neg_mul, Int.mul_neg]
/-- ashlarref1.Mul of two that are known. -/
theorem rMul_rn {w : World} {s t : Bool} {p q : Option Addr} {n m : Nat} {xs ys : List Int} (h : RN w s p n xs) (k : RN w t q m ys) (hn : n ≤ 1000000) (hm : m ≤ 1000000) :
    Calls Tryz.prog 33 #[.agg #[.bool s, .slice p n n], .agg #[.bool t, .slice q m m]] w (RAns (n + m + 1) (rval s xs * rval t ys) w) :=
  rMul_any s t p q n n m m xs ys w h.len k.len hn hm h.rd h.u k.rd k.u
end Go.Proofs.YtlhgpejapmpcmaaGreatDoor
