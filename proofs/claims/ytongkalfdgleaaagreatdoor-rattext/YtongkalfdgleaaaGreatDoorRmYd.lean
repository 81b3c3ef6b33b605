/-
  ashlarref1.Mul.
-/
import Derived.Test.YtongkalfdgleaaaGreatDoorZfCyCz
import Derived.Test.YtongkalfdgleaaaGreatDoorYc
import Derived.Test.YtongkalfdgleaaaGreatDoorZnXcXb
namespace Go.Proofs.YtongkalfdgleaaaGreatDoor
open Go.RowKit
set_option linter.unusedVariables false
set_option linter.unusedSimpArgs false

theorem mul_bd16 {v x : Int} (h1 : 0 ≤ v ∧ v < 65536) (h2 : 0 ≤ x ∧ x < 65536) : 0 ≤ v * x ∧ v * x ≤ 4294836225 := by
  refine ⟨Int.mul_nonneg h1.1 h2.1, ?_⟩
  have a1 : v * x ≤ v * 65535 := Int.mul_le_mul_of_nonneg_left (by omega) h1.1
  omega
theorem mul_lt_pd {a b : List Int} {i j : Nat} (ha : U16 a) (hb : U16 b) (hi : a.length ≤ i) (hj : b.length ≤ j) : vd a * vd b < pd (i + j) := by
  have a1 := vd_lt ha
  have b1 := vd_lt hb
  have a0 := vd_nonneg ha
  have b0 := vd_nonneg hb
  have a2 := pd_mono hi
  have b2 := pd_mono hj
  rw [pd_add]
  have c1 : vd a * vd b ≤ vd a * pd j := Int.mul_le_mul_of_nonneg_left (by omega) a0
  have c2 : vd a * pd j < pd i * pd j := Int.mul_lt_mul_of_pos_right (by omega) (pd_pos j)
  omega

set_option maxRecDepth 100000 in
set_option maxHeartbeats 4000000 in
/-- ashlarref1.Mul. -/
theorem rMul_any (s t : Bool) (p q : Option Addr) (n nc m mc : Nat) (xs ys : List Int) (w : World) (hn : xs.length = n) (hm : ys.length = m) (hnb : n ≤ 1000000) (hmb : m ≤ 1000000) (hX : Rd w p .i64 xs) (hXu : U16 xs) (hY : Rd w q .i64 ys) (hYu : U16 ys) :
    Calls Tryz.prog 41 #[.agg #[.bool s, .slice p n nc], .agg #[.bool t, .slice q m mc]] w (RAns (n + m + 1) (rval s xs * rval t ys) w) := by
  have hmk := mk_int (n + m + 1) (by omega)
  have ec : ((n + m + 1 : Nat) : Int) = (n : Int) + (m : Int) + 1 := by omega
  rw [ec] at hmk
  clear ec
  have HN : Hid (xs.length = n ∧ ys.length = m) := ⟨hn, hm⟩
  clear hn hm
  go_enter Tryz.func41, Tryz.ntmps41
  go_wp2
  have hrow := Row.new3 w (Obj.cells #[Value.bool s, Value.slice p n nc] 31) (Obj.cells #[Value.bool t, Value.slice q m mc] 31) (Obj.cells #[Value.bool false, Value.slice none 0 0] 31) 3 .i64 (zeros (n + m + 1))
  have hWs : (((w.alloc (Obj.cells #[Value.bool s, Value.slice p n nc] 31)).alloc (Obj.cells #[Value.bool t, Value.slice q m mc] 31)).alloc (Obj.cells #[Value.bool false, Value.slice none 0 0] 31)).heap.size = w.heap.size + 1 + 1 + 1 := by simp
  have hX3 := boxes3' w (.bool s) (.slice p n nc) (.bool t) (.slice q m mc) (.bool false) (.slice none 0 0) 31 31 31
  generalize ((w.alloc (Obj.cells #[Value.bool s, Value.slice p n nc] 31)).alloc (Obj.cells #[Value.bool t, Value.slice q m mc] 31)).alloc (Obj.cells #[Value.bool false, Value.slice none 0 0] 31) = W at *
  have hXW := hX.below hX3.below
  have hYW := hY.below hX3.below
  have HWs : Hid (W.heap.size = w.heap.size + 1 + 1 + 1) := hWs
  clear hWs
  have hbel : Below W.heap.size W (W.alloc (.cells (ca .i64 (zeros (n + m + 1))) 3)) := (Below.refl _ _).alloc (Nat.le_refl _) _
  generalize W.alloc (.cells (ca .i64 (zeros (n + m + 1))) 3) = W1 at *
  have HST : Hid (Row W1 (w.heap.size + 1 + 1 + 1) 3 .i64 (zeros (n + m + 1)) ∧ Below W.heap.size W W1) := ⟨hrow, hbel⟩
  clear hrow hbel hmk
  go_loopw [6] (fun iv wr => ∃ (i : Nat) (D : List Int), i ≤ n ∧ iv = .int .i64 i ∧ Hid (D.length = n + m + 1 ∧ U16 D ∧ vd D = vd (xs.take i) * vd ys ∧ Row wr (w.heap.size + 1 + 1 + 1) 3 .i64 D ∧ Below W.heap.size W wr)) (fun iv _ => n - (intOf iv).toNat)
  case atStart => exact ⟨0, zeros (n + m + 1), Nat.zero_le _, rfl, length_zeros _, u16_zeros _, by simp [vd_zero, vd], HST.out.1, HST.out.2⟩
  case round =>
    obtain ⟨i, D, hi, rfl, H⟩ := hrel
    have hXr := hX3.later H.out.2.2.2.2
    have k1 := hXr.ca1
    have k3 := hXr.cb1
    by_cases hlt : i < n
    · have hltI : (i : Int) < (n : Int) := by omega
      clear hXr
      go_wp2
      go_loopw [7, 8] (fun cv jv wr' => ∃ (j : Nat) (c : Int) (T : List Int), j ≤ m ∧ jv = .int .i64 j ∧ cv = .int .i64 c ∧ 0 ≤ c ∧ c < 65536 ∧ Hid (T.length = n + m + 1 ∧ U16 T ∧ vd T + pd (i + j) * c = vd D + pd i * (gx xs i * vd (ys.take j)) ∧ Row wr' (w.heap.size + 1 + 1 + 1) 3 .i64 T ∧ Below W.heap.size W wr')) (fun _ jv _ => m - (intOf jv).toNat)
      case atStart =>
        obtain ⟨hl, hu, hv, hr, hg⟩ := H.out
        exact ⟨0, 0, D, Nat.zero_le _, rfl, rfl, by decide, by decide, hl, hu, by simp [vd], hr, hg⟩
      case round =>
        obtain ⟨j, c, T, hj, rfl, rfl, hc0, hc1, HT⟩ := hrel
        clear k1 k3
        have hXr := hX3.later HT.out.2.2.2.2
        have k1 := hXr.ca1
        have k3 := hXr.cb1
        clear hXr
        by_cases hjm : j < m
        · have hjI : (j : Int) < (m : Int) := by omega
          have hijI : (i : Int) + (j : Int) < (n : Int) + (m : Int) + 1 := by omega
          obtain ⟨b1, o1, rfl, hc1'⟩ := (hXW.below HT.out.2.2.2.2) (by have := HN.out; omega)
          obtain ⟨b2, o2, rfl, hc2'⟩ := (hYW.below HT.out.2.2.2.2) (by have := HN.out; omega)
          have g1 := hc1' i (by have := HN.out; omega)
          have g2 := hc2' j (by have := HN.out; omega)
          have g3 := HT.out.2.2.2.1.cell (i + j) (by have := HT.out.1; omega)
          have g4 := HT.out.2.2.2.1.frozen (i + j)
          obtain ⟨bt0, bt1⟩ := HT.out.2.1 (i + j)
          obtain ⟨bm0, bm1⟩ := mul_bd16 (hXu i) (hYu j)
          obtain ⟨bx0, bx1⟩ := hXu i
          obtain ⟨by0, by1⟩ := hYu j
          have q1 : (c + (gx T (i + j) + gx xs i * gx ys j)).tmod 65536 = (c + (gx T (i + j) + gx xs i * gx ys j)) % 65536 := Int.tmod_eq_emod_of_nonneg (by omega)
          have q2 : (c + (gx T (i + j) + gx xs i * gx ys j)).tdiv 65536 = (c + (gx T (i + j) + gx xs i * gx ys j)) / 65536 := Int.tdiv_eq_ediv_of_nonneg (by omega)
          have v0 : IntKind.i64.wrap ((i : Int) + (j : Int)) = (i : Int) + (j : Int) := by rw [IntKind.wrap_i64]; omega
          have v1 : IntKind.i64.wrap (gx xs i * gx ys j) = gx xs i * gx ys j := by rw [IntKind.wrap_i64]; omega
          have v2 : IntKind.i64.wrap (gx T (i + j) + gx xs i * gx ys j) = gx T (i + j) + gx xs i * gx ys j := by rw [IntKind.wrap_i64]; omega
          have v3 : IntKind.i64.wrap (c + (gx T (i + j) + gx xs i * gx ys j)) = c + (gx T (i + j) + gx xs i * gx ys j) := by rw [IntKind.wrap_i64]; omega
          have v4 : ((i : Int) + (j : Int)).toNat = i + j := by omega
          have v5 : 0 ≤ (i : Int) + (j : Int) := by omega
          clear hc1' hc2'
          go_wp2_with fail
          go_quiet (fail)
          go_wp2_with fail
          have hsW := HWs.out
          obtain ⟨hl, hu, hv, hr, hg⟩ := HT.out
          have hr' : Row (wr.drewN nq) (w.heap.size + 1 + 1 + 1) 3 .i64 T := hr
          refine ⟨⟨j + 1, _, T.set (i + j) ((c + (gx T (i + j) + gx xs i * gx ys j)) % 65536), by omega, by go_num, rfl, by omega, by omega, by rw [List.length_set]; exact hl, u16_set hu _ (by omega), ?_, hr'.set (i + j) _, (below_drewN hg nq).setCell (by simp only; omega) _⟩, by simp [intOf]; omega⟩
          rw [vd_set T _ _ (by omega), vd_take_succ ys j, ← Nat.add_assoc, pd_succ]
          have e := cut16 (pd (i + j)) (c + (gx T (i + j) + gx xs i * gx ys j))
          have e2 : pd i * (gx xs i * (vd (List.take j ys) + pd j * gx ys j)) = pd i * (gx xs i * vd (List.take j ys)) + pd (i + j) * (gx xs i * gx ys j) := by
            rw [pd_add, Int.mul_add, Int.mul_add]
            congr 1
            simp only [Int.mul_assoc, Int.mul_left_comm]
          rw [e2]
          simp only [Int.mul_add, Int.mul_sub] at e ⊢
          omega
        · obtain rfl : j = m := by omega
          have hjI : ¬ (j : Int) < (j : Int) := by omega
          have v0 : IntKind.i64.wrap ((i : Int) + (j : Int)) = (i : Int) + (j : Int) := by rw [IntKind.wrap_i64]; omega
          go_wp2
          go_loopw [7, 9] (fun cv kv wr' => ∃ (k : Nat) (c : Int) (T : List Int), i + j ≤ k ∧ k ≤ n + j + 1 ∧ kv = .int .i64 k ∧ cv = .int .i64 c ∧ 0 ≤ c ∧ c < 65536 ∧ Hid (T.length = n + j + 1 ∧ U16 T ∧ vd T + pd k * c = vd (xs.take (i + 1)) * vd ys ∧ Row wr' (w.heap.size + 1 + 1 + 1) 3 .i64 T ∧ Below W.heap.size W wr')) (fun _ kv _ => n + j + 1 - (intOf kv).toNat)
          case atStart =>
            obtain ⟨hl, hu, hv, hr, hg⟩ := HT.out
            refine ⟨i + j, c, T, Nat.le_refl _, by omega, by go_num, rfl, hc0, hc1, hl, hu, ?_, hr, hg⟩
            rw [hv, H.out.2.2.1, List.take_of_length_le (l := ys) (by have := HN.out; omega), vd_take_succ, Int.add_mul, Int.mul_assoc]
          case round =>
            obtain ⟨k, c2, T2, hk1, hk2, rfl, rfl, hd0, hd1, HT2⟩ := hrel
            by_cases hc : 0 < c2
            · have hkL : k < n + j + 1 := by
                rcases Nat.lt_or_ge k (n + j + 1) with h | h
                · exact h
                · exfalso
                  obtain ⟨hl, hu, hv, hr, hg⟩ := HT2.out
                  have e1 := mul_lt_pd (i := n) (j := j) (u16_take hXu (i + 1)) hYu (by have := HN.out; simp; omega) (by have := HN.out; omega)
                  have e2 : pd (n + j) ≤ pd k := pd_mono (by omega)
                  have e3 := vd_nonneg hu
                  have e4 : pd k * 1 ≤ pd k * c2 := Int.mul_le_mul_of_nonneg_left (by omega) (Int.le_of_lt (pd_pos k))
                  omega
              have hkI : (k : Int) < (n : Int) + (j : Int) + 1 := by omega
              have g3 := HT2.out.2.2.2.1.cell k (by have := HT2.out.1; omega)
              have g4 := HT2.out.2.2.2.1.frozen k
              obtain ⟨bt0, bt1⟩ := HT2.out.2.1 k
              have q1 : (c2 + gx T2 k).tmod 65536 = (c2 + gx T2 k) % 65536 := Int.tmod_eq_emod_of_nonneg (by omega)
              have q2 : (c2 + gx T2 k).tdiv 65536 = (c2 + gx T2 k) / 65536 := Int.tdiv_eq_ediv_of_nonneg (by omega)
              go_wp2
              have hsW := HWs.out
              obtain ⟨hl, hu, hv, hr, hg⟩ := HT2.out
              refine ⟨⟨k + 1, _, T2.set k ((c2 + gx T2 k) % 65536), by omega, by omega, by go_num, rfl, by omega, by omega, by rw [List.length_set]; exact hl, u16_set hu _ (by omega), ?_, hr.set k _, hg.setCell (by simp only; omega) _⟩, by simp [intOf]; omega⟩
              rw [vd_set T2 _ _ (by omega), pd_succ, ← hv]
              have e := cut16 (pd k) (c2 + gx T2 k)
              simp only [Int.mul_add, Int.mul_sub] at e ⊢
              omega
            · obtain rfl : c2 = 0 := by omega
              go_wp2
              obtain ⟨hl, hu, hv, hr, hg⟩ := HT2.out
              rw [Int.mul_zero, Int.add_zero] at hv
              refine ⟨⟨i + 1, T2, by omega, by go_num, hl, hu, hv, hr, hg⟩, by simp [intOf]; omega⟩
    · obtain rfl : i = n := by omega
      have hltI : ¬ (i : Int) < (i : Int) := by omega
      have k0 := hXr.ca0
      have k2 := hXr.cb0
      clear hXr
      go_wp2_with fail
      obtain ⟨hl, hu, hv, hr, hg⟩ := H.out
      have hXe := hX3.later hg
      refine (rtrim_any (!(s == t)) (some ⟨w.heap.size + 1 + 1 + 1, 0, none⟩) (i + m + 1) (i + m + 1) D _ hl (Nat.le_refl _) (by unfold maxLen; omega) hr.rd_all).mono ?_
      rintro e w4 ⟨rfl, hb4⟩
      have HE : Hid (D.length = i + m + 1 ∧ vd D = vd (xs.take i) * vd ys) := ⟨hl, hv⟩
      clear hl hv k0 k1 k2 k3
      obtain ⟨c0', c1', f0, f1⟩ := resbox hb4 hXe.cr0 hXe.cr1 hXe.fr0 hXe.fr1
      go_wp2
      have hsz := hX3.size
      have hsW := HWs.out
      refine bodyPost_ret (v := .agg #[.bool (nsg (!(s == t)) D), .slice (some ⟨w.heap.size + 1 + 1 + 1, 0, none⟩) (tlen D) (tlen D)]) (by simp [results, Tryz.results41, go_sem, c0', c1']) rfl ?_
      refine end_rn2 hX3.below (r := w.heap.size + 1 + 1) (by omega) (by omega) hg hb4 hr.rd_all (from_new (by omega)) hu (by have := HE.out.1; omega) (by omega) ?_
      have hv := HE.out.2
      rw [List.take_of_length_le (by have := HN.out; omega)] at hv
      rw [rval, hv, rval, rval]
      cases s <;> cases t <;> simp [Int.neg_mul, Int.mul_neg]
/-- ashlarref1.Mul of two that are known. -/
theorem rMul_rn {w : World} {s t : Bool} {p q : Option Addr} {n m : Nat} {xs ys : List Int} (h : RN w s p n xs) (k : RN w t q m ys) (hn : n ≤ 1000000) (hm : m ≤ 1000000) :
    Calls Tryz.prog 41 #[.agg #[.bool s, .slice p n n], .agg #[.bool t, .slice q m m]] w (RAns (n + m + 1) (rval s xs * rval t ys) w) :=
  rMul_any s t p q n n m m xs ys w h.len k.len hn hm h.rd h.u k.rd k.u
end Go.Proofs.YtongkalfdgleaaaGreatDoor
/-
  Reference numbers and reference rationals with their values and a bound of their size; ashlarref2.Make for them.
-/
namespace Go.Proofs.YtongkalfdgleaaaGreatDoor
open Go.RowKit
set_option linter.unusedVariables false
set_option linter.unusedSimpArgs false

/-- A reference number of the value z, of at most N digits. -/
def RV (w : World) (N : Nat) (z : Int) (s : Bool) (p : Option Addr) (n : Nat) : Prop := ∃ ds, RN w s p n ds ∧ rval s ds = z ∧ n ≤ N
def RVP (N : Nat) (z : Int) (w : World) (e : Ending) (w' : World) : Prop :=
  ∃ s p n, e = .returned (.agg #[.bool s, .slice p n n]) ∧ RV w' N z s p n ∧ Go.Proofs.YtongkalfdgleaaaGreatDoor.From w.heap.size p ∧ Below w.heap.size w w'
/-- A reference rational of the value r, its parts of at most 2 K digits. -/
structure MQ (w : World) (K : Nat) (s : Bool) (p : Option Addr) (n : Nat) (t : Bool) (q : Option Addr) (m : Nat) (r : Rat) : Prop where
  num : RV w (2 * K) r.num s p n
  den : RV w (2 * K) (r.den : Int) t q m
def MP (r : Rat) (K : Nat) (w : World) (e : Ending) (w' : World) : Prop :=
  ∃ s p n t q m, e = .returned (.agg #[.bool s, .slice p n n, .bool t, .slice q m m]) ∧ MQ w' K s p n t q m r ∧ Go.Proofs.YtongkalfdgleaaaGreatDoor.From w.heap.size p ∧ Go.Proofs.YtongkalfdgleaaaGreatDoor.From w.heap.size q ∧ Below w.heap.size w w'
section
variable {w w' : World} {N M K : Nat} {z x y : Int} {s t : Bool} {p q : Option Addr} {n m : Nat} {r : Rat}
theorem RV.below (h : RV w N z s p n) (hb : Below w.heap.size w w') : RV w' N z s p n := by
  obtain ⟨ds, h1, h2⟩ := h
  exact ⟨ds, h1.below hb, h2⟩
theorem RV.drew (h : RV w N z s p n) : RV w.drew N z s p n := by
  obtain ⟨ds, h1, h2⟩ := h
  exact ⟨ds, h1.drew, h2⟩
theorem RV.alloc (h : RV w N z s p n) (o : Obj) : RV (w.alloc o) N z s p n := by
  obtain ⟨ds, h1, h2⟩ := h
  exact ⟨ds, h1.alloc o, h2⟩
theorem RV.off (h : RV w N z s p n) {g : Nat} (hg : w.heap.size ≤ g) : 0 < n → Off g p := by
  obtain ⟨ds, h1, h2⟩ := h
  exact fun hn => h1.rd.off hg (by rw [h1.len]; exact hn)
theorem RV.set4 (h : RV w N z s p n) {g : Nat} (hg : 0 < n → Off g p) (u v x y : Value) : RV ((((w.setCell ⟨g, 0, none⟩ u).setCell ⟨g, 1, none⟩ v).setCell ⟨g, 2, none⟩ x).setCell ⟨g, 3, none⟩ y) N z s p n := by
  obtain ⟨ds, h1, h2⟩ := h
  exact ⟨ds, h1.set4 hg _ _ _ _, h2⟩
theorem RV.le (h : RV w N z s p n) : n ≤ N := by
  obtain ⟨ds, h1, h2, h3⟩ := h
  exact h3
theorem RV.up (h : RV w N z s p n) (hN : N ≤ M) : RV w M z s p n := by
  obtain ⟨ds, h1, h2, h3⟩ := h
  exact ⟨ds, h1, h2, by omega⟩
theorem RV.of (h : RV w N z s p n) (e : z = x) : RV w N x s p n := e ▸ h
theorem RV.bd (h : RV w N z s p n) : (z.natAbs : Int) < pd N := by
  obtain ⟨ds, h1, rfl, h3⟩ := h
  have a := vd_nonneg h1.u
  have b := vd_lt h1.u
  rw [h1.len] at b
  have c := pd_mono h3
  unfold rval
  split <;> omega
theorem RV.tight (h : RV w N z s p n) (hz : (z.natAbs : Int) < pw K) : RV w (2 * K) z s p n := by
  obtain ⟨ds, h1, rfl, h3⟩ := h
  refine ⟨ds, h1, rfl, ?_⟩
  have a := vd_nonneg h1.u
  have e : ((rval s ds).natAbs : Int) = vd ds := by unfold rval; split <;> omega
  rw [e, ← pd_two] at hz
  rcases Nat.lt_or_ge (2 * K) n with hk | hk
  · have b := vd_pos_of_top h1.u (by rw [h1.nrm]; omega)
    rw [h1.nrm] at b
    have c := pd_mono (show 2 * K ≤ n - 1 by omega)
    omega
  · exact hk
theorem RVP.of {e : Ending} (h : RAns N z w e w') : RVP N z w e w' := by
  obtain ⟨s, p, n, ds, h1, h2, h3, h4, h5, h6⟩ := h
  exact ⟨s, p, n, h1, ⟨ds, h2, h3, h4⟩, h5, h6⟩
theorem rMul_v (h : RV w N x s p n) (k : RV w M y t q m) (hN : N ≤ 1000) (hM : M ≤ 1000) :
    Calls Tryz.prog 41 #[.agg #[.bool s, .slice p n n], .agg #[.bool t, .slice q m m]] w (RVP (N + M + 1) (x * y) w) := by
  obtain ⟨ds, h1, rfl, h3⟩ := h
  obtain ⟨es, k1, rfl, k3⟩ := k
  refine (rMul_rn h1 k1 (by omega) (by omega)).mono ?_
  rintro e w' ⟨s', p', n', ds', g1, g2, g3, g4, g5, g6⟩
  exact ⟨s', p', n', g1, ⟨ds', g2, g3, by omega⟩, g5, g6⟩
theorem MQ.below (h : MQ w K s p n t q m r) (hb : Below w.heap.size w w') : MQ w' K s p n t q m r := ⟨h.num.below hb, h.den.below hb⟩
theorem MQ.drew (h : MQ w K s p n t q m r) : MQ w.drew K s p n t q m r := ⟨h.num.drew, h.den.drew⟩
theorem MQ.alloc (h : MQ w K s p n t q m r) (o : Obj) : MQ (w.alloc o) K s p n t q m r := ⟨h.num.alloc o, h.den.alloc o⟩
theorem MQ.of {r' : Rat} (h : MQ w K s p n t q m r) (e : r = r') : MQ w K s p n t q m r' := e ▸ h
theorem MQ.sz (h : MQ w K s p n t q m r) : Sz r K := by
  have a := h.num.bd
  have b := h.den.bd
  rw [pd_two] at a b
  exact ⟨a, b⟩
theorem Make_v (h : RV w N x s p n) (k : RV w M y t q m) (hN : N ≤ 1000) (hM : M ≤ 1000) (hs : Sz (Rat.divInt x y) K) :
    Calls Tryz.prog 27 #[.agg #[.bool s, .slice p n n], .agg #[.bool t, .slice q m m]] w (MP (Rat.divInt x y) K w) := by
  obtain ⟨ds, h1, rfl, h3⟩ := h
  obtain ⟨es, k1, rfl, k3⟩ := k
  refine (Make_any s t p q n m ds es w h1 k1 (by omega) (by omega)).mono ?_
  rintro e w' ⟨s', p', n', ds', t', q', m', es', g1, g2, g3, g4, g5⟩
  have a : RV w' n' (Rat.divInt (rval s ds) (rval t es)).num s' p' n' := ⟨ds', g2.num, g2.nv, Nat.le_refl _⟩
  have b : RV w' m' ((Rat.divInt (rval s ds) (rval t es)).den : Int) t' q' m' := ⟨es', g2.den, g2.dv, Nat.le_refl _⟩
  exact ⟨s', p', n', t', q', m', g1, ⟨a.tight hs.1, b.tight hs.2⟩, g3, g4, g5⟩
end
theorem MP.of {r r' : Rat} {K : Nat} {w w' : World} {e : Ending} (h : MP r K w e w') (h' : r = r') : MP r' K w e w' := h' ▸ h
theorem cell_s4 {w : World} {b g o : Nat} {c u v x y : Value} (h : w.cell? ⟨b, o, none⟩ = some c) (hne : Hid (b ≠ g)) : ((((w.setCell ⟨g, 0, none⟩ u).setCell ⟨g, 1, none⟩ v).setCell ⟨g, 2, none⟩ x).setCell ⟨g, 3, none⟩ y).cell? ⟨b, o, none⟩ = some c := by
  have e : ((((w.setCell ⟨g, 0, none⟩ u).setCell ⟨g, 1, none⟩ v).setCell ⟨g, 2, none⟩ x).setCell ⟨g, 3, none⟩ y).heap[b]? = w.heap[b]? := by
    rw [heap_setCell_other _ _ b y hne.out, heap_setCell_other _ _ b x hne.out, heap_setCell_other _ _ b v hne.out, heap_setCell_other _ _ b u hne.out]
  exact (World.cell?_of_block (a := ⟨b, o, none⟩) e).trans h
theorem keep4s {w1 w2 : World} {a g : Nat} {a0 a1 a2 a3 u v x y : Value} (k : w1.cell? ⟨a, 0, none⟩ = some a0 ∧ w1.cell? ⟨a, 1, none⟩ = some a1 ∧ w1.cell? ⟨a, 2, none⟩ = some a2 ∧ w1.cell? ⟨a, 3, none⟩ = some a3) (hb : Below w1.heap.size w1 w2) (na : Hid (a ≠ g)) :
    ((((w2.setCell ⟨g, 0, none⟩ u).setCell ⟨g, 1, none⟩ v).setCell ⟨g, 2, none⟩ x).setCell ⟨g, 3, none⟩ y).cell? ⟨a, 0, none⟩ = some a0 ∧ ((((w2.setCell ⟨g, 0, none⟩ u).setCell ⟨g, 1, none⟩ v).setCell ⟨g, 2, none⟩ x).setCell ⟨g, 3, none⟩ y).cell? ⟨a, 1, none⟩ = some a1 ∧ ((((w2.setCell ⟨g, 0, none⟩ u).setCell ⟨g, 1, none⟩ v).setCell ⟨g, 2, none⟩ x).setCell ⟨g, 3, none⟩ y).cell? ⟨a, 2, none⟩ = some a2 ∧ ((((w2.setCell ⟨g, 0, none⟩ u).setCell ⟨g, 1, none⟩ v).setCell ⟨g, 2, none⟩ x).setCell ⟨g, 3, none⟩ y).cell? ⟨a, 3, none⟩ = some a3 := by
  obtain ⟨h0, h1, h2, h3⟩ := k
  exact ⟨cell_s4 (cell_later hb h0) na, cell_s4 (cell_later hb h1) na, cell_s4 (cell_later hb h2) na, cell_s4 (cell_later hb h3) na⟩
theorem keep8s {w1 w2 : World} {a b g : Nat} {a0 a1 a2 a3 b0 b1 b2 b3 u v x y : Value} (k : w1.cell? ⟨a, 0, none⟩ = some a0 ∧ w1.cell? ⟨a, 1, none⟩ = some a1 ∧ w1.cell? ⟨a, 2, none⟩ = some a2 ∧ w1.cell? ⟨a, 3, none⟩ = some a3 ∧ w1.cell? ⟨b, 0, none⟩ = some b0 ∧ w1.cell? ⟨b, 1, none⟩ = some b1 ∧ w1.cell? ⟨b, 2, none⟩ = some b2 ∧ w1.cell? ⟨b, 3, none⟩ = some b3) (hb : Below w1.heap.size w1 w2) (na : Hid (a ≠ g)) (nb : Hid (b ≠ g)) :
    ((((w2.setCell ⟨g, 0, none⟩ u).setCell ⟨g, 1, none⟩ v).setCell ⟨g, 2, none⟩ x).setCell ⟨g, 3, none⟩ y).cell? ⟨a, 0, none⟩ = some a0 ∧ ((((w2.setCell ⟨g, 0, none⟩ u).setCell ⟨g, 1, none⟩ v).setCell ⟨g, 2, none⟩ x).setCell ⟨g, 3, none⟩ y).cell? ⟨a, 1, none⟩ = some a1 ∧ ((((w2.setCell ⟨g, 0, none⟩ u).setCell ⟨g, 1, none⟩ v).setCell ⟨g, 2, none⟩ x).setCell ⟨g, 3, none⟩ y).cell? ⟨a, 2, none⟩ = some a2 ∧ ((((w2.setCell ⟨g, 0, none⟩ u).setCell ⟨g, 1, none⟩ v).setCell ⟨g, 2, none⟩ x).setCell ⟨g, 3, none⟩ y).cell? ⟨a, 3, none⟩ = some a3 ∧ ((((w2.setCell ⟨g, 0, none⟩ u).setCell ⟨g, 1, none⟩ v).setCell ⟨g, 2, none⟩ x).setCell ⟨g, 3, none⟩ y).cell? ⟨b, 0, none⟩ = some b0 ∧ ((((w2.setCell ⟨g, 0, none⟩ u).setCell ⟨g, 1, none⟩ v).setCell ⟨g, 2, none⟩ x).setCell ⟨g, 3, none⟩ y).cell? ⟨b, 1, none⟩ = some b1 ∧ ((((w2.setCell ⟨g, 0, none⟩ u).setCell ⟨g, 1, none⟩ v).setCell ⟨g, 2, none⟩ x).setCell ⟨g, 3, none⟩ y).cell? ⟨b, 2, none⟩ = some b2 ∧ ((((w2.setCell ⟨g, 0, none⟩ u).setCell ⟨g, 1, none⟩ v).setCell ⟨g, 2, none⟩ x).setCell ⟨g, 3, none⟩ y).cell? ⟨b, 3, none⟩ = some b3 := by
  obtain ⟨h0, h1, h2, h3, h4, h5, h6, h7⟩ := k
  exact ⟨cell_s4 (cell_later hb h0) na, cell_s4 (cell_later hb h1) na, cell_s4 (cell_later hb h2) na, cell_s4 (cell_later hb h3) na, cell_s4 (cell_later hb h4) nb, cell_s4 (cell_later hb h5) nb, cell_s4 (cell_later hb h6) nb, cell_s4 (cell_later hb h7) nb⟩
theorem keep12s {w1 w2 : World} {a b c d g : Nat} {a0 a1 a2 a3 b0 b1 b2 b3 c0 c1 d0 d1 u v x y : Value} (k : w1.cell? ⟨a, 0, none⟩ = some a0 ∧ w1.cell? ⟨a, 1, none⟩ = some a1 ∧ w1.cell? ⟨a, 2, none⟩ = some a2 ∧ w1.cell? ⟨a, 3, none⟩ = some a3 ∧ w1.cell? ⟨b, 0, none⟩ = some b0 ∧ w1.cell? ⟨b, 1, none⟩ = some b1 ∧ w1.cell? ⟨b, 2, none⟩ = some b2 ∧ w1.cell? ⟨b, 3, none⟩ = some b3 ∧ w1.cell? ⟨c, 0, none⟩ = some c0 ∧ w1.cell? ⟨c, 1, none⟩ = some c1 ∧ w1.cell? ⟨d, 0, none⟩ = some d0 ∧ w1.cell? ⟨d, 1, none⟩ = some d1) (hb : Below w1.heap.size w1 w2) (na : Hid (a ≠ g)) (nb : Hid (b ≠ g)) (nc : Hid (c ≠ g)) (nd : Hid (d ≠ g)) :
    ((((w2.setCell ⟨g, 0, none⟩ u).setCell ⟨g, 1, none⟩ v).setCell ⟨g, 2, none⟩ x).setCell ⟨g, 3, none⟩ y).cell? ⟨a, 0, none⟩ = some a0 ∧ ((((w2.setCell ⟨g, 0, none⟩ u).setCell ⟨g, 1, none⟩ v).setCell ⟨g, 2, none⟩ x).setCell ⟨g, 3, none⟩ y).cell? ⟨a, 1, none⟩ = some a1 ∧ ((((w2.setCell ⟨g, 0, none⟩ u).setCell ⟨g, 1, none⟩ v).setCell ⟨g, 2, none⟩ x).setCell ⟨g, 3, none⟩ y).cell? ⟨a, 2, none⟩ = some a2 ∧ ((((w2.setCell ⟨g, 0, none⟩ u).setCell ⟨g, 1, none⟩ v).setCell ⟨g, 2, none⟩ x).setCell ⟨g, 3, none⟩ y).cell? ⟨a, 3, none⟩ = some a3 ∧ ((((w2.setCell ⟨g, 0, none⟩ u).setCell ⟨g, 1, none⟩ v).setCell ⟨g, 2, none⟩ x).setCell ⟨g, 3, none⟩ y).cell? ⟨b, 0, none⟩ = some b0 ∧ ((((w2.setCell ⟨g, 0, none⟩ u).setCell ⟨g, 1, none⟩ v).setCell ⟨g, 2, none⟩ x).setCell ⟨g, 3, none⟩ y).cell? ⟨b, 1, none⟩ = some b1 ∧ ((((w2.setCell ⟨g, 0, none⟩ u).setCell ⟨g, 1, none⟩ v).setCell ⟨g, 2, none⟩ x).setCell ⟨g, 3, none⟩ y).cell? ⟨b, 2, none⟩ = some b2 ∧ ((((w2.setCell ⟨g, 0, none⟩ u).setCell ⟨g, 1, none⟩ v).setCell ⟨g, 2, none⟩ x).setCell ⟨g, 3, none⟩ y).cell? ⟨b, 3, none⟩ = some b3 ∧ ((((w2.setCell ⟨g, 0, none⟩ u).setCell ⟨g, 1, none⟩ v).setCell ⟨g, 2, none⟩ x).setCell ⟨g, 3, none⟩ y).cell? ⟨c, 0, none⟩ = some c0 ∧ ((((w2.setCell ⟨g, 0, none⟩ u).setCell ⟨g, 1, none⟩ v).setCell ⟨g, 2, none⟩ x).setCell ⟨g, 3, none⟩ y).cell? ⟨c, 1, none⟩ = some c1 ∧ ((((w2.setCell ⟨g, 0, none⟩ u).setCell ⟨g, 1, none⟩ v).setCell ⟨g, 2, none⟩ x).setCell ⟨g, 3, none⟩ y).cell? ⟨d, 0, none⟩ = some d0 ∧ ((((w2.setCell ⟨g, 0, none⟩ u).setCell ⟨g, 1, none⟩ v).setCell ⟨g, 2, none⟩ x).setCell ⟨g, 3, none⟩ y).cell? ⟨d, 1, none⟩ = some d1 := by
  obtain ⟨h0, h1, h2, h3, h4, h5, h6, h7, h8, h9, h10, h11⟩ := k
  exact ⟨cell_s4 (cell_later hb h0) na, cell_s4 (cell_later hb h1) na, cell_s4 (cell_later hb h2) na, cell_s4 (cell_later hb h3) na, cell_s4 (cell_later hb h4) nb, cell_s4 (cell_later hb h5) nb, cell_s4 (cell_later hb h6) nb, cell_s4 (cell_later hb h7) nb, cell_s4 (cell_later hb h8) nc, cell_s4 (cell_later hb h9) nc, cell_s4 (cell_later hb h10) nd, cell_s4 (cell_later hb h11) nd⟩
/-- The end of a function that answers a rational of a callee's. -/
theorem end_mp {w W w1 : World} {g : Nat} {s t : Bool} {p q : Option Addr} {n m K : Nat} {r : Rat} {u v x y : Value} (hw : Below w.heap.size w W) (hg : w.heap.size ≤ g) (hg' : g < W.heap.size) (hb : Below W.heap.size W w1)
    (h : MQ w1 K s p n t q m r) (hp : Go.Proofs.YtongkalfdgleaaaGreatDoor.From W.heap.size p) (hq : Go.Proofs.YtongkalfdgleaaaGreatDoor.From W.heap.size q) :
    MP r K w (.returned (.agg #[.bool s, .slice p n n, .bool t, .slice q m m])) ((((w1.setCell ⟨g, 0, none⟩ u).setCell ⟨g, 1, none⟩ v).setCell ⟨g, 2, none⟩ x).setCell ⟨g, 3, none⟩ y) :=
  ⟨s, p, n, t, q, m, rfl, ⟨h.num.set4 (fun _ => off_from hp hg') _ _ _ _, h.den.set4 (fun _ => off_from hq hg') _ _ _ _⟩, fun a ha => Nat.le_trans hw.size (hp a ha), fun a ha => Nat.le_trans hw.size (hq a ha), bset4 (bnext' hw hb) hg _ _ _ _⟩
end Go.Proofs.YtongkalfdgleaaaGreatDoor
