/-
  rat.Read.
-/
import Derived.Test.YtongkalfdgleaaaGreatDoorXd
import Derived.Test.YtongkalfdgleaaaGreatDoorRhTaSa
import Derived.Test.YtongkalfdgleaaaGreatDoorPnGbWa
import Derived.Test.YtongkalfdgleaaaGreatDoorRbRf
namespace Go.Proofs.YtongkalfdgleaaaGreatDoor
open Go.RowKit
set_option linter.unusedVariables false
set_option linter.unusedSimpArgs false

/-- What Read answers. -/
def RqdPost (l : List UInt8) (w : World) (e : Ending) (w' : World) : Prop :=
  Below w.heap.size w w' ∧ ((∃ r s p n t q m, l = rtx r ∧ e = .returned (.tuple #[.agg #[.bool s, .slice p n n, .bool t, .slice q m m], .int .i64 0]) ∧ NQ w.heap.size w' 78 s p n t q m r) ∨
    ((∀ r, l ≠ rtx r) ∧ ∃ s p n t q m, e = .returned (.tuple #[.agg #[.bool s, .slice p n n, .bool t, .slice q m m], .int .i64 8]) ∧ NQ w.heap.size w' 78 s p n t q m 0))
/-- A text that is refused. -/
def RzPost (w : World) (e : Ending) (w' : World) : Prop :=
  Below w.heap.size w w' ∧ ∃ s p n t q m, e = .returned (.tuple #[.agg #[.bool s, .slice p n n, .bool t, .slice q m m], .int .i64 8]) ∧ NQ w.heap.size w' 78 s p n t q m 0
theorem end_rz {w W w1 : World} {r : Nat} {t : Bool} {q : Option Addr} {m : Nat} {ys : List Int} {u v x y : Value} (hw : Below w.heap.size w W) (hr : w.heap.size ≤ r) (hr' : r < W.heap.size)
    (hN : NI W.heap.size w1 t q m ys 1) (hm : m ≤ 1) (hb : Below W.heap.size W w1) :
    RzPost w (.returned (.tuple #[.agg #[.bool false, .slice none 0 0, .bool t, .slice q m m], .int .i64 8])) ((((w1.setCell ⟨r, 0, none⟩ u).setCell ⟨r, 1, none⟩ v).setCell ⟨r, 2, none⟩ x).setCell ⟨r, 3, none⟩ y) :=
  ⟨bset4 (bnext' hw hb) hr _ _ _ _, _, _, _, _, _, _, rfl, [], ys, ⟨NI.nil _ _, (hN.set4 hr' _ _ _ _).mono hw.size⟩, by omega, by omega⟩
set_option maxHeartbeats 2000000 in
set_option maxRecDepth 100000 in
/-- rat.Read: texts that are too long. -/
theorem qRead_long (l : List UInt8) (w : World) (hl : l.length ≤ maxLen) (h : 65536 < l.length) :
    Calls Tryz.prog 35 #[.string ⟨l.toArray⟩] w (RzPost w) := by
  have hlm := hl
  unfold maxLen at hlm
  have hI : (65536 : Int) < (l.length : Int) := by omega
  go_enter Tryz.func35, Tryz.ntmps35
  go_wp2_with fail
  have hR0 : Bq (w.alloc (.cells #[.bool false, .slice none 0 0, .bool false, .slice none 0 0] 26)) w.heap.size (.bool false) (.slice none 0 0) (.bool false) (.slice none 0 0) := Bq.new _ _ _ _ _ rfl
  have hW0 : Below w.heap.size w (w.alloc (.cells #[.bool false, .slice none 0 0, .bool false, .slice none 0 0] 26)) := (Below.refl _ _).alloc (Nat.le_refl _) _
  generalize w.alloc (.cells #[.bool false, .slice none 0 0, .bool false, .slice none 0 0] 26) = W0 at *
  refine (zero_any _).mono ?_
  rintro e w1 ⟨t, q, m, ys, rfl, hN, hm, hb1⟩
  obtain ⟨r0, r1, r2, r3, f0, f1, f2, f3⟩ := hR0.later hb1
  go_wp2
  refine bodyPost_ret (v := .tuple #[.agg #[.bool false, .slice none 0 0, .bool t, .slice q m m], .int .i64 8]) (by simp [results, Tryz.results35, go_sem, r0, r1, r2, r3]) rfl ?_
  exact end_rz hW0 (Nat.le_refl _) hR0.lt hN hm hb1
set_option maxHeartbeats 2000000 in
set_option maxRecDepth 100000 in
/-- rat.Read. -/
theorem qRead_q (l : List UInt8) (w : World) (hl : l.length ≤ 700) :
    Calls Tryz.prog 35 #[.string ⟨l.toArray⟩] w (RqdPost l w) := by
  have hI : (l.length : Int) ≤ 65536 := by omega
  go_enter Tryz.func35, Tryz.ntmps35
  go_wp2_with fail
  have hR0 : Bq (w.alloc (.cells #[.bool false, .slice none 0 0, .bool false, .slice none 0 0] 26)) w.heap.size (.bool false) (.slice none 0 0) (.bool false) (.slice none 0 0) := Bq.new _ _ _ _ _ rfl
  have hW0 : Below w.heap.size w (w.alloc (.cells #[.bool false, .slice none 0 0, .bool false, .slice none 0 0] 26)) := (Below.refl _ _).alloc (Nat.le_refl _) _
  generalize w.alloc (.cells #[.bool false, .slice none 0 0, .bool false, .slice none 0 0] 26) = W0 at *
  refine (parse_any l _ hl).mono ?_
  rintro e w1 ⟨hb1, ⟨r, s1, p1, n1, t1, q1, m1, hr, rfl, hN1⟩ | ⟨hr, s1, p1, n1, nc1, t1, q1, m1, mc1, rfl⟩⟩
  · have HR : Hid (∀ r0, l = rtx r0 → r0 = r) := hr
    have hal := bel_al (o := .cells #[.bool s1, .slice p1 n1 n1, .bool t1, .slice q1 m1 m1] 26) hb1
    have hW1 := bnext' hW0 hal
    have hR1 := hR0.later hal
    have hA1 : Bq (w1.alloc (.cells #[.bool s1, .slice p1 n1 n1, .bool t1, .slice q1 m1 m1] 26)) w1.heap.size (.bool s1) (.slice p1 n1 n1) (.bool t1) (.slice q1 m1 m1) := Bq.new _ _ _ _ _ rfl
    have hN2 := hN1.below (bel_al (o := .cells #[.bool s1, .slice p1 n1 n1, .bool t1, .slice q1 m1 m1] 26) (Below.refl _ _))
    have sR := hR0.lt
    have sW := hW0.size
    clear hr hal hb1 hN1 hW0 hR0
    go_wp2_with fail
    generalize w1.alloc (.cells #[.bool s1, .slice p1 n1 n1, .bool t1, .slice q1 m1 m1] 26) = W1 at *
    generalize w1.heap.size = g1 at *
    refine (qText_q (hN2.aq (by decide)) (by decide) (by decide)).mono ?_
    rintro e w2 ⟨rfl, hb2⟩
    have hA2 := hA1.later hb2
    have hR2 := hR1.later hb2
    have hN3 := hN2.below hb2
    have hW2 := bnext' hW1 hb2
    clear hA1 hR1 hN2 hW1 hb2
    by_cases he : rtx r = l
    · have HE : Hid (l = rtx r) := he.symm
      have e0 : (rtx r == l) = true := by rw [beq_iff_eq]; exact he
      clear he
      obtain ⟨a0, a1, a2, a3, -, -, -, -⟩ := hA2
      obtain ⟨r0, r1, r2, r3, f0, f1, f2, f3⟩ := hR2
      go_wp2
      refine bodyPost_ret (v := .tuple #[.agg #[.bool s1, .slice p1 n1 n1, .bool t1, .slice q1 m1 m1], .int .i64 0]) (by simp [results, Tryz.results35, go_sem, r0, r1, r2, r3]) rfl ⟨bset4 hW2 (Nat.le_refl _) _ _ _ _, .inl ⟨r, s1, p1, n1, t1, q1, m1, HE.out, rfl, ?_⟩⟩
      obtain ⟨xs, ys, h1, h2⟩ := hN3
      exact ⟨xs, ys, ⟨(h1.num.set4 sR _ _ _ _).mono sW, (h1.den.set4 sR _ _ _ _).mono sW⟩, h2⟩
    · have HE : Hid (¬ rtx r = l) := he
      have e0 : (rtx r == l) = false := by rw [beq_eq_false_iff_ne]; exact he
      clear he
      go_wp2_with fail
      refine (zero_any _).mono ?_
      rintro e w3 ⟨t, q, m, ys, rfl, hN, hm, hb3⟩
      obtain ⟨r0, r1, r2, r3, f0, f1, f2, f3⟩ := hR2.later hb3
      go_wp2
      refine bodyPost_ret (v := .tuple #[.agg #[.bool false, .slice none 0 0, .bool t, .slice q m m], .int .i64 8]) (by simp [results, Tryz.results35, go_sem, r0, r1, r2, r3]) rfl ?_
      obtain ⟨k1, k2⟩ := end_rz hW2 (Nat.le_refl _) hR2.lt hN hm hb3 (u := .bool false) (v := .slice none 0 0) (x := .bool t) (y := .slice q m m)
      exact ⟨k1, .inr ⟨fun r0 h => HE.out (by rw [← HR.out r0 h]; exact h.symm), k2⟩⟩
  · have HR : Hid (∀ r0, l ≠ rtx r0) := hr
    have hal := bel_al (o := .cells #[.bool s1, .slice p1 n1 nc1, .bool t1, .slice q1 m1 mc1] 26) hb1
    have hW1 := bnext' hW0 hal
    have hR1 := hR0.later hal
    clear hr hal hb1 hW0 hR0
    go_wp2_with fail
    generalize w1.alloc (.cells #[.bool s1, .slice p1 n1 nc1, .bool t1, .slice q1 m1 mc1] 26) = W1 at *
    refine (zero_any _).mono ?_
    rintro e w3 ⟨t, q, m, ys, rfl, hN, hm, hb3⟩
    obtain ⟨r0, r1, r2, r3, f0, f1, f2, f3⟩ := hR1.later hb3
    go_wp2
    refine bodyPost_ret (v := .tuple #[.agg #[.bool false, .slice none 0 0, .bool t, .slice q m m], .int .i64 8]) (by simp [results, Tryz.results35, go_sem, r0, r1, r2, r3]) rfl ?_
    obtain ⟨k1, k2⟩ := end_rz hW1 (Nat.le_refl _) hR1.lt hN hm hb3 (u := .bool false) (v := .slice none 0 0) (x := .bool t) (y := .slice q m m)
    exact ⟨k1, .inr ⟨HR.out, k2⟩⟩
end Go.Proofs.YtongkalfdgleaaaGreatDoor
/-
  ashlarref1.times.
-/
namespace Go.Proofs.YtongkalfdgleaaaGreatDoor
open Go.RowKit
set_option linter.unusedVariables false
set_option linter.unusedSimpArgs false

/-- What times answers. -/
def TmPost (n : Nat) (V : Int) (w : World) (e : Ending) (w' : World) : Prop :=
  ∃ R, e = .returned (.slice (some ⟨w.heap.size, 0, none⟩) (n + 1) (n + 1)) ∧ R.length = n + 1 ∧ U16 R ∧ vd R = V ∧ Row w' w.heap.size 3 .i64 R ∧ Below w.heap.size w w'
theorem mul_bd17 {v x : Int} (h1 : 0 ≤ v ∧ v < 65536) (h2 : 0 ≤ x ∧ x ≤ 65536) : 0 ≤ v * x ∧ v * x ≤ 4294901760 := by
  refine ⟨Int.mul_nonneg h1.1 h2.1, ?_⟩
  have a1 : v * x ≤ v * 65536 := Int.mul_le_mul_of_nonneg_left (by omega) h1.1
  omega

set_option maxRecDepth 100000 in
set_option maxHeartbeats 2000000 in
/-- ashlarref1.times. -/
theorem rtimes_any (p : Option Addr) (n nc : Nat) (ds : List Int) (m : Int) (w : World) (hl : ds.length = n) (hn : n ≤ 1000000) (hX : Rd w p .i64 ds) (hU : U16 ds) (hm0 : 0 ≤ m) (hm1 : m ≤ 65536) :
    Calls Tryz.prog 99 #[.slice p n nc, .int .i64 m] w (TmPost n (vd ds * m) w) := by
  have hmk := mk_int (n + 1) (by omega)
  have ec : ((n + 1 : Nat) : Int) = (n : Int) + 1 := by omega
  rw [ec] at hmk
  clear ec
  have HL : Hid (ds.length = n) := hl
  clear hl
  have hrow := Row.new w 3 .i64 (zeros (n + 1))
  have hbel : Below w.heap.size w (w.alloc (.cells (ca .i64 (zeros (n + 1))) 3)) := (Below.refl _ _).alloc (Nat.le_refl _) _
  have HB : Hid (Row (w.alloc (.cells (ca .i64 (zeros (n + 1))) 3)) w.heap.size 3 .i64 (zeros (n + 1)) ∧ Below w.heap.size w (w.alloc (.cells (ca .i64 (zeros (n + 1))) 3))) := ⟨hrow, hbel⟩
  clear hrow hbel
  go_enter Tryz.func99, Tryz.ntmps99
  go_wp2
  generalize w.alloc (.cells (ca .i64 (zeros (n + 1))) 3) = W at *
  go_loopw [6, 7] (fun cv iv wr => ∃ (k : Nat) (c : Int) (R : List Int), k ≤ n ∧ iv = .int .i64 k ∧ cv = .int .i64 c ∧ 0 ≤ c ∧ c < 65536 ∧ Hid (R.length = n + 1 ∧ U16 R ∧ (∀ j, k ≤ j → gx R j = 0) ∧ vd (R.take k) + pd k * c = vd (ds.take k) * m ∧ Row wr w.heap.size 3 .i64 R ∧ Below w.heap.size w wr)) (fun _ iv _ => (n - intOf iv).toNat)
  case atStart => exact ⟨0, 0, zeros (n + 1), Nat.zero_le _, by go_num, rfl, by decide, by decide, length_zeros _, u16_zeros _, fun j _ => gx_zeros _ j, by simp [vd], HB.out.1, HB.out.2⟩
  case round =>
    obtain ⟨k, c, R, hk, rfl, rfl, hc0, hc1, H⟩ := hrel
    by_cases hkn : k < n
    · obtain ⟨h1, h2, h3, h4, h5, h6⟩ := H.out
      obtain ⟨b, off, rfl, hcell⟩ := (hX.below h6) (by have := HL.out; omega)
      have g1 := hcell k (by have := HL.out; omega)
      have g2 := h5.cell k (by omega)
      have g3 := h5.frozen k
      have hb := mul_bd17 (hU k) ⟨hm0, hm1⟩
      have hkI : (k : Int) < (n : Int) := by omega
      have hkI2 : (k : Int) < (n : Int) + 1 := by omega
      have q1 : (c + gx ds k * m).tmod 65536 = (c + gx ds k * m) % 65536 := Int.tmod_eq_emod_of_nonneg (by omega)
      have q2 : (c + gx ds k * m).tdiv 65536 = (c + gx ds k * m) / 65536 := Int.tdiv_eq_ediv_of_nonneg (by omega)
      clear h1 h2 h3 h4 h5 h6 hcell
      go_wp2
      obtain ⟨h1, h2, h3, h4, h5, h6⟩ := H.out
      refine ⟨⟨k + 1, _, R.set k ((c + gx ds k * m) % 65536), by omega, by go_num, rfl, by omega, by omega, by rw [List.length_set]; exact h1, u16_set h2 _ (by omega), fun j hj => ?_, ?_, h5.set k _, h6.setCell (p := ⟨w.heap.size, k, none⟩) (Nat.le_refl _) _⟩, by simp [intOf]; omega⟩
      · rw [gx_set_ne R _ _ _ (by omega)]; exact h3 j (by omega)
      · rw [vd_take_succ _ k, vd_take_succ ds k, gx_set_eq R k _ (by omega), List.take_set_of_le (Nat.le_refl _), pd_succ, Int.add_mul, ← h4, Int.mul_assoc (pd k)]
        have e1 := cut16 (pd k) (c + gx ds k * m)
        rw [Int.mul_add] at e1
        omega
    · obtain rfl : k = n := by omega
      obtain ⟨h1, h2, h3, h4, h5, h6⟩ := H.out
      have g2 := h5.cell k (by omega)
      have g3 := h5.frozen k
      have hkI2 : (k : Int) < (k : Int) + 1 := by omega
      clear h1 h2 h3 h4 h5 h6
      go_wp2
      go_ret
      obtain ⟨h1, h2, h3, h4, h5, h6⟩ := H.out
      refine ⟨R.set k c, rfl, by rw [List.length_set]; exact h1, u16_set h2 _ ⟨hc0, hc1⟩, ?_, h5.set k _, h6.setCell (p := ⟨w.heap.size, k, none⟩) (Nat.le_refl _) _⟩
      rw [List.take_of_length_le (l := ds) (by have := HL.out; omega)] at h4
      have e := vd_take_succ (R.set k c) k
      rw [List.take_of_length_le (by rw [List.length_set]; omega), List.take_set_of_le (Nat.le_refl _), gx_set_eq R k c (by omega)] at e
      rw [e, h4]
end Go.Proofs.YtongkalfdgleaaaGreatDoor
/-
  ashlarref1.divide: plain facts.
-/
namespace Go.Proofs.YtongkalfdgleaaaGreatDoor
open Go.RowKit
set_option linter.unusedVariables false
set_option linter.unusedSimpArgs false

theorem vd_drop_next (xs : List Int) (i : Nat) : vd (xs.drop i) = gx xs i + 65536 * vd (xs.drop (i + 1)) := by
  by_cases h : i < xs.length
  · exact vd_drop_cons xs i h
  · rw [List.drop_of_length_le (by omega), List.drop_of_length_le (by omega), gx_past xs i (by omega) i (Nat.le_refl _)]; rfl
theorem vd_cut (xs : List Int) (i : Nat) : vd xs = vd (xs.take i) + pd i * vd (xs.drop i) := by
  by_cases h : i ≤ xs.length
  · exact vd_drop_take xs i h
  · rw [List.take_of_length_le (by omega), List.drop_of_length_le (by omega)]; simp [vd]
/-- A guess by the two highest digits is not too small. -/
theorem guess_ge {Uk v top low vt vl P Q : Int} (hP : 0 < P) (h1 : Uk = top * P + low) (h3 : low < P) (h4 : v = vt * P + vl) (h5 : 0 ≤ vl) (h6 : 0 < vt) (hQ : 0 ≤ Q) (h : Q * v ≤ Uk) : Q ≤ top / vt := by
  apply (Int.le_ediv_iff_mul_le h6).2
  have e : Q * v = (Q * vt) * P + Q * vl := by rw [h4, Int.mul_add, Int.mul_assoc]
  have h7 := Int.mul_nonneg hQ h5
  have h8 : (Q * vt) * P < (top + 1) * P := by rw [Int.add_mul, Int.one_mul]; omega
  have h9 := Int.lt_of_mul_lt_mul_right h8 (Int.le_of_lt hP)
  omega
/-- What the two highest digits are. -/
theorem top_two (us : List Int) (k n : Nat) (hn : 1 ≤ n) (hz : vd (us.drop (k + n + 1)) = 0) : vd (us.drop k) = (gx us (k + n) * 65536 + gx us (k + n - 1)) * pd (n - 1) + vd ((us.drop k).take (n - 1)) := by
  rw [vd_cut (us.drop k) (n - 1), List.drop_drop, show k + (n - 1) = k + n - 1 by omega, vd_drop_next us (k + n - 1), show k + n - 1 + 1 = k + n by omega, vd_drop_next us (k + n), hz, Int.mul_comm (pd (n - 1))]
  have : gx us (k + n - 1) + 65536 * (gx us (k + n) + 65536 * 0) = gx us (k + n) * 65536 + gx us (k + n - 1) := by omega
  rw [this]
  omega
theorem drop_zero_of {us : List Int} (h : U16 us) {k n : Nat} {v : Int} (h1 : vd (us.drop k) < v) (h2 : v ≤ pd n) : vd (us.drop (k + n)) = 0 := by
  have e := vd_cut (us.drop k) n
  rw [List.drop_drop] at e
  have h3 := vd_nonneg (u16_take (u16_drop h k) n)
  have h4 := vd_nonneg (u16_drop h (k + n))
  rcases (show vd (us.drop (k + n)) = 0 ∨ 1 ≤ vd (us.drop (k + n)) by omega) with h5 | h5
  · exact h5
  · have : pd n * 1 ≤ pd n * vd (us.drop (k + n)) := Int.mul_le_mul_of_nonneg_left h5 (Int.le_of_lt (pd_pos n))
    omega
theorem quo_le {x y Q g : Int} (hy : 0 < y) (hQ : Q = x / y) (hg : g * y ≤ x) : g ≤ Q := by
  rw [hQ]; exact (Int.le_ediv_iff_mul_le hy).2 hg
theorem quo_mul {x y : Int} (hy : 0 < y) : x / y * y ≤ x ∧ x < (x / y + 1) * y := by
  have h1 := Int.emod_add_mul_ediv x y
  have h2 := Int.emod_nonneg x (show y ≠ 0 by omega)
  have h3 := Int.emod_lt_of_pos x hy
  rw [Int.mul_comm y] at h1
  rw [Int.add_mul, Int.one_mul]
  constructor <;> omega
/-- One digit of a difference. -/
theorem sub_step (P u c d b x c' b' : Int) (hx : x = u - d - b + 65536 * b') (hc : c = d + 65536 * c') : P * x + P * (c + b) = P * u + 65536 * P * (c' + b') := by
  subst hx
  subst hc
  grind
end Go.Proofs.YtongkalfdgleaaaGreatDoor
/-
  ashlarref1.cmp.
-/
namespace Go.Proofs.YtongkalfdgleaaaGreatDoor
open Go.RowKit
set_option linter.unusedVariables false
set_option linter.unusedSimpArgs false

set_option maxHeartbeats 1000000 in
/-- ashlarref1.cmp. -/
theorem rcmp_any (p q : Option Addr) (n nc m mc : Nat) (xs ys : List Int) (w : World) (hn : xs.length = n) (hm : ys.length = m) (hnb : n ≤ 1000000000) (hmb : m ≤ 1000000000) (tx : tlen xs = n) (ty : tlen ys = m)
    (hX : Rd w p .i64 xs) (hXu : U16 xs) (hY : Rd w q .i64 ys) (hYu : U16 ys) :
    Calls Tryz.prog 73 #[.slice p n nc, .slice q m mc] w fun e w' => e = .returned (.int .i64 (icmp (vd xs) (vd ys))) ∧ Below w.heap.size w w' := by
  by_cases hne : n = m
  · subst hne
    have hb : ((n : Int) != (n : Int)) = false := by simp
    go_enter Tryz.func73, Tryz.ntmps73
    go_wp2_with fail
    go_loopw [5] (fun iv wr => ∃ k : Nat, k ≤ n ∧ iv = .int .i64 ((k : Int) - 1) ∧ Hid (xs.drop k = ys.drop k ∧ Below w.heap.size w wr)) (fun iv _ => (intOf iv + 1).toNat)
    case atStart =>
      refine ⟨n, Nat.le_refl _, by go_num, ?_, Below.refl _ _⟩
      rw [List.drop_of_length_le (by omega), List.drop_of_length_le (by omega)]
    case round =>
      obtain ⟨k, hk, rfl, H⟩ := hrel
      by_cases h0 : k = 0
      · subst h0
        go_wp2
        go_ret
        obtain ⟨hd, hb⟩ := H.out
        rw [List.drop_zero, List.drop_zero] at hd
        rw [hd, icmp_eq]
        exact ⟨rfl, hb⟩
      · obtain ⟨j, rfl⟩ : ∃ j, k = j + 1 := ⟨k - 1, by omega⟩
        have ej : ((j + 1 : Nat) : Int) - 1 = (j : Int) := by omega
        rw [ej]
        clear ej
        obtain ⟨hd, hb⟩ := H.out
        obtain ⟨b1, o1, rfl, hc1⟩ := (hX.below hb) (by omega)
        obtain ⟨b2, o2, rfl, hc2⟩ := (hY.below hb) (by omega)
        have g1 := hc1 j (by omega)
        have g2 := hc2 j (by omega)
        clear hc1 hc2 hd hb
        rcases Int.lt_trichotomy (gx xs j) (gx ys j) with hc | hc | hc
        · go_wp2
          go_quiet (fail)
          have hB := below_drewN H.out.2 nq
          generalize wr.drewN nq = wq at *
          go_wp2
          go_ret
          obtain ⟨hd, hb⟩ := H.out
          rw [icmp_lt (vd_lt_at hXu hYu j (by omega) (by omega) hd hc)]
          exact ⟨rfl, hB⟩
        · have hc1 : ¬ gx xs j < gx ys j := by omega
          have hc2 : ¬ gx ys j < gx xs j := by omega
          have HC : Hid (gx xs j = gx ys j) := hc
          clear hc
          go_wp2
          go_quiet (fail)
          have hB := below_drewN H.out.2 nq
          have e1 : (wr.drewN nq).cell? ⟨b1, o1 + j, none⟩ = some (.int .i64 (gx xs j)) := g1
          have e2 : (wr.drewN nq).cell? ⟨b2, o2 + j, none⟩ = some (.int .i64 (gx ys j)) := g2
          generalize wr.drewN nq = wq at *
          go_wp2
          go_quiet (fail)
          go_wp2
          obtain ⟨hd, hb⟩ := H.out
          refine ⟨⟨j, by omega, by go_num, drop_step j (by omega) (by omega) hd HC.out, below_drewN hB _⟩, by simp [intOf]⟩
        · have hc1 : ¬ gx xs j < gx ys j := by omega
          go_wp2
          go_quiet (fail)
          have hB := below_drewN H.out.2 nq
          have e1 : (wr.drewN nq).cell? ⟨b1, o1 + j, none⟩ = some (.int .i64 (gx xs j)) := g1
          have e2 : (wr.drewN nq).cell? ⟨b2, o2 + j, none⟩ = some (.int .i64 (gx ys j)) := g2
          generalize wr.drewN nq = wq at *
          go_wp2
          go_quiet (fail)
          go_wp2
          go_ret
          obtain ⟨hd, hb⟩ := H.out
          rw [icmp_gt (vd_lt_at hYu hXu j (by omega) (by omega) hd.symm hc)]
          exact ⟨rfl, below_drewN hB _⟩
  · have hb : ((n : Int) != (m : Int)) = true := by rw [bne_iff_ne]; omega
    rcases Nat.lt_or_ge n m with h | h
    · have h1 : (n : Int) < (m : Int) := by omega
      go_enter Tryz.func73, Tryz.ntmps73
      go_wp2
      go_ret
      rw [icmp_lt (vd_lt_len hXu hYu (by omega))]
      exact ⟨rfl, Below.refl _ _⟩
    · have h1 : ¬ (n : Int) < (m : Int) := by omega
      go_enter Tryz.func73, Tryz.ntmps73
      go_wp2
      go_ret
      rw [icmp_gt (vd_lt_len hYu hXu (by omega))]
      exact ⟨rfl, Below.refl _ _⟩
end Go.Proofs.YtongkalfdgleaaaGreatDoor
