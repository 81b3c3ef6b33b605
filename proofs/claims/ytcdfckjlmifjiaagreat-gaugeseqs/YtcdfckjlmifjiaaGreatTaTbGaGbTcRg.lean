/-
  ashlarref1.small.
-/
import Derived.Test.YtcdfckjlmifjiaaGreatRdReRxBbCvRfRhCqRr
import Derived.Test.YtcdfckjlmifjiaaGreatPl
import Derived.Test.YtcdfckjlmifjiaaGreatUaOwPn
import Derived.Lib.EndianBits
namespace Go.Proofs.YtcdfckjlmifjiaaGreat
open Go.RowKit
set_option linter.unusedVariables false
set_option linter.unusedSimpArgs false

/-- What small answers. -/
def SmPost (n : Nat) (ds : List Int) (m : Int) (w : World) (e : Ending) (w' : World) : Prop :=
  ∃ Q c, e = .returned (.tuple #[.slice (some ⟨w.heap.size, 0, none⟩) n n, .int .i64 c]) ∧ Q.length = n ∧ U16 Q ∧ 0 ≤ c ∧ c < m ∧ vd ds = vd Q * m + c ∧ Row w' w.heap.size 3 .i64 Q ∧ Below w.heap.size w w'

theorem vd_drop_cons (xs : List Int) (i : Nat) (h : i < xs.length) : vd (xs.drop i) = gx xs i + 65536 * vd (xs.drop (i + 1)) := by
  rw [drop_cons xs i h]; rfl

set_option maxRecDepth 100000 in
set_option maxHeartbeats 2000000 in
/-- ashlarref1.small. -/
theorem rsmall_any (p : Option Addr) (n nc : Nat) (ds : List Int) (m : Int) (w : World) (hl : ds.length = n) (hn : n ≤ 1000000) (hX : Rd w p .i64 ds) (hU : U16 ds) (hm0 : 0 < m) (hm1 : m < 65536) :
    Calls Tryz.prog 94 #[.slice p n nc, .int .i64 m] w (SmPost n ds m w) := by
  have hmk := mk_int n (by omega)
  have HL : Hid (ds.length = n) := hl
  clear hl
  have hrow := Row.new w 3 .i64 (zeros n)
  have hbel : Below w.heap.size w (w.alloc (.cells (ca .i64 (zeros n)) 3)) := (Below.refl _ _).alloc (Nat.le_refl _) _
  have HB : Hid (Row (w.alloc (.cells (ca .i64 (zeros n)) 3)) w.heap.size 3 .i64 (zeros n) ∧ Below w.heap.size w (w.alloc (.cells (ca .i64 (zeros n)) 3))) := ⟨hrow, hbel⟩
  clear hrow hbel
  have hmz : (m == 0) = false := beq_eq_false_iff_ne.2 (by omega)
  go_enter Tryz.func94, Tryz.ntmps94
  go_wp2
  generalize w.alloc (.cells (ca .i64 (zeros n)) 3) = W at *
  go_loopw [7, 8] (fun cv iv wr => ∃ (t : Nat) (c : Int) (Q : List Int), t ≤ n ∧ iv = .int .i64 ((t : Int) - 1) ∧ cv = .int .i64 c ∧ 0 ≤ c ∧ c < m ∧ Hid (Q.length = n ∧ U16 Q ∧ vd (ds.drop t) = vd (Q.drop t) * m + c ∧ Row wr w.heap.size 3 .i64 Q ∧ Below w.heap.size w wr)) (fun _ iv _ => (intOf iv + 1).toNat)
  case atStart => exact ⟨n, 0, zeros n, Nat.le_refl _, by go_num, rfl, by decide, hm0, length_zeros n, u16_zeros n, by rw [List.drop_of_length_le (by have := HL.out; omega), List.drop_of_length_le (by rw [length_zeros]; omega)]; simp [vd], HB.out.1, HB.out.2⟩
  case round =>
    obtain ⟨t, c, Q, ht, rfl, rfl, hc0, hc1, H⟩ := hrel
    by_cases h0 : t = 0
    · subst h0
      go_wp2
      go_ret2
      obtain ⟨h1, h2, h3, h4, h5⟩ := H.out
      rw [List.drop_zero, List.drop_zero] at h3
      exact ⟨Q, c, rfl, h1, h2, hc0, hc1, h3, h4, h5⟩
    · obtain ⟨i, rfl⟩ : ∃ i, t = i + 1 := ⟨t - 1, by omega⟩
      have ei : ((i + 1 : Nat) : Int) - 1 = (i : Int) := by omega
      rw [ei]
      clear ei
      obtain ⟨h1, h2, h3, h4, h5⟩ := H.out
      obtain ⟨b, off, rfl, hcell⟩ := (hX.below h5) (by have := HL.out; omega)
      have g1 := hcell i (by have := HL.out; omega)
      have g2 := h4.cell i (by omega)
      have g3 := h4.frozen i
      obtain ⟨x0, x1⟩ := hU i
      have iI : (i : Int) < (n : Int) := by omega
      have hq0 : 0 ≤ (c * 65536 + gx ds i) / m := Int.ediv_nonneg (by omega) (by omega)
      have hq1 : (c * 65536 + gx ds i) / m < 65536 := Int.ediv_lt_of_lt_mul hm0 (by
        have : (c + 1) * 65536 ≤ m * 65536 := Int.mul_le_mul_of_nonneg_right (by omega) (by decide)
        omega)
      have hr0 := Int.emod_nonneg (c * 65536 + gx ds i) (show m ≠ 0 by omega)
      have hr1 := Int.emod_lt_of_pos (c * 65536 + gx ds i) hm0
      have hrd := Int.emod_add_mul_ediv (c * 65536 + gx ds i) m
      have HR : Hid ((c * 65536 + gx ds i) % m + m * ((c * 65536 + gx ds i) / m) = c * 65536 + gx ds i) := hrd
      have q1 : (c * 65536 + gx ds i).tdiv m = (c * 65536 + gx ds i) / m := Int.tdiv_eq_ediv_of_nonneg (by omega)
      have q2 : (c * 65536 + gx ds i).tmod m = (c * 65536 + gx ds i) % m := Int.tmod_eq_emod_of_nonneg (by omega)
      clear h1 h2 h3 h4 h5 hcell hrd
      go_wp2
      obtain ⟨h1, h2, h3, h4, h5⟩ := H.out
      refine ⟨⟨i, _, Q.set i ((c * 65536 + gx ds i) / m), by omega, rfl, rfl, hr0, hr1, by rw [List.length_set]; exact h1, u16_set h2 _ ⟨hq0, hq1⟩, ?_, h4.set i _, h5.setCell (p := ⟨w.heap.size, i, none⟩) (Nat.le_refl _) _⟩, by simp [intOf]⟩
      rw [vd_drop_cons ds i (by have := HL.out; omega), h3, vd_drop_cons _ i (by rw [List.length_set]; omega), gx_set_eq Q i _ (by omega), List.drop_set_of_lt (by omega), Int.add_mul, Int.mul_assoc]
      have e := HR.out
      have e2 : (c * 65536 + gx ds i) / m * m = m * ((c * 65536 + gx ds i) / m) := Int.mul_comm ..
      rw [e2]
      omega
end Go.Proofs.YtcdfckjlmifjiaaGreat
/-
  ashlarref1.times.
-/
namespace Go.Proofs.YtcdfckjlmifjiaaGreat
open Go.RowKit
set_option linter.unusedVariables false
set_option linter.unusedSimpArgs false

/-- What times answers. -/
def TmPost (n : Nat) (V : Int) (w : World) (e : Ending) (w' : World) : Prop :=
  ∃ R, e = .returned (.slice (some ⟨w.heap.size, 0, none⟩) (n + 1) (n + 1)) ∧ R.length = n + 1 ∧ U16 R ∧ vd R = V ∧ Row w' w.heap.size 3 .i64 R ∧ Below w.heap.size w w'
theorem mul_bd17 {v x : Int} (h1 : 0 ≤ v ∧ v < 65536) (h2 : 0 ≤ x ∧ x ≤ 65536) : 0 ≤ v * x ∧ v * x ≤ 4294901760 := by
  refine ⟨Int.mul_nonneg h1.1 h2.1, ?_⟩
  have a1 : v * x ≤ v * 65536 := Int.mul_le_mul_of_nonneg_left (by omega) h1.1
  omega

set_option maxRecDepth 100000 in
set_option maxHeartbeats 2000000 in
/-- ashlarref1.times. -/
theorem rtimes_any (p : Option Addr) (n nc : Nat) (ds : List Int) (m : Int) (w : World) (hl : ds.length = n) (hn : n ≤ 1000000) (hX : Rd w p .i64 ds) (hU : U16 ds) (hm0 : 0 ≤ m) (hm1 : m ≤ 65536) :
    Calls Tryz.prog 95 #[.slice p n nc, .int .i64 m] w (TmPost n (vd ds * m) w) := by
  have hmk := mk_int (n + 1) (by omega)
  have ec : ((n + 1 : Nat) : Int) = (n : Int) + 1 := by omega
  rw [ec] at hmk
  clear ec
  have HL : Hid (ds.length = n) := hl
  clear hl
  have hrow := Row.new w 3 .i64 (zeros (n + 1))
  have hbel : Below w.heap.size w (w.alloc (.cells (ca .i64 (zeros (n + 1))) 3)) := (Below.refl _ _).alloc (Nat.le_refl _) _
  have HB : Hid (Row (w.alloc (.cells (ca .i64 (zeros (n + 1))) 3)) w.heap.size 3 .i64 (zeros (n + 1)) ∧ Below w.heap.size w (w.alloc (.cells (ca .i64 (zeros (n + 1))) 3))) := ⟨hrow, hbel⟩
  clear hrow hbel
  go_enter Tryz.func95, Tryz.ntmps95
  go_wp2
  generalize w.alloc (.cells (ca .i64 (zeros (n + 1))) 3) = W at *
  go_loopw [6, 7] (fun cv iv wr => ∃ (k : Nat) (c : Int) (R : List Int), k ≤ n ∧ iv = .int .i64 k ∧ cv = .int .i64 c ∧ 0 ≤ c ∧ c < 65536 ∧ Hid (R.length = n + 1 ∧ U16 R ∧ (∀ j, k ≤ j → gx R j = 0) ∧ vd (R.take k) + pd k * c = vd (ds.take k) * m ∧ Row wr w.heap.size 3 .i64 R ∧ Below w.heap.size w wr)) (fun _ iv _ => (n - intOf iv).toNat)
  case atStart => exact ⟨0, 0, zeros (n + 1), Nat.zero_le _, by go_num, rfl, by decide, by decide, length_zeros _, u16_zeros _, fun j _ => gx_zeros _ j, by simp [vd], HB.out.1, HB.out.2⟩
  case round =>
    obtain ⟨k, c, R, hk, rfl, rfl, hc0, hc1, H⟩ := hrel
    by_cases hkn : k < n
    · obtain ⟨h1, h2, h3, h4, h5, h6⟩ := H.out
      obtain ⟨b, off, rfl, hcell⟩ := (hX.below h6) (by have := HL.out; omega)
      have g1 := hcell k (by have := HL.out; omega)
      have g2 := h5.cell k (by omega)
      have g3 := h5.frozen k
      have hb := mul_bd17 (hU k) ⟨hm0, hm1⟩
      have hkI : (k : Int) < (n : Int) := by omega
      have hkI2 : (k : Int) < (n : Int) + 1 := by omega
      have q1 : (c + gx ds k * m).tmod 65536 = (c + gx ds k * m) % 65536 := Int.tmod_eq_emod_of_nonneg (by omega)
      have q2 : (c + gx ds k * m).tdiv 65536 = (c + gx ds k * m) / 65536 := Int.tdiv_eq_ediv_of_nonneg (by omega)
      clear h1 h2 h3 h4 h5 h6 hcell
      go_wp2
      obtain ⟨h1, h2, h3, h4, h5, h6⟩ := H.out
      refine ⟨⟨k + 1, _, R.set k ((c + gx ds k * m) % 65536), by omega, by go_num, rfl, by omega, by omega, by rw [List.length_set]; exact h1, u16_set h2 _ (by omega), fun j hj => ?_, ?_, h5.set k _, h6.setCell (p := ⟨w.heap.size, k, none⟩) (Nat.le_refl _) _⟩, by simp [intOf]; omega⟩
      · rw [gx_set_ne R _ _ _ (by omega)]; exact h3 j (by omega)
      · rw [vd_take_succ _ k, vd_take_succ ds k, gx_set_eq R k _ (by omega), List.take_set_of_le (Nat.le_refl _), pd_succ, Int.add_mul, ← h4, Int.mul_assoc (pd k)]
        have e1 := cut16 (pd k) (c + gx ds k * m)
        rw [Int.mul_add] at e1
        omega
    · obtain rfl : k = n := by omega
      obtain ⟨h1, h2, h3, h4, h5, h6⟩ := H.out
      have g2 := h5.cell k (by omega)
      have g3 := h5.frozen k
      have hkI2 : (k : Int) < (k : Int) + 1 := by omega
      clear h1 h2 h3 h4 h5 h6
      go_wp2
      go_ret
      obtain ⟨h1, h2, h3, h4, h5, h6⟩ := H.out
      refine ⟨R.set k c, rfl, by rw [List.length_set]; exact h1, u16_set h2 _ ⟨hc0, hc1⟩, ?_, h5.set k _, h6.setCell (p := ⟨w.heap.size, k, none⟩) (Nat.le_refl _) _⟩
      rw [List.take_of_length_le (l := ds) (by have := HL.out; omega)] at h4
      have e := vd_take_succ (R.set k c) k
      rw [List.take_of_length_le (by rw [List.length_set]; omega), List.take_set_of_le (Nat.le_refl _), gx_set_eq R k c (by omega)] at e
      rw [e, h4]
end Go.Proofs.YtcdfckjlmifjiaaGreat
/-
  Lehmer's steps, stopped by Collins's condition: plain facts.
-/
namespace Go.Proofs.YtcdfckjlmifjiaaGreat
open Go.RowKit
set_option linter.unusedVariables false
set_option linter.unusedSimpArgs false

/-- What is left of a and b behind so many steps. -/
def rem0 (sg s t a b : Int) : Int := -sg * (s * a - t * b)
def rem1 (sg s t a b : Int) : Int := sg * (s * a - t * b)

/-- A state of the steps: p0 and q0 are a and b over F, without their rests. -/
structure La (a b F p0 q0 sg p q s0 s1 s2 t0 t1 t2 : Int) : Prop where
  hs : sg = 1 ∨ sg = -1
  ep : p = sg * (s1 * p0 - t1 * q0)
  eq : q = -sg * (s2 * p0 - t2 * q0)
  idn : t2 * p + t1 * q = p0
  s1n : 0 ≤ s1
  s2n : 0 ≤ s2
  t1n : 0 ≤ t1
  t2n : 1 ≤ t2
  t12 : t1 ≤ t2
  st2 : s2 ≤ t2
  st12 : s1 + s2 ≤ t1 + t2
  qn : 0 ≤ q
  pq : q ≤ p
  pp : p ≤ p0
  g : Int.gcd (rem1 sg s1 t1 a b) (rem0 sg s2 t2 a b) = Int.gcd a b
  prev : (s0 = 0 ∧ t0 = 0 ∧ s1 = 1 ∧ t1 = 0 ∧ s2 = 0 ∧ t2 = 1 ∧ sg = 1) ∨
    (0 ≤ s0 ∧ 0 ≤ t0 ∧ t0 ≤ t1 ∧ t1 < 1073741824 ∧ s0 < 1073741824 ∧ s1 ≤ t1 ∧ 1 ≤ t1 ∧ 0 ≤ rem1 sg s1 t1 a b ∧ rem1 sg s1 t1 a b < rem0 sg s0 t0 a b ∧ rem1 sg s1 t1 a b ≤ b ∧ (t0 = 0 ∨ rem0 sg s0 t0 a b ≤ b) ∧ Int.gcd (rem0 sg s0 t0 a b) (rem1 sg s1 t1 a b) = Int.gcd a b)

theorem La.start {a b F p0 q0 : Int} (hq : 0 ≤ q0) (hp : q0 ≤ p0) : La a b F p0 q0 1 p0 q0 0 1 0 0 0 1 := by
  refine ⟨.inl rfl, by omega, by omega, by omega, by decide, by decide, by decide, by decide, by decide, by decide, by decide, hq, hp, Int.le_refl _, ?_, .inl ⟨rfl, rfl, rfl, rfl, rfl, rfl, rfl⟩⟩
  rw [rem1, rem0, show (1 : Int) * (1 * a - 0 * b) = a by omega, show -(1 : Int) * (0 * a - 1 * b) = b by omega]

/-- Rests are small: what is left has the sign that the highest bits say. -/
theorem rest_lo {F al be s t : Int} (hF : 0 < F) (ha0 : 0 ≤ al) (ha1 : al < F) (hb0 : 0 ≤ be) (hb1 : be < F) (hs0 : 0 ≤ s) (ht0 : 0 ≤ t) (hst : s ≤ t) :
    -(t * (F - 1)) ≤ s * al - t * be ∧ s * al - t * be ≤ t * (F - 1) := by
  have h1 : s * al ≤ s * (F - 1) := Int.mul_le_mul_of_nonneg_left (by omega) hs0
  have h2 : s * (F - 1) ≤ t * (F - 1) := Int.mul_le_mul_of_nonneg_right hst (by omega)
  have h3 : t * be ≤ t * (F - 1) := Int.mul_le_mul_of_nonneg_left (by omega) ht0
  have h4 : 0 ≤ s * al := Int.mul_nonneg hs0 ha0
  have h5 : 0 ≤ t * be := Int.mul_nonneg ht0 hb0
  constructor <;> omega
theorem sg_bd {sg x M : Int} (hs : sg = 1 ∨ sg = -1) (h : -M ≤ x ∧ x ≤ M) : -M ≤ sg * x ∧ sg * x ≤ M := by
  rcases hs with rfl | rfl <;> omega
theorem sq_lt {t p p0 : Int} (ht : 1 ≤ t) (hp : t ≤ p) (h : t * p ≤ p0) (h0 : p0 < 1152921504606846976) : t < 1073741824 := by
  rcases (show t < 1073741824 ∨ 1073741824 ≤ t by omega) with h1 | h1
  · exact h1
  · exfalso
    have h2 : t * 1073741824 ≤ t * p := Int.mul_le_mul_of_nonneg_left (by omega) (by omega)
    have h3 : 1073741824 * 1073741824 ≤ t * 1073741824 := Int.mul_le_mul_of_nonneg_right h1 (by decide)
    omega

theorem La.step {a b F p0 q0 sg p q s0 s1 s2 t0 t1 t2 al be : Int} (h : La a b F p0 q0 sg p q s0 s1 s2 t0 t1 t2) (hF : 0 < F) (hp0 : p0 < 1152921504606846976)
    (ea : a = p0 * F + al) (eb : b = q0 * F + be) (ha0 : 0 ≤ al) (ha1 : al < F) (hb0 : 0 ≤ be) (hb1 : be < F)
    (c1 : t2 ≤ q) (c2 : t1 + t2 ≤ p - q) : La a b F p0 q0 (-sg) q (p % q) s1 s2 (s1 + p / q * s2) t1 t2 (t1 + p / q * t2) := by
  have t2n := h.t2n
  have t1n := h.t1n
  have hq : 0 < q := by omega
  have hd : 1 ≤ p / q := (Int.le_ediv_iff_mul_le hq).2 (by have := h.pq; omega)
  have hm : p % q = p - p / q * q := by have := Int.emod_add_mul_ediv p q; rw [Int.mul_comm q] at this; omega
  have hm0 := Int.emod_nonneg p (show q ≠ 0 by omega)
  have hm1 := Int.emod_lt_of_pos p hq
  generalize p / q = d at *
  have hs2 := Int.mul_nonneg (show 0 ≤ d by omega) h.s2n
  have ht2 : t2 ≤ d * t2 := by have := Int.mul_le_mul_of_nonneg_right hd (show 0 ≤ t2 by omega); omega
  have hds : (d - 1) * s2 ≤ (d - 1) * t2 := Int.mul_le_mul_of_nonneg_left h.st2 (by omega)
  rw [Int.sub_mul, Int.sub_mul, Int.one_mul, Int.one_mul] at hds
  have hst12 := h.st12
  have hst2 := h.st2
  have hs1n := h.s1n
  have hs2n := h.s2n
  -- what is left
  have e2 : rem0 sg s2 t2 a b = F * q - sg * (s2 * al - t2 * be) := by rw [rem0, ea, eb, h.eq]; grind
  have e1 : rem1 sg s1 t1 a b - rem0 sg s2 t2 a b = F * (p - q) + sg * ((s1 + s2) * al - (t1 + t2) * be) := by rw [rem0, rem1, ea, eb, h.eq, h.ep]; grind
  have b2 := sg_bd h.hs (rest_lo hF ha0 ha1 hb0 hb1 h.s2n (by omega) h.st2)
  have b1 := sg_bd h.hs (rest_lo hF ha0 ha1 hb0 hb1 (s := s1 + s2) (t := t1 + t2) (by omega) (by omega) h.st12)
  have k2 : F * t2 ≤ F * q := Int.mul_le_mul_of_nonneg_left c1 (by omega)
  have k1 : F * (t1 + t2) ≤ F * (p - q) := Int.mul_le_mul_of_nonneg_left c2 (by omega)
  have m2 : t2 * (F - 1) = F * t2 - t2 := by rw [Int.mul_sub, Int.mul_comm F]; omega
  have m1 : (t1 + t2) * (F - 1) = F * (t1 + t2) - (t1 + t2) := by rw [Int.mul_sub, Int.mul_comm F]; omega
  have x2 : 0 ≤ rem0 sg s2 t2 a b := by omega
  have x1 : rem0 sg s2 t2 a b < rem1 sg s1 t1 a b := by omega
  have f1 : rem1 (-sg) s2 t2 a b = rem0 sg s2 t2 a b := rfl
  have f0 : rem0 (-sg) s1 t1 a b = rem1 sg s1 t1 a b := by rw [rem0, rem1, Int.neg_neg]
  have f2 : rem0 (-sg) (s1 + d * s2) (t1 + d * t2) a b = rem1 sg s1 t1 a b - d * rem0 sg s2 t2 a b := by rw [rem0, rem1, rem0]; grind
  have hid := h.idn
  have htq := Int.mul_nonneg t1n h.qn
  refine ⟨by rcases h.hs with e | e <;> omega, h.eq, ?_, ?_, h.s2n, by omega, by omega, by omega, by omega, by omega, by omega, hm0, by omega, by have := h.pp; have := h.pq; omega, ?_, .inr ⟨h.s1n, h.t1n, h.t12, ?_, ?_, h.st2, h.t2n, by rw [f1]; exact x2, by rw [f1, f0]; exact x1, ?_, ?_, ?_⟩⟩
  · rw [hm, h.ep, h.eq]; grind
  · rw [hm]
    have : (t1 + d * t2) * q + t2 * (p - d * q) = t2 * p + t1 * q := by grind
    omega
  · rw [f1, f2, Int.gcd_sub_mul_right_right, Int.gcd_comm]; exact h.g
  · exact sq_lt (p := p) h.t2n (by have := h.qn; omega) (by omega) hp0
  · rcases h.prev with ⟨_, _, e, _⟩ | ⟨_, _, _, e, _, e', _⟩
    · omega
    · omega
  · rw [f1]
    rcases h.prev with ⟨_, _, _, _, e3, e4, e5⟩ | ⟨_, _, _, _, _, _, _, _, _, e, _⟩
    · rw [e3, e4, e5, rem0]; omega
    · omega
  · rw [f0]
    rcases h.prev with ⟨_, _, _, e, _⟩ | ⟨_, _, _, _, _, _, _, _, _, e, _⟩
    · exact .inl e
    · exact .inr e
  · rw [f0, f1]; exact h.g

/-- What the steps leave. -/
theorem La.done {a b F p0 q0 sg p q s0 s1 s2 t0 t1 t2 : Int} (h : La a b F p0 q0 sg p q s0 s1 s2 t0 t1 t2) (ht : 0 < t0) :
    0 ≤ s0 ∧ s0 < 1073741824 ∧ t0 < 1073741824 ∧ 0 ≤ s1 ∧ s1 < 1073741824 ∧ 0 ≤ t1 ∧ t1 < 1073741824 ∧ 0 ≤ rem1 sg s1 t1 a b ∧ rem1 sg s1 t1 a b < rem0 sg s0 t0 a b ∧ rem0 sg s0 t0 a b ≤ b ∧ Int.gcd (rem0 sg s0 t0 a b) (rem1 sg s1 t1 a b) = Int.gcd a b := by
  rcases h.prev with ⟨_, e, _⟩ | ⟨h1, h2, h3, h4, h5, h6, h7, h8, h9, h10, h11, h12⟩
  · omega
  · exact ⟨h1, h5, by omega, h.s1n, by omega, h.t1n, h4, h8, h9, by rcases h11 with e | e; omega; exact e, h12⟩
/-- What is reckoned with fits. -/
theorem La.bd {a b F p0 q0 sg p q s0 s1 s2 t0 t1 t2 : Int} (h : La a b F p0 q0 sg p q s0 s1 s2 t0 t1 t2) (hq : 0 < p) (hp0 : p0 < 1152921504606846976) :
    0 ≤ s0 ∧ s0 < 1073741824 ∧ 0 ≤ t0 ∧ t0 < 1073741824 ∧ s1 ≤ 1073741824 ∧ t1 < 1073741824 ∧ t2 ≤ p0 ∧ s2 ≤ p0 := by
  have h1 : t2 * 1 ≤ t2 * p := Int.mul_le_mul_of_nonneg_left (by omega) (by have := h.t2n; omega)
  have h2 := Int.mul_nonneg h.t1n h.qn
  have h3 := h.idn
  have h4 := h.st2
  rcases h.prev with ⟨e1, e2, e3, e4, _⟩ | ⟨h1, h2, h3, h4, h5, h6, h7, h8, h9, h10, h11, h12⟩ <;> refine ⟨by omega, by omega, by omega, by omega, by omega, by omega, by omega, by omega⟩
end Go.Proofs.YtcdfckjlmifjiaaGreat
/-
  The 64 bits of a number from a place on; a row times small numbers with signs: plain facts.
-/
namespace Go.Proofs.YtcdfckjlmifjiaaGreat
open Go.RowKit
set_option linter.unusedVariables false
set_option linter.unusedSimpArgs false

theorem val_drop_next (xs : List Int) (i : Nat) : val (xs.drop i) = gx xs i + 4294967296 * val (xs.drop (i + 1)) := by
  by_cases h : i < xs.length
  · rw [drop_cons xs i h]; rfl
  · rw [List.drop_of_length_le (by omega), List.drop_of_length_le (by omega), gx_past xs i (by omega) i (Nat.le_refl _)]; rfl
theorem val_cut (xs : List Int) (i : Nat) : val xs = val (xs.take i) + pw i * val (xs.drop i) := by
  by_cases h : i ≤ xs.length
  · exact val_drop_take xs i h
  · rw [List.take_of_length_le (by omega), List.drop_of_length_le (by omega)]; simp [val]
theorem pw_two (i : Nat) : pw i = 2 ^ (32 * i) := by
  unfold pw
  rw [Int.pow_mul]
  rfl
theorem val_div_pw {xs : List Int} (h : U32 xs) (i : Nat) : val xs / pw i = val (xs.drop i) := by
  have h1 := val_nonneg (u32_take h i)
  have h2 := val_lt (u32_take h i)
  have h3 : pw (xs.take i).length ≤ pw i := pw_mono (List.length_take_le _ _)
  have h4 := pw_pos i
  rw [val_cut xs i, Int.add_mul_ediv_left _ _ (by omega), Int.ediv_eq_zero_of_lt h1 (by omega), Int.zero_add]
theorem two_le {a b : Nat} (h : a ≤ b) : (2 : Int) ^ a ≤ 2 ^ b := by
  obtain ⟨c, rfl⟩ := Nat.exists_eq_add_of_le h
  rw [Int.pow_add]
  have h1 : (0 : Int) < 2 ^ a := Int.pow_pos (by decide)
  have h2 : (0 : Int) < 2 ^ c := Int.pow_pos (by decide)
  have : (2 : Int) ^ a * 1 ≤ 2 ^ a * 2 ^ c := Int.mul_le_mul_of_nonneg_left (by omega) (by omega)
  omega
theorem two_split (off : Nat) (h : off ≤ 64) : (2 : Int) ^ off * 2 ^ (64 - off) = 18446744073709551616 := by
  rw [← Int.pow_add, show off + (64 - off) = 64 by omega]; rfl
/-- The bits from a place on. -/
theorem bits_from {xs : List Int} (hU : U32 xs) (i off : Nat) (hoff : off < 32) (hv : val xs < 2 ^ (32 * i + off) * 1152921504606846976) :
    val xs / 2 ^ (32 * i + off) = (gx xs i + 4294967296 * gx xs (i + 1)) / 2 ^ off + gx xs (i + 2) * 2 ^ (64 - off) ∧ gx xs (i + 2) * 2 ^ (64 - off) < 1152921504606846976 ∧ 0 ≤ (gx xs i + 4294967296 * gx xs (i + 1)) / 2 ^ off ∧ (gx xs i + 4294967296 * gx xs (i + 1)) / 2 ^ off < 2 ^ (64 - off) := by
  have hE : (0 : Int) < 2 ^ off := Int.pow_pos (by decide)
  have hG : (0 : Int) < 2 ^ (64 - off) := Int.pow_pos (by decide)
  have hEG := two_split off (by omega)
  have hE31 : (2 : Int) ^ off ≤ 2147483648 := by have := two_le (show off ≤ 31 by omega); omega
  have h0 := hU i
  have h1 := hU (i + 1)
  have h2 := hU (i + 2)
  have hr := val_nonneg (u32_drop hU (i + 1 + 1 + 1))
  have e0 := val_drop_next xs i
  have e1 := val_drop_next xs (i + 1)
  have e2 := val_drop_next xs (i + 1 + 1)
  rw [show i + 1 + 1 = i + 2 from rfl] at e1 e2 hr
  have hP := pw_pos i
  have ep : (2 : Int) ^ (32 * i + off) = pw i * 2 ^ off := by rw [Int.pow_add, pw_two]
  have hd := val_div_pw hU i
  rw [ep, ← Int.ediv_ediv_of_nonneg (Int.le_of_lt hP), hd]
  rw [ep, Int.mul_assoc] at hv
  have hlt : val (xs.drop i) < 2 ^ off * 1152921504606846976 := by
    rw [← hd]
    exact Int.ediv_lt_of_lt_mul hP (by rw [Int.mul_comm]; exact hv)
  generalize (2 : Int) ^ off = E at *
  generalize (2 : Int) ^ (64 - off) = G at *
  generalize val (xs.drop (i + 2 + 1)) = r at *
  have e3 : val (xs.drop i) = (gx xs i + 4294967296 * gx xs (i + 1)) + 18446744073709551616 * gx xs (i + 2) + 79228162514264337593543950336 * r := by
    rw [e0, e1, e2]; omega
  have hr0 : r = 0 := by omega
  have hm1 : (gx xs i + 4294967296 * gx xs (i + 1)) / E < G := Int.ediv_lt_of_lt_mul hE (by rw [Int.mul_comm G, hEG]; omega)
  have hm0 : 0 ≤ (gx xs i + 4294967296 * gx xs (i + 1)) / E := Int.ediv_nonneg (by omega) (Int.le_of_lt hE)
  have e4 : val (xs.drop i) / E = (gx xs i + 4294967296 * gx xs (i + 1)) / E + gx xs (i + 2) * G := by
    rw [e3, hr0, ← hEG, show gx xs i + 4294967296 * gx xs (i + 1) + E * G * gx xs (i + 2) + 79228162514264337593543950336 * 0 = gx xs i + 4294967296 * gx xs (i + 1) + E * (gx xs (i + 2) * G) by rw [Int.mul_assoc, Int.mul_comm G]; omega, Int.add_mul_ediv_left _ _ (by omega)]
  have hq : val (xs.drop i) / E < 1152921504606846976 := Int.ediv_lt_of_lt_mul hE (by rw [Int.mul_comm 1152921504606846976]; exact hlt)
  exact ⟨e4, by omega, hm0, hm1⟩
theorem or_bits (x y : Int) (s : Nat) (hs : s ≤ 64) (hx0 : 0 ≤ x) (hx : x < 2 ^ s) (hy0 : 0 ≤ y) (hy : y * 2 ^ s < 18446744073709551616) : bits .or .u64 x (y * 2 ^ s) = x + y * 2 ^ s := by
  have h1 : (2 : Int) ^ s ≤ 2 ^ 64 := two_le hs
  have h2 : (2 : Int) ^ 64 = 18446744073709551616 := rfl
  have hp : (0 : Int) < 2 ^ s := Int.pow_pos (by decide)
  exact bits_join_low .u64 64 (by decide) (fun n a b => by rw [IntKind.wrap_u64]; omega) s x (y * 2 ^ s) hx0 hx (by omega) (Int.mul_nonneg hy0 (by omega)) (Int.mul_emod_left ..) (by omega)

/-- The greatest common divisor behind a step by a quotient. -/
theorem gcd_step {x y q r : Int} (h : q * y + r = x) : Int.gcd y r = Int.gcd x y := by
  rw [← h, Int.add_comm, Int.gcd_comm (r + q * y), Int.gcd_add_mul_right_right]
end Go.Proofs.YtcdfckjlmifjiaaGreat
/-
  ashlarref1.divide: plain facts.
-/
namespace Go.Proofs.YtcdfckjlmifjiaaGreat
open Go.RowKit
set_option linter.unusedVariables false
set_option linter.unusedSimpArgs false

theorem vd_drop_next (xs : List Int) (i : Nat) : vd (xs.drop i) = gx xs i + 65536 * vd (xs.drop (i + 1)) := by
  by_cases h : i < xs.length
  · exact vd_drop_cons xs i h
  · rw [List.drop_of_length_le (by omega), List.drop_of_length_le (by omega), gx_past xs i (by omega) i (Nat.le_refl _)]; rfl
theorem vd_cut (xs : List Int) (i : Nat) : vd xs = vd (xs.take i) + pd i * vd (xs.drop i) := by
  by_cases h : i ≤ xs.length
  · exact vd_drop_take xs i h
  · rw [List.take_of_length_le (by omega), List.drop_of_length_le (by omega)]; simp [vd]
/-- A guess by the two highest digits is not too small. -/
theorem guess_ge {Uk v top low vt vl P Q : Int} (hP : 0 < P) (h1 : Uk = top * P + low) (h3 : low < P) (h4 : v = vt * P + vl) (h5 : 0 ≤ vl) (h6 : 0 < vt) (hQ : 0 ≤ Q) (h : Q * v ≤ Uk) : Q ≤ top / vt := by
  apply (Int.le_ediv_iff_mul_le h6).2
  have e : Q * v = (Q * vt) * P + Q * vl := by rw [h4, Int.mul_add, Int.mul_assoc]
  have h7 := Int.mul_nonneg hQ h5
  have h8 : (Q * vt) * P < (top + 1) * P := by rw [Int.add_mul, Int.one_mul]; omega
  have h9 := Int.lt_of_mul_lt_mul_right h8 (Int.le_of_lt hP)
  omega
/-- What the two highest digits are. -/
theorem top_two (us : List Int) (k n : Nat) (hn : 1 ≤ n) (hz : vd (us.drop (k + n + 1)) = 0) : vd (us.drop k) = (gx us (k + n) * 65536 + gx us (k + n - 1)) * pd (n - 1) + vd ((us.drop k).take (n - 1)) := by
  rw [vd_cut (us.drop k) (n - 1), List.drop_drop, show k + (n - 1) = k + n - 1 by omega, vd_drop_next us (k + n - 1), show k + n - 1 + 1 = k + n by omega, vd_drop_next us (k + n), hz, Int.mul_comm (pd (n - 1))]
  have : gx us (k + n - 1) + 65536 * (gx us (k + n) + 65536 * 0) = gx us (k + n) * 65536 + gx us (k + n - 1) := by omega
  rw [this]
  omega
theorem drop_zero_of {us : List Int} (h : U16 us) {k n : Nat} {v : Int} (h1 : vd (us.drop k) < v) (h2 : v ≤ pd n) : vd (us.drop (k + n)) = 0 := by
  have e := vd_cut (us.drop k) n
  rw [List.drop_drop] at e
  have h3 := vd_nonneg (u16_take (u16_drop h k) n)
  have h4 := vd_nonneg (u16_drop h (k + n))
  rcases (show vd (us.drop (k + n)) = 0 ∨ 1 ≤ vd (us.drop (k + n)) by omega) with h5 | h5
  · exact h5
  · have : pd n * 1 ≤ pd n * vd (us.drop (k + n)) := Int.mul_le_mul_of_nonneg_left h5 (Int.le_of_lt (pd_pos n))
    omega
theorem quo_mul {x y : Int} (hy : 0 < y) : x / y * y ≤ x ∧ x < (x / y + 1) * y := by
  have h1 := Int.emod_add_mul_ediv x y
  have h2 := Int.emod_nonneg x (show y ≠ 0 by omega)
  have h3 := Int.emod_lt_of_pos x hy
  rw [Int.mul_comm y] at h1
  rw [Int.add_mul, Int.one_mul]
  constructor <;> omega
end Go.Proofs.YtcdfckjlmifjiaaGreat
/-
  ashlarref1.cmp.
-/
namespace Go.Proofs.YtcdfckjlmifjiaaGreat
open Go.RowKit
set_option linter.unusedVariables false
set_option linter.unusedSimpArgs false

set_option maxHeartbeats 1000000 in
/-- ashlarref1.cmp. -/
theorem rcmp_any (p q : Option Addr) (n nc m mc : Nat) (xs ys : List Int) (w : World) (hn : xs.length = n) (hm : ys.length = m) (hnb : n ≤ 1000000000) (hmb : m ≤ 1000000000) (tx : tlen xs = n) (ty : tlen ys = m)
    (hX : Rd w p .i64 xs) (hXu : U16 xs) (hY : Rd w q .i64 ys) (hYu : U16 ys) :
    Calls Tryz.prog 93 #[.slice p n nc, .slice q m mc] w fun e w' => e = .returned (.int .i64 (icmp (vd xs) (vd ys))) ∧ Below w.heap.size w w' := by
  by_cases hne : n = m
  · subst hne
    have hb : ((n : Int) != (n : Int)) = false := by simp
    go_enter Tryz.func93, Tryz.ntmps93
    go_wp2_with fail
    go_loopw [5] (fun iv wr => ∃ k : Nat, k ≤ n ∧ iv = .int .i64 ((k : Int) - 1) ∧ Hid (xs.drop k = ys.drop k ∧ Below w.heap.size w wr)) (fun iv _ => (intOf iv + 1).toNat)
    case atStart =>
      refine ⟨n, Nat.le_refl _, by go_num, ?_, Below.refl _ _⟩
      rw [List.drop_of_length_le (by omega), List.drop_of_length_le (by omega)]
    case round =>
      obtain ⟨k, hk, rfl, H⟩ := hrel
      by_cases h0 : k = 0
      · subst h0
        go_wp2
        go_ret
        obtain ⟨hd, hb⟩ := H.out
        rw [List.drop_zero, List.drop_zero] at hd
        rw [hd, icmp_eq]
        exact ⟨rfl, hb⟩
      · obtain ⟨j, rfl⟩ : ∃ j, k = j + 1 := ⟨k - 1, by omega⟩
        have ej : ((j + 1 : Nat) : Int) - 1 = (j : Int) := by omega
        rw [ej]
        clear ej
        obtain ⟨hd, hb⟩ := H.out
        obtain ⟨b1, o1, rfl, hc1⟩ := (hX.below hb) (by omega)
        obtain ⟨b2, o2, rfl, hc2⟩ := (hY.below hb) (by omega)
        have g1 := hc1 j (by omega)
        have g2 := hc2 j (by omega)
        clear hc1 hc2 hd hb
        rcases Int.lt_trichotomy (gx xs j) (gx ys j) with hc | hc | hc
        · go_wp2
          go_quiet (fail)
          have hB := below_drewN H.out.2 nq
          generalize wr.drewN nq = wq at *
          go_wp2
          go_ret
          obtain ⟨hd, hb⟩ := H.out
          rw [icmp_lt (vd_lt_at hXu hYu j (by omega) (by omega) hd hc)]
          exact ⟨rfl, hB⟩
        · have hc1 : ¬ gx xs j < gx ys j := by omega
          have hc2 : ¬ gx ys j < gx xs j := by omega
          have HC : Hid (gx xs j = gx ys j) := hc
          clear hc
          go_wp2
          go_quiet (fail)
          have hB := below_drewN H.out.2 nq
          have e1 : (wr.drewN nq).cell? ⟨b1, o1 + j, none⟩ = some (.int .i64 (gx xs j)) := g1
          have e2 : (wr.drewN nq).cell? ⟨b2, o2 + j, none⟩ = some (.int .i64 (gx ys j)) := g2
          generalize wr.drewN nq = wq at *
          go_wp2
          go_quiet (fail)
          go_wp2
          obtain ⟨hd, hb⟩ := H.out
          refine ⟨⟨j, by omega, by go_num, drop_step j (by omega) (by omega) hd HC.out, below_drewN hB _⟩, by simp [intOf]⟩
        · have hc1 : ¬ gx xs j < gx ys j := by omega
          go_wp2
          go_quiet (fail)
          have hB := below_drewN H.out.2 nq
          have e1 : (wr.drewN nq).cell? ⟨b1, o1 + j, none⟩ = some (.int .i64 (gx xs j)) := g1
          have e2 : (wr.drewN nq).cell? ⟨b2, o2 + j, none⟩ = some (.int .i64 (gx ys j)) := g2
          generalize wr.drewN nq = wq at *
          go_wp2
          go_quiet (fail)
          go_wp2
          go_ret
          obtain ⟨hd, hb⟩ := H.out
          rw [icmp_gt (vd_lt_at hYu hXu j (by omega) (by omega) hd.symm hc)]
          exact ⟨rfl, below_drewN hB _⟩
  · have hb : ((n : Int) != (m : Int)) = true := by rw [bne_iff_ne]; omega
    rcases Nat.lt_or_ge n m with h | h
    · have h1 : (n : Int) < (m : Int) := by omega
      go_enter Tryz.func93, Tryz.ntmps93
      go_wp2
      go_ret
      rw [icmp_lt (vd_lt_len hXu hYu (by omega))]
      exact ⟨rfl, Below.refl _ _⟩
    · have h1 : ¬ (n : Int) < (m : Int) := by omega
      go_enter Tryz.func93, Tryz.ntmps93
      go_wp2
      go_ret
      rw [icmp_gt (vd_lt_len hYu hXu (by omega))]
      exact ⟨rfl, Below.refl _ _⟩
end Go.Proofs.YtcdfckjlmifjiaaGreat
