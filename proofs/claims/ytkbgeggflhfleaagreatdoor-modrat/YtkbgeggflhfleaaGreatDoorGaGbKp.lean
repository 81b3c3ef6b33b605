/-
  Lehmer's steps, stopped by Collins's condition: plain facts.
-/
import Derived.Test.YtkbgeggflhfleaaGreatDoorH2Pl
import Derived.Test.YtkbgeggflhfleaaGreatDoorUaWhPnWk
import Derived.Lib.EndianBits
import Derived.Test.YtkbgeggflhfleaaGreatDoorMmWa
namespace Go.Proofs.YtkbgeggflhfleaaGreatDoor
open Go.RowKit
set_option linter.unusedVariables false
set_option linter.unusedSimpArgs false
set_option maxHeartbeats 8000000
def rem0 (sg s t a b : Int) : Int := -sg * (s * a - t * b)
def rem1 (sg s t a b : Int) : Int := sg * (s * a - t * b)
structure La (a b F p0 q0 sg p q s0 s1 s2 t0 t1 t2 : Int) : Prop where
  hs : sg = 1 ∨ sg = -1
  ep : p = sg * (s1 * p0 - t1 * q0)
  eq : q = -sg * (s2 * p0 - t2 * q0)
  idn : t2 * p + t1 * q = p0
  s1n : 0 ≤ s1
  s2n : 0 ≤ s2
  t1n : 0 ≤ t1
  t2n : 1 ≤ t2
  t12 : t1 ≤ t2
  st2 : s2 ≤ t2
  st12 : s1 + s2 ≤ t1 + t2
  qn : 0 ≤ q
  pq : q ≤ p
  pp : p ≤ p0
  g : Int.gcd (rem1 sg s1 t1 a b) (rem0 sg s2 t2 a b) = Int.gcd a b
  prev : (s0 = 0 ∧ t0 = 0 ∧ s1 = 1 ∧ t1 = 0 ∧ s2 = 0 ∧ t2 = 1 ∧ sg = 1) ∨
    (0 ≤ s0 ∧ 0 ≤ t0 ∧ t0 ≤ t1 ∧ t1 < 1073741824 ∧ s0 < 1073741824 ∧ s1 ≤ t1 ∧ 1 ≤ t1 ∧ 0 ≤ rem1 sg s1 t1 a b ∧ rem1 sg s1 t1 a b < rem0 sg s0 t0 a b ∧ rem1 sg s1 t1 a b ≤ b ∧ (t0 = 0 ∨ rem0 sg s0 t0 a b ≤ b) ∧ Int.gcd (rem0 sg s0 t0 a b) (rem1 sg s1 t1 a b) = Int.gcd a b)
theorem La.start {a b F p0 q0 : Int} (hq : 0 ≤ q0) (hp : q0 ≤ p0) : La a b F p0 q0 1 p0 q0 0 1 0 0 0 1 := by
  refine ⟨.inl rfl, by omega, by omega, by omega, by decide, by decide, by decide, by decide, by decide, by decide, by decide, hq, hp, Int.le_refl _, ?_, .inl ⟨rfl, rfl, rfl, rfl, rfl, rfl, rfl⟩⟩
  rw [rem1, rem0, show (1 : Int) * (1 * a - 0 * b) = a by omega, show -(1 : Int) * (0 * a - 1 * b) = b by omega]
theorem rest_lo {F al be s t : Int} (hF : 0 < F) (ha0 : 0 ≤ al) (ha1 : al < F) (hb0 : 0 ≤ be) (hb1 : be < F) (hs0 : 0 ≤ s) (ht0 : 0 ≤ t) (hst : s ≤ t) :
    -(t * (F - 1)) ≤ s * al - t * be ∧ s * al - t * be ≤ t * (F - 1) := by
  have h1 : s * al ≤ s * (F - 1) := Int.mul_le_mul_of_nonneg_left (by omega) hs0
  have h2 : s * (F - 1) ≤ t * (F - 1) := Int.mul_le_mul_of_nonneg_right hst (by omega)
  have h3 : t * be ≤ t * (F - 1) := Int.mul_le_mul_of_nonneg_left (by omega) ht0
  have h4 : 0 ≤ s * al := Int.mul_nonneg hs0 ha0
  have h5 : 0 ≤ t * be := Int.mul_nonneg ht0 hb0
  constructor <;> omega
theorem sg_bd {sg x M : Int} (hs : sg = 1 ∨ sg = -1) (h : -M ≤ x ∧ x ≤ M) : -M ≤ sg * x ∧ sg * x ≤ M := by
  rcases hs with rfl | rfl <;> omega
theorem sq_lt {t p p0 : Int} (ht : 1 ≤ t) (hp : t ≤ p) (h : t * p ≤ p0) (h0 : p0 < 1152921504606846976) : t < 1073741824 := by
  rcases (show t < 1073741824 ∨ 1073741824 ≤ t by omega) with h1 | h1
  · exact h1
  · exfalso
    have h2 : t * 1073741824 ≤ t * p := Int.mul_le_mul_of_nonneg_left (by omega) (by omega)
    have h3 : 1073741824 * 1073741824 ≤ t * 1073741824 := Int.mul_le_mul_of_nonneg_right h1 (by decide)
    omega
theorem La.step {a b F p0 q0 sg p q s0 s1 s2 t0 t1 t2 al be : Int} (h : La a b F p0 q0 sg p q s0 s1 s2 t0 t1 t2) (hF : 0 < F) (hp0 : p0 < 1152921504606846976)
    (ea : a = p0 * F + al) (eb : b = q0 * F + be) (ha0 : 0 ≤ al) (ha1 : al < F) (hb0 : 0 ≤ be) (hb1 : be < F)
    (c1 : t2 ≤ q) (c2 : t1 + t2 ≤ p - q) : La a b F p0 q0 (-sg) q (p % q) s1 s2 (s1 + p / q * s2) t1 t2 (t1 + p / q * t2) := by
  have t2n := h.t2n
  have t1n := h.t1n
  have hq : 0 < q := by omega
  have hd : 1 ≤ p / q := (Int.le_ediv_iff_mul_le hq).2 (by have := h.pq; omega)
  have hm : p % q = p - p / q * q := by have := Int.emod_add_mul_ediv p q; rw [Int.mul_comm q] at this; omega
  have hm0 := Int.emod_nonneg p (show q ≠ 0 by omega)
  have hm1 := Int.emod_lt_of_pos p hq
  generalize p / q = d at *
  have hs2 := Int.mul_nonneg (show 0 ≤ d by omega) h.s2n
  have ht2 : t2 ≤ d * t2 := by have := Int.mul_le_mul_of_nonneg_right hd (show 0 ≤ t2 by omega); omega
  have hds : (d - 1) * s2 ≤ (d - 1) * t2 := Int.mul_le_mul_of_nonneg_left h.st2 (by omega)
  rw [Int.sub_mul, Int.sub_mul, Int.one_mul, Int.one_mul] at hds
  have hst12 := h.st12
  have hst2 := h.st2
  have hs1n := h.s1n
  have hs2n := h.s2n
  -- what is left
  have e2 : rem0 sg s2 t2 a b = F * q - sg * (s2 * al - t2 * be) := by rw [rem0, ea, eb, h.eq]; grind
  have e1 : rem1 sg s1 t1 a b - rem0 sg s2 t2 a b = F * (p - q) + sg * ((s1 + s2) * al - (t1 + t2) * be) := by rw [rem0, rem1, ea, eb, h.eq, h.ep]; grind
  have b2 := sg_bd h.hs (rest_lo hF ha0 ha1 hb0 hb1 h.s2n (by omega) h.st2)
  have b1 := sg_bd h.hs (rest_lo hF ha0 ha1 hb0 hb1 (s := s1 + s2) (t := t1 + t2) (by omega) (by omega) h.st12)
  have k2 : F * t2 ≤ F * q := Int.mul_le_mul_of_nonneg_left c1 (by omega)
  have k1 : F * (t1 + t2) ≤ F * (p - q) := Int.mul_le_mul_of_nonneg_left c2 (by omega)
  have m2 : t2 * (F - 1) = F * t2 - t2 := by rw [Int.mul_sub, Int.mul_comm F]; omega
  have m1 : (t1 + t2) * (F - 1) = F * (t1 + t2) - (t1 + t2) := by rw [Int.mul_sub, Int.mul_comm F]; omega
  have x2 : 0 ≤ rem0 sg s2 t2 a b := by omega
  have x1 : rem0 sg s2 t2 a b < rem1 sg s1 t1 a b := by omega
  have f1 : rem1 (-sg) s2 t2 a b = rem0 sg s2 t2 a b := rfl
  have f0 : rem0 (-sg) s1 t1 a b = rem1 sg s1 t1 a b := by rw [rem0, rem1, Int.neg_neg]
  have f2 : rem0 (-sg) (s1 + d * s2) (t1 + d * t2) a b = rem1 sg s1 t1 a b - d * rem0 sg s2 t2 a b := by rw [rem0, rem1, rem0]; grind
  have hid := h.idn
  have htq := Int.mul_nonneg t1n h.qn
  refine ⟨by rcases h.hs with e | e <;> omega, h.eq, ?_, ?_, h.s2n, by omega, by omega, by omega, by omega, by omega, by omega, hm0, by omega, by have := h.pp; have := h.pq; omega, ?_, .inr ⟨h.s1n, h.t1n, h.t12, ?_, ?_, h.st2, h.t2n, by rw [f1]; exact x2, by rw [f1, f0]; exact x1, ?_, ?_, ?_⟩⟩
  · rw [hm, h.ep, h.eq]; grind
  · rw [hm]
    have : (t1 + d * t2) * q + t2 * (p - d * q) = t2 * p + t1 * q := by grind
    omega
  · rw [f1, f2, Int.gcd_sub_mul_right_right, Int.gcd_comm]; exact h.g
  · exact sq_lt (p := p) h.t2n (by have := h.qn; omega) (by omega) hp0
  · rcases h.prev with ⟨_, _, e, _⟩ | ⟨_, _, _, e, _, e', _⟩
    · omega
    · omega
  · rw [f1]
    rcases h.prev with ⟨_, _, _, _, e3, e4, e5⟩ | ⟨_, _, _, _, _, _, _, _, _, e, _⟩
    · rw [e3, e4, e5, rem0]; omega
    · omega
  · rw [f0]
    rcases h.prev with ⟨_, _, _, e, _⟩ | ⟨_, _, _, _, _, _, _, _, _, e, _⟩
    · exact .inl e
    · exact .inr e
  · rw [f0, f1]; exact h.g
theorem La.done {a b F p0 q0 sg p q s0 s1 s2 t0 t1 t2 : Int} (h : La a b F p0 q0 sg p q s0 s1 s2 t0 t1 t2) (ht : 0 < t0) :
    0 ≤ s0 ∧ s0 < 1073741824 ∧ t0 < 1073741824 ∧ 0 ≤ s1 ∧ s1 < 1073741824 ∧ 0 ≤ t1 ∧ t1 < 1073741824 ∧ 0 ≤ rem1 sg s1 t1 a b ∧ rem1 sg s1 t1 a b < rem0 sg s0 t0 a b ∧ rem0 sg s0 t0 a b ≤ b ∧ Int.gcd (rem0 sg s0 t0 a b) (rem1 sg s1 t1 a b) = Int.gcd a b := by
  rcases h.prev with ⟨_, e, _⟩ | ⟨h1, h2, h3, h4, h5, h6, h7, h8, h9, h10, h11, h12⟩
  · omega
  · exact ⟨h1, h5, by omega, h.s1n, by omega, h.t1n, h4, h8, h9, by rcases h11 with e | e; omega; exact e, h12⟩
theorem La.bd {a b F p0 q0 sg p q s0 s1 s2 t0 t1 t2 : Int} (h : La a b F p0 q0 sg p q s0 s1 s2 t0 t1 t2) (hq : 0 < p) (hp0 : p0 < 1152921504606846976) :
    0 ≤ s0 ∧ s0 < 1073741824 ∧ 0 ≤ t0 ∧ t0 < 1073741824 ∧ s1 ≤ 1073741824 ∧ t1 < 1073741824 ∧ t2 ≤ p0 ∧ s2 ≤ p0 := by
  have h1 : t2 * 1 ≤ t2 * p := Int.mul_le_mul_of_nonneg_left (by omega) (by have := h.t2n; omega)
  have h2 := Int.mul_nonneg h.t1n h.qn
  have h3 := h.idn
  have h4 := h.st2
  rcases h.prev with ⟨e1, e2, e3, e4, _⟩ | ⟨h1, h2, h3, h4, h5, h6, h7, h8, h9, h10, h11, h12⟩ <;> refine ⟨by omega, by omega, by omega, by omega, by omega, by omega, by omega, by omega⟩
theorem val_drop_next (xs : List Int) (i : Nat) : val (xs.drop i) = gx xs i + 4294967296 * val (xs.drop (i + 1)) := by
  by_cases h : i < xs.length
  · rw [drop_cons xs i h]; rfl
  · rw [List.drop_of_length_le (by omega), List.drop_of_length_le (by omega), gx_past xs i (by omega) i (Nat.le_refl _)]; rfl
theorem val_cut (xs : List Int) (i : Nat) : val xs = val (xs.take i) + pw i * val (xs.drop i) := by
  by_cases h : i ≤ xs.length
  · exact val_drop_take xs i h
  · rw [List.take_of_length_le (by omega), List.drop_of_length_le (by omega)]; simp [val]
theorem pw_two (i : Nat) : pw i = 2 ^ (32 * i) := by
  unfold pw
  rw [Int.pow_mul]
  rfl
theorem val_div_pw {xs : List Int} (h : U32 xs) (i : Nat) : val xs / pw i = val (xs.drop i) := by
  have h1 := val_nonneg (u32_take h i)
  have h2 := val_lt (u32_take h i)
  have h3 : pw (xs.take i).length ≤ pw i := pw_mono (List.length_take_le _ _)
  have h4 := pw_pos i
  rw [val_cut xs i, Int.add_mul_ediv_left _ _ (by omega), Int.ediv_eq_zero_of_lt h1 (by omega), Int.zero_add]
theorem two_le {a b : Nat} (h : a ≤ b) : (2 : Int) ^ a ≤ 2 ^ b := by
  obtain ⟨c, rfl⟩ := Nat.exists_eq_add_of_le h
  rw [Int.pow_add]
  have h1 : (0 : Int) < 2 ^ a := Int.pow_pos (by decide)
  have h2 : (0 : Int) < 2 ^ c := Int.pow_pos (by decide)
  have : (2 : Int) ^ a * 1 ≤ 2 ^ a * 2 ^ c := Int.mul_le_mul_of_nonneg_left (by omega) (by omega)
  omega
theorem two_split (off : Nat) (h : off ≤ 64) : (2 : Int) ^ off * 2 ^ (64 - off) = 18446744073709551616 := by
  rw [← Int.pow_add, show off + (64 - off) = 64 by omega]; rfl
theorem bits_from {xs : List Int} (hU : U32 xs) (i off : Nat) (hoff : off < 32) (hv : val xs < 2 ^ (32 * i + off) * 1152921504606846976) :
    val xs / 2 ^ (32 * i + off) = (gx xs i + 4294967296 * gx xs (i + 1)) / 2 ^ off + gx xs (i + 2) * 2 ^ (64 - off) ∧ gx xs (i + 2) * 2 ^ (64 - off) < 1152921504606846976 ∧ 0 ≤ (gx xs i + 4294967296 * gx xs (i + 1)) / 2 ^ off ∧ (gx xs i + 4294967296 * gx xs (i + 1)) / 2 ^ off < 2 ^ (64 - off) := by
  have hE : (0 : Int) < 2 ^ off := Int.pow_pos (by decide)
  have hG : (0 : Int) < 2 ^ (64 - off) := Int.pow_pos (by decide)
  have hEG := two_split off (by omega)
  have hE31 : (2 : Int) ^ off ≤ 2147483648 := by have := two_le (show off ≤ 31 by omega); omega
  have h0 := hU i
  have h1 := hU (i + 1)
  have h2 := hU (i + 2)
  have hr := val_nonneg (u32_drop hU (i + 1 + 1 + 1))
  have e0 := val_drop_next xs i
  have e1 := val_drop_next xs (i + 1)
  have e2 := val_drop_next xs (i + 1 + 1)
  rw [show i + 1 + 1 = i + 2 from rfl] at e1 e2 hr
  have hP := pw_pos i
  have ep : (2 : Int) ^ (32 * i + off) = pw i * 2 ^ off := by rw [Int.pow_add, pw_two]
  have hd := val_div_pw hU i
  rw [ep, ← Int.ediv_ediv_of_nonneg (Int.le_of_lt hP), hd]
  rw [ep, Int.mul_assoc] at hv
  have hlt : val (xs.drop i) < 2 ^ off * 1152921504606846976 := by
    rw [← hd]
    exact Int.ediv_lt_of_lt_mul hP (by rw [Int.mul_comm]; exact hv)
  generalize (2 : Int) ^ off = E at *
  generalize (2 : Int) ^ (64 - off) = G at *
  generalize val (xs.drop (i + 2 + 1)) = r at *
  have e3 : val (xs.drop i) = (gx xs i + 4294967296 * gx xs (i + 1)) + 18446744073709551616 * gx xs (i + 2) + 79228162514264337593543950336 * r := by
    rw [e0, e1, e2]; omega
  have hr0 : r = 0 := by omega
  have hm1 : (gx xs i + 4294967296 * gx xs (i + 1)) / E < G := Int.ediv_lt_of_lt_mul hE (by rw [Int.mul_comm G, hEG]; omega)
  have hm0 : 0 ≤ (gx xs i + 4294967296 * gx xs (i + 1)) / E := Int.ediv_nonneg (by omega) (Int.le_of_lt hE)
  have e4 : val (xs.drop i) / E = (gx xs i + 4294967296 * gx xs (i + 1)) / E + gx xs (i + 2) * G := by
    rw [e3, hr0, ← hEG, show gx xs i + 4294967296 * gx xs (i + 1) + E * G * gx xs (i + 2) + 79228162514264337593543950336 * 0 = gx xs i + 4294967296 * gx xs (i + 1) + E * (gx xs (i + 2) * G) by rw [Int.mul_assoc, Int.mul_comm G]; omega, Int.add_mul_ediv_left _ _ (by omega)]
  have hq : val (xs.drop i) / E < 1152921504606846976 := Int.ediv_lt_of_lt_mul hE (by rw [Int.mul_comm 1152921504606846976]; exact hlt)
  exact ⟨e4, by omega, hm0, hm1⟩
theorem or_bits (x y : Int) (s : Nat) (hs : s ≤ 64) (hx0 : 0 ≤ x) (hx : x < 2 ^ s) (hy0 : 0 ≤ y) (hy : y * 2 ^ s < 18446744073709551616) : bits .or .u64 x (y * 2 ^ s) = x + y * 2 ^ s := by
  have h1 : (2 : Int) ^ s ≤ 2 ^ 64 := two_le hs
  have h2 : (2 : Int) ^ 64 = 18446744073709551616 := rfl
  have hp : (0 : Int) < 2 ^ s := Int.pow_pos (by decide)
  exact bits_join_low .u64 64 (by decide) (fun n a b => by rw [IntKind.wrap_u64]; omega) s x (y * 2 ^ s) hx0 hx (by omega) (Int.mul_nonneg hy0 (by omega)) (Int.mul_emod_left ..) (by omega)
theorem gcd_step {x y q r : Int} (h : q * y + r = x) : Int.gcd y r = Int.gcd x y := by
  rw [← h, Int.add_comm, Int.gcd_comm (r + q * y), Int.gcd_add_mul_right_right]
structure Kp (g h : Nat) (w w' : World) : Prop where
  block : ∀ k, k < w.heap.size → k ≠ g → k ≠ h → w'.heap[k]? = w.heap[k]?
  os : w'.os = w.os
  tape : w'.tape = w.tape
  output : w'.output = w.output
  size : w.heap.size ≤ w'.heap.size
theorem Kp.refl (g h : Nat) (w : World) : Kp g h w w := ⟨fun _ _ _ _ => rfl, rfl, rfl, rfl, Nat.le_refl _⟩
end Go.Proofs.YtkbgeggflhfleaaGreatDoor
