/-
  Plain: the value of a polynomial.
-/
import Derived.Test.YtdjjlghlcffflaaGreatDoorWjUlUmVsUoDmVt
import Derived.Test.YtdjjlghlcffflaaGreatDoorAfBpBnBoAhAdBsDtAgWvUhAiRzVdRtDhVeRsVfVcAj
import Derived.Test.YtdjjlghlcffflaaGreatDoorVqDcUjLeUkWi
import Derived.Test.YtdjjlghlcffflaaGreatDoorWkWlBxBbCvNjUbUcUdOwRaWmBe
import Derived.Test.YtdjjlghlcffflaaGreatDoorRdLnWrIbWg
import Derived.Test.YtdjjlghlcffflaaGreatDoorPlMmWaWbWc
import Derived.Test.YtdjjlghlcffflaaGreatDoorUaVgOnWhPn
import Derived.Lib.EndianBits
namespace Go.Proofs.YtdjjlghlcffflaaGreatDoor
open Go.RowKit
set_option linter.unusedVariables false
set_option linter.unusedSimpArgs false
set_option maxHeartbeats 8000000
theorem ps_past (zs ys : List Int) (t : Nat) : ∀ m, ps zs ys (zs.length + m) t = ps zs ys zs.length t
  | 0 => rfl
  | m + 1 => by rw [← Nat.add_assoc, ps_none zs ys _ t (gx_past zs _ (Nat.le_refl _) _ (by omega)), ps_past zs ys t m]
theorem ps_late (zs ys : List Int) (t : Nat) : ∀ m, ps zs ys (t + 1 + m) t = ps zs ys (t + 1) t
  | 0 => rfl
  | m + 1 => by
    rw [← Nat.add_assoc, ps, ps_late zs ys t m, if_neg (by omega), Int.add_zero]
theorem ps_nil (zs : List Int) (t : Nat) : ∀ i, ps zs [] i t = 0
  | 0 => rfl
  | i + 1 => by rw [ps, ps_nil zs t i]; simp [gx]
theorem gx_mulp (zs ys : List Int) (t : Nat) : gx (mulp zs ys) t = ps zs ys (t + 1) t := by
  have h0 : ps zs ys (t + 1) t = ps zs ys zs.length t := by
    have h1 := ps_late zs ys t (zs.length)
    have h2 := ps_past zs ys t (t + 1)
    rw [Nat.add_comm] at h2
    rw [← h1, h2]
  rw [h0, mulp]
  by_cases h : zs.length = 0 ∨ ys.length = 0
  · rw [if_pos h]
    rcases h with h | h
    · rw [h]; rfl
    · rw [List.eq_nil_of_length_eq_zero h, ps_nil]; rfl
  · rw [if_neg h]
    rcases Nat.lt_or_ge t (zs.length + ys.length - 1) with h1 | h1
    · rw [gx_mulz _ _ _ h1]
    · rw [gx_past _ (zs.length + ys.length - 1) (by rw [length_mulz]; exact Nat.le_refl _) t h1, ps_far zs ys t zs.length (by omega)]
def sq (f : Nat → Int) : Nat → Int
  | 0 => 0
  | n + 1 => sq f n + f n
theorem sq_congr {f g : Nat → Int} : ∀ n, (∀ i, i < n → f i = g i) → sq f n = sq g n
  | 0, _ => rfl
  | n + 1, h => by rw [sq, sq, sq_congr n fun i hi => h i (by omega), h n (by omega)]
theorem sq_front (f : Nat → Int) : ∀ n, sq f (n + 1) = f 0 + sq (fun i => f (i + 1)) n
  | 0 => by simp [sq]
  | n + 1 => by rw [sq, sq_front f n, sq]; omega
theorem sq_rev (f : Nat → Int) : ∀ n, sq (fun i => f (n - 1 - i)) n = sq f n
  | 0 => rfl
  | n + 1 => by
    rw [sq_front, sq]
    have h := sq_rev f n
    have h1 : sq (fun i => f (n + 1 - 1 - (i + 1))) n = sq (fun i => f (n - 1 - i)) n := sq_congr n fun i hi => by
      show f _ = f _
      congr 1
      omega
    rw [h1, h]
    show f n + _ = _
    omega
theorem ps_sq (zs ys : List Int) (t : Nat) : ∀ n, n ≤ t + 1 → ps zs ys n t = sq (fun i => gx zs i * gx ys (t - i)) n
  | 0, _ => rfl
  | n + 1, h => by
    rw [ps, sq, ps_sq zs ys t n (by omega)]
    first | rw [if_pos (by omega)] | rw [if_neg (by omega)]
theorem mulp_comm (a b : List Int) : mulp a b = mulp b a := by
  have hl : (mulp a b).length = (mulp b a).length := by
    unfold mulp
    by_cases h : a.length = 0 ∨ b.length = 0
    · rw [if_pos h, if_pos h.symm]
    · rw [if_neg h, if_neg (fun e => h e.symm), length_mulz, length_mulz]
      omega
  refine gx_ext _ _ hl fun t ht => ?_
  rw [gx_mulp, gx_mulp, ps_sq _ _ _ _ (Nat.le_refl _), ps_sq _ _ _ _ (Nat.le_refl _), ← sq_rev]
  refine sq_congr _ fun i hi => ?_
  show gx a (t + 1 - 1 - i) * gx b (t - (t + 1 - 1 - i)) = _
  rw [show t + 1 - 1 - i = t - i by omega, show t - (t - i) = i by omega, Int.mul_comm]
theorem ps_sum {zs a b c : List Int} (h : ∀ j, gx a j = gx b j + gx c j) (t : Nat) : ∀ i, ps zs a i t = ps zs b i t + ps zs c i t
  | 0 => rfl
  | i + 1 => by
    rw [ps, ps, ps, ps_sum h t i]
    split
    · rw [h, Int.mul_add]; omega
    · omega
theorem ps_same {zs zs' ys ys' : List Int} (h : ∀ j, gx zs j = gx zs' j) (k : ∀ j, gx ys j = gx ys' j) (t : Nat) : ∀ i, ps zs ys i t = ps zs' ys' i t
  | 0 => rfl
  | i + 1 => by rw [ps, ps, ps_same h k t i, h, k]
theorem zb_le_of {z : Int} {b : Nat} (h : (z.natAbs : Int) < 2 ^ b) : zb z ≤ b := by
  rcases Nat.lt_or_ge b (zb z) with h1 | h1
  · exfalso
    have h2 := p2_mono (show b ≤ zb z - 1 by omega)
    rcases (zb_ib z).2.2 with h3 | h3
    · omega
    · omega
  · exact h1
theorem Sub_ev {w : World} {K L : Nat} {x y : Int} {e f : Ent} (h : EV w K x e) (k : EV w L y f) : Calls Tryz.prog 82 #[.agg #[.bool e.s, .slice e.p e.n e.c], .agg #[.bool f.s, .slice f.p f.n f.c]] w fun r w' => ∃ u : Ent, r = .returned (.agg #[.bool u.s, .slice u.p u.n u.c]) ∧ NV w.heap.size w' (K + L + 1) (x - y) u ∧ Below w.heap.size w w' := by
  obtain ⟨xs, h1, rfl, h3⟩ := h
  obtain ⟨ys, k1, rfl, k3⟩ := k
  refine (Sub_any e.s f.s e.p f.p e.n e.c f.n f.c xs ys w h1 k1).mono ?_
  rintro r w' ⟨s', p', n', zs, g1, g2, g3, g4⟩
  exact ⟨⟨s', p', n', n'⟩, g1, ⟨zs, g2, rfl, by show n' ≤ _; omega⟩, g4⟩
def rem0 (sg s t a b : Int) : Int := -sg * (s * a - t * b)
def rem1 (sg s t a b : Int) : Int := sg * (s * a - t * b)
structure La (a b F p0 q0 sg p q s0 s1 s2 t0 t1 t2 : Int) : Prop where
  hs : sg = 1 ∨ sg = -1
  ep : p = sg * (s1 * p0 - t1 * q0)
  eq : q = -sg * (s2 * p0 - t2 * q0)
  idn : t2 * p + t1 * q = p0
  s1n : 0 ≤ s1
  s2n : 0 ≤ s2
  t1n : 0 ≤ t1
  t2n : 1 ≤ t2
  t12 : t1 ≤ t2
  st2 : s2 ≤ t2
  st12 : s1 + s2 ≤ t1 + t2
  qn : 0 ≤ q
  pq : q ≤ p
  pp : p ≤ p0
  g : Int.gcd (rem1 sg s1 t1 a b) (rem0 sg s2 t2 a b) = Int.gcd a b
  prev : (s0 = 0 ∧ t0 = 0 ∧ s1 = 1 ∧ t1 = 0 ∧ s2 = 0 ∧ t2 = 1 ∧ sg = 1) ∨
    (0 ≤ s0 ∧ 0 ≤ t0 ∧ t0 ≤ t1 ∧ t1 < 1073741824 ∧ s0 < 1073741824 ∧ s1 ≤ t1 ∧ 1 ≤ t1 ∧ 0 ≤ rem1 sg s1 t1 a b ∧ rem1 sg s1 t1 a b < rem0 sg s0 t0 a b ∧ rem1 sg s1 t1 a b ≤ b ∧ (t0 = 0 ∨ rem0 sg s0 t0 a b ≤ b) ∧ Int.gcd (rem0 sg s0 t0 a b) (rem1 sg s1 t1 a b) = Int.gcd a b)
theorem La.start {a b F p0 q0 : Int} (hq : 0 ≤ q0) (hp : q0 ≤ p0) : La a b F p0 q0 1 p0 q0 0 1 0 0 0 1 := by
  refine ⟨.inl rfl, by omega, by omega, by omega, by decide, by decide, by decide, by decide, by decide, by decide, by decide, hq, hp, Int.le_refl _, ?_, .inl ⟨rfl, rfl, rfl, rfl, rfl, rfl, rfl⟩⟩
  rw [rem1, rem0, show (1 : Int) * (1 * a - 0 * b) = a by omega, show -(1 : Int) * (0 * a - 1 * b) = b by omega]
theorem rest_lo {F al be s t : Int} (hF : 0 < F) (ha0 : 0 ≤ al) (ha1 : al < F) (hb0 : 0 ≤ be) (hb1 : be < F) (hs0 : 0 ≤ s) (ht0 : 0 ≤ t) (hst : s ≤ t) :
    -(t * (F - 1)) ≤ s * al - t * be ∧ s * al - t * be ≤ t * (F - 1) := by
  have h1 : s * al ≤ s * (F - 1) := Int.mul_le_mul_of_nonneg_left (by omega) hs0
  have h2 : s * (F - 1) ≤ t * (F - 1) := Int.mul_le_mul_of_nonneg_right hst (by omega)
  have h3 : t * be ≤ t * (F - 1) := Int.mul_le_mul_of_nonneg_left (by omega) ht0
  have h4 : 0 ≤ s * al := Int.mul_nonneg hs0 ha0
  have h5 : 0 ≤ t * be := Int.mul_nonneg ht0 hb0
  constructor <;> omega
theorem sg_bd {sg x M : Int} (hs : sg = 1 ∨ sg = -1) (h : -M ≤ x ∧ x ≤ M) : -M ≤ sg * x ∧ sg * x ≤ M := by
  rcases hs with rfl | rfl <;> omega
theorem sq_lt {t p p0 : Int} (ht : 1 ≤ t) (hp : t ≤ p) (h : t * p ≤ p0) (h0 : p0 < 1152921504606846976) : t < 1073741824 := by
  rcases (show t < 1073741824 ∨ 1073741824 ≤ t by omega) with h1 | h1
  · exact h1
  · exfalso
    have h2 : t * 1073741824 ≤ t * p := Int.mul_le_mul_of_nonneg_left (by omega) (by omega)
    have h3 : 1073741824 * 1073741824 ≤ t * 1073741824 := Int.mul_le_mul_of_nonneg_right h1 (by decide)
    omega
theorem La.step {a b F p0 q0 sg p q s0 s1 s2 t0 t1 t2 al be : Int} (h : La a b F p0 q0 sg p q s0 s1 s2 t0 t1 t2) (hF : 0 < F) (hp0 : p0 < 1152921504606846976)
    (ea : a = p0 * F + al) (eb : b = q0 * F + be) (ha0 : 0 ≤ al) (ha1 : al < F) (hb0 : 0 ≤ be) (hb1 : be < F)
    (c1 : t2 ≤ q) (c2 : t1 + t2 ≤ p - q) : La a b F p0 q0 (-sg) q (p % q) s1 s2 (s1 + p / q * s2) t1 t2 (t1 + p / q * t2) := by
  have t2n := h.t2n
  have t1n := h.t1n
  have hq : 0 < q := by omega
  have hd : 1 ≤ p / q := (Int.le_ediv_iff_mul_le hq).2 (by have := h.pq; omega)
  have hm : p % q = p - p / q * q := by have := Int.emod_add_mul_ediv p q; rw [Int.mul_comm q] at this; omega
  have hm0 := Int.emod_nonneg p (show q ≠ 0 by omega)
  have hm1 := Int.emod_lt_of_pos p hq
  generalize p / q = d at *
  have hs2 := Int.mul_nonneg (show 0 ≤ d by omega) h.s2n
  have ht2 : t2 ≤ d * t2 := by have := Int.mul_le_mul_of_nonneg_right hd (show 0 ≤ t2 by omega); omega
  have hds : (d - 1) * s2 ≤ (d - 1) * t2 := Int.mul_le_mul_of_nonneg_left h.st2 (by omega)
  rw [Int.sub_mul, Int.sub_mul, Int.one_mul, Int.one_mul] at hds
  have hst12 := h.st12
  have hst2 := h.st2
  have hs1n := h.s1n
  have hs2n := h.s2n
  -- what is left
  have e2 : rem0 sg s2 t2 a b = F * q - sg * (s2 * al - t2 * be) := by rw [rem0, ea, eb, h.eq]; grind
  have e1 : rem1 sg s1 t1 a b - rem0 sg s2 t2 a b = F * (p - q) + sg * ((s1 + s2) * al - (t1 + t2) * be) := by rw [rem0, rem1, ea, eb, h.eq, h.ep]; grind
  have b2 := sg_bd h.hs (rest_lo hF ha0 ha1 hb0 hb1 h.s2n (by omega) h.st2)
  have b1 := sg_bd h.hs (rest_lo hF ha0 ha1 hb0 hb1 (s := s1 + s2) (t := t1 + t2) (by omega) (by omega) h.st12)
  have k2 : F * t2 ≤ F * q := Int.mul_le_mul_of_nonneg_left c1 (by omega)
  have k1 : F * (t1 + t2) ≤ F * (p - q) := Int.mul_le_mul_of_nonneg_left c2 (by omega)
  have m2 : t2 * (F - 1) = F * t2 - t2 := by rw [Int.mul_sub, Int.mul_comm F]; omega
  have m1 : (t1 + t2) * (F - 1) = F * (t1 + t2) - (t1 + t2) := by rw [Int.mul_sub, Int.mul_comm F]; omega
  have x2 : 0 ≤ rem0 sg s2 t2 a b := by omega
  have x1 : rem0 sg s2 t2 a b < rem1 sg s1 t1 a b := by omega
  have f1 : rem1 (-sg) s2 t2 a b = rem0 sg s2 t2 a b := rfl
  have f0 : rem0 (-sg) s1 t1 a b = rem1 sg s1 t1 a b := by rw [rem0, rem1, Int.neg_neg]
  have f2 : rem0 (-sg) (s1 + d * s2) (t1 + d * t2) a b = rem1 sg s1 t1 a b - d * rem0 sg s2 t2 a b := by rw [rem0, rem1, rem0]; grind
  have hid := h.idn
  have htq := Int.mul_nonneg t1n h.qn
  refine ⟨by rcases h.hs with e | e <;> omega, h.eq, ?_, ?_, h.s2n, by omega, by omega, by omega, by omega, by omega, by omega, hm0, by omega, by have := h.pp; have := h.pq; omega, ?_, .inr ⟨h.s1n, h.t1n, h.t12, ?_, ?_, h.st2, h.t2n, by rw [f1]; exact x2, by rw [f1, f0]; exact x1, ?_, ?_, ?_⟩⟩
  · rw [hm, h.ep, h.eq]; grind
  · rw [hm]
    have : (t1 + d * t2) * q + t2 * (p - d * q) = t2 * p + t1 * q := by grind
    omega
  · rw [f1, f2, Int.gcd_sub_mul_right_right, Int.gcd_comm]; exact h.g
  · exact sq_lt (p := p) h.t2n (by have := h.qn; omega) (by omega) hp0
  · rcases h.prev with ⟨_, _, e, _⟩ | ⟨_, _, _, e, _, e', _⟩
    · omega
    · omega
  · rw [f1]
    rcases h.prev with ⟨_, _, _, _, e3, e4, e5⟩ | ⟨_, _, _, _, _, _, _, _, _, e, _⟩
    · rw [e3, e4, e5, rem0]; omega
    · omega
  · rw [f0]
    rcases h.prev with ⟨_, _, _, e, _⟩ | ⟨_, _, _, _, _, _, _, _, _, e, _⟩
    · exact .inl e
    · exact .inr e
  · rw [f0, f1]; exact h.g
theorem La.done {a b F p0 q0 sg p q s0 s1 s2 t0 t1 t2 : Int} (h : La a b F p0 q0 sg p q s0 s1 s2 t0 t1 t2) (ht : 0 < t0) :
    0 ≤ s0 ∧ s0 < 1073741824 ∧ t0 < 1073741824 ∧ 0 ≤ s1 ∧ s1 < 1073741824 ∧ 0 ≤ t1 ∧ t1 < 1073741824 ∧ 0 ≤ rem1 sg s1 t1 a b ∧ rem1 sg s1 t1 a b < rem0 sg s0 t0 a b ∧ rem0 sg s0 t0 a b ≤ b ∧ Int.gcd (rem0 sg s0 t0 a b) (rem1 sg s1 t1 a b) = Int.gcd a b := by
  rcases h.prev with ⟨_, e, _⟩ | ⟨h1, h2, h3, h4, h5, h6, h7, h8, h9, h10, h11, h12⟩
  · omega
  · exact ⟨h1, h5, by omega, h.s1n, by omega, h.t1n, h4, h8, h9, by rcases h11 with e | e; omega; exact e, h12⟩
theorem La.bd {a b F p0 q0 sg p q s0 s1 s2 t0 t1 t2 : Int} (h : La a b F p0 q0 sg p q s0 s1 s2 t0 t1 t2) (hq : 0 < p) (hp0 : p0 < 1152921504606846976) :
    0 ≤ s0 ∧ s0 < 1073741824 ∧ 0 ≤ t0 ∧ t0 < 1073741824 ∧ s1 ≤ 1073741824 ∧ t1 < 1073741824 ∧ t2 ≤ p0 ∧ s2 ≤ p0 := by
  have h1 : t2 * 1 ≤ t2 * p := Int.mul_le_mul_of_nonneg_left (by omega) (by have := h.t2n; omega)
  have h2 := Int.mul_nonneg h.t1n h.qn
  have h3 := h.idn
  have h4 := h.st2
  rcases h.prev with ⟨e1, e2, e3, e4, _⟩ | ⟨h1, h2, h3, h4, h5, h6, h7, h8, h9, h10, h11, h12⟩ <;> refine ⟨by omega, by omega, by omega, by omega, by omega, by omega, by omega, by omega⟩
theorem val_drop_next (xs : List Int) (i : Nat) : val (xs.drop i) = gx xs i + 4294967296 * val (xs.drop (i + 1)) := by
  by_cases h : i < xs.length
  · rw [drop_cons xs i h]; rfl
  · rw [List.drop_of_length_le (by omega), List.drop_of_length_le (by omega), gx_past xs i (by omega) i (Nat.le_refl _)]; rfl
theorem val_cut (xs : List Int) (i : Nat) : val xs = val (xs.take i) + pw i * val (xs.drop i) := by
  by_cases h : i ≤ xs.length
  · exact val_drop_take xs i h
  · rw [List.take_of_length_le (by omega), List.drop_of_length_le (by omega)]; simp [val]
theorem pw_two (i : Nat) : pw i = 2 ^ (32 * i) := by
  unfold pw
  rw [Int.pow_mul]
  rfl
theorem val_div_pw {xs : List Int} (h : U32 xs) (i : Nat) : val xs / pw i = val (xs.drop i) := by
  have h1 := val_nonneg (u32_take h i)
  have h2 := val_lt (u32_take h i)
  have h3 : pw (xs.take i).length ≤ pw i := pw_mono (List.length_take_le _ _)
  have h4 := pw_pos i
  rw [val_cut xs i, Int.add_mul_ediv_left _ _ (by omega), Int.ediv_eq_zero_of_lt h1 (by omega), Int.zero_add]
theorem two_le {a b : Nat} (h : a ≤ b) : (2 : Int) ^ a ≤ 2 ^ b := by
  obtain ⟨c, rfl⟩ := Nat.exists_eq_add_of_le h
  rw [Int.pow_add]
  have h1 : (0 : Int) < 2 ^ a := Int.pow_pos (by decide)
  have h2 : (0 : Int) < 2 ^ c := Int.pow_pos (by decide)
  have : (2 : Int) ^ a * 1 ≤ 2 ^ a * 2 ^ c := Int.mul_le_mul_of_nonneg_left (by omega) (by omega)
  omega
theorem two_split (off : Nat) (h : off ≤ 64) : (2 : Int) ^ off * 2 ^ (64 - off) = 18446744073709551616 := by
  rw [← Int.pow_add, show off + (64 - off) = 64 by omega]; rfl
theorem bits_from {xs : List Int} (hU : U32 xs) (i off : Nat) (hoff : off < 32) (hv : val xs < 2 ^ (32 * i + off) * 1152921504606846976) :
    val xs / 2 ^ (32 * i + off) = (gx xs i + 4294967296 * gx xs (i + 1)) / 2 ^ off + gx xs (i + 2) * 2 ^ (64 - off) ∧ gx xs (i + 2) * 2 ^ (64 - off) < 1152921504606846976 ∧ 0 ≤ (gx xs i + 4294967296 * gx xs (i + 1)) / 2 ^ off ∧ (gx xs i + 4294967296 * gx xs (i + 1)) / 2 ^ off < 2 ^ (64 - off) := by
  have hE : (0 : Int) < 2 ^ off := Int.pow_pos (by decide)
  have hG : (0 : Int) < 2 ^ (64 - off) := Int.pow_pos (by decide)
  have hEG := two_split off (by omega)
  have hE31 : (2 : Int) ^ off ≤ 2147483648 := by have := two_le (show off ≤ 31 by omega); omega
  have h0 := hU i
  have h1 := hU (i + 1)
  have h2 := hU (i + 2)
  have hr := val_nonneg (u32_drop hU (i + 1 + 1 + 1))
  have e0 := val_drop_next xs i
  have e1 := val_drop_next xs (i + 1)
  have e2 := val_drop_next xs (i + 1 + 1)
  rw [show i + 1 + 1 = i + 2 from rfl] at e1 e2 hr
  have hP := pw_pos i
  have ep : (2 : Int) ^ (32 * i + off) = pw i * 2 ^ off := by rw [Int.pow_add, pw_two]
  have hd := val_div_pw hU i
  rw [ep, ← Int.ediv_ediv_of_nonneg (Int.le_of_lt hP), hd]
  rw [ep, Int.mul_assoc] at hv
  have hlt : val (xs.drop i) < 2 ^ off * 1152921504606846976 := by
    rw [← hd]
    exact Int.ediv_lt_of_lt_mul hP (by rw [Int.mul_comm]; exact hv)
  generalize (2 : Int) ^ off = E at *
  generalize (2 : Int) ^ (64 - off) = G at *
  generalize val (xs.drop (i + 2 + 1)) = r at *
  have e3 : val (xs.drop i) = (gx xs i + 4294967296 * gx xs (i + 1)) + 18446744073709551616 * gx xs (i + 2) + 79228162514264337593543950336 * r := by
    rw [e0, e1, e2]; omega
  have hr0 : r = 0 := by omega
  have hm1 : (gx xs i + 4294967296 * gx xs (i + 1)) / E < G := Int.ediv_lt_of_lt_mul hE (by rw [Int.mul_comm G, hEG]; omega)
  have hm0 : 0 ≤ (gx xs i + 4294967296 * gx xs (i + 1)) / E := Int.ediv_nonneg (by omega) (Int.le_of_lt hE)
  have e4 : val (xs.drop i) / E = (gx xs i + 4294967296 * gx xs (i + 1)) / E + gx xs (i + 2) * G := by
    rw [e3, hr0, ← hEG, show gx xs i + 4294967296 * gx xs (i + 1) + E * G * gx xs (i + 2) + 79228162514264337593543950336 * 0 = gx xs i + 4294967296 * gx xs (i + 1) + E * (gx xs (i + 2) * G) by rw [Int.mul_assoc, Int.mul_comm G]; omega, Int.add_mul_ediv_left _ _ (by omega)]
  have hq : val (xs.drop i) / E < 1152921504606846976 := Int.ediv_lt_of_lt_mul hE (by rw [Int.mul_comm 1152921504606846976]; exact hlt)
  exact ⟨e4, by omega, hm0, hm1⟩
theorem or_bits (x y : Int) (s : Nat) (hs : s ≤ 64) (hx0 : 0 ≤ x) (hx : x < 2 ^ s) (hy0 : 0 ≤ y) (hy : y * 2 ^ s < 18446744073709551616) : bits .or .u64 x (y * 2 ^ s) = x + y * 2 ^ s := by
  have h1 : (2 : Int) ^ s ≤ 2 ^ 64 := two_le hs
  have h2 : (2 : Int) ^ 64 = 18446744073709551616 := rfl
  have hp : (0 : Int) < 2 ^ s := Int.pow_pos (by decide)
  exact bits_join_low .u64 64 (by decide) (fun n a b => by rw [IntKind.wrap_u64]; omega) s x (y * 2 ^ s) hx0 hx (by omega) (Int.mul_nonneg hy0 (by omega)) (Int.mul_emod_left ..) (by omega)
theorem gcd_step {x y q r : Int} (h : q * y + r = x) : Int.gcd y r = Int.gcd x y := by
  rw [← h, Int.add_comm, Int.gcd_comm (r + q * y), Int.gcd_add_mul_right_right]
structure Kp (g h : Nat) (w w' : World) : Prop where
  block : ∀ k, k < w.heap.size → k ≠ g → k ≠ h → w'.heap[k]? = w.heap[k]?
  os : w'.os = w.os
  tape : w'.tape = w.tape
  output : w'.output = w.output
  size : w.heap.size ≤ w'.heap.size
theorem Kp.refl (g h : Nat) (w : World) : Kp g h w w := ⟨fun _ _ _ _ => rfl, rfl, rfl, rfl, Nat.le_refl _⟩
theorem mod_same {x y z M p k : Int} (h1 : x + M * p = y) (h2 : z = y + M * k) (hx0 : 0 ≤ x) (hx1 : x < M) (hz0 : 0 ≤ z) (hz1 : z < M) : x = z := by
  have e : z = x + M * (p + k) := by rw [Int.mul_add]; omega
  have hM : 0 < M := by omega
  have h3 : z % M = x % M := by rw [e, Int.add_mul_emod_self_left]
  rw [Int.emod_eq_of_lt hz0 hz1, Int.emod_eq_of_lt hx0 hx1] at h3
  exact h3.symm
theorem sml_mul {c x : Int} (h1 : -1073741824 < c) (h2 : c < 1073741824) (hx0 : 0 ≤ x) (hx1 : x < 4294967296) : -4611686013132439553 ≤ c * x ∧ c * x ≤ 4611686013132439553 := by
  have a1 : c * x ≤ 1073741823 * x := Int.mul_le_mul_of_nonneg_right (by omega) hx0
  have a2 : -1073741823 * x ≤ c * x := Int.mul_le_mul_of_nonneg_right (by omega) hx0
  constructor <;> omega
theorem walk_step {A' A Bl : List Int} {k : Nat} {p aa ab T : Int} (hA : k < A'.length) (hA2 : k < A.length) (hB2 : k < Bl.length) (h : val (A'.take k) + pw k * p = aa * val (A.take k) + ab * val (Bl.take k)) (hT : T = p + (aa * gx A k + ab * gx Bl k)) :
    val ((A'.set k (T % 4294967296)).take (k + 1)) + pw (k + 1) * (T / 4294967296) = aa * val (A.take (k + 1)) + ab * val (Bl.take (k + 1)) := by
  rw [val_take_succ _ k (by rw [List.length_set]; exact hA), val_take_succ A k hA2, val_take_succ Bl k hB2, gx_set_eq A' k _ hA, List.take_set_of_le (Nat.le_refl _), pw_succ]
  have e1 := cut_step (pw k) T
  have e2 : pw k * T = pw k * p + (aa * (pw k * gx A k) + ab * (pw k * gx Bl k)) := by rw [hT]; grind
  rw [Int.mul_add aa, Int.mul_add ab]
  omega
theorem walk_end {A' A Bl : List Int} {na nb : Nat} {p aa ab R : Int} (hU : U32 A') (hUA : U32 A) (hl : nb ≤ na) (h : val (A'.take nb) + pw nb * p = aa * val (A.take nb) + ab * val (Bl.take nb)) (hR : R = aa * val (A.take na) + ab * val (Bl.take nb)) (h0 : 0 ≤ R) (h1 : R < pw nb) : val (A'.take nb) = R := by
  have e1 := val_cut (A.take na) nb
  rw [List.take_take, Nat.min_eq_left hl] at e1
  refine mod_same (M := pw nb) (p := p) (k := aa * val ((A.take na).drop nb)) h ?_ (val_nonneg (u32_take hU _)) ?_ h0 h1
  · rw [hR, e1, Int.mul_add, Int.mul_left_comm (pw nb)]; omega
  · have := val_lt (u32_take hU nb)
    have h2 : pw (A'.take nb).length ≤ pw nb := pw_mono (List.length_take_le _ _)
    omega
def WkPost (ga gb na nac nb nbc : Nat) (A Bl : List Int) (R1 R2 : Int) (w : World) (e : Ending) (w' : World) : Prop :=
  ∃ A' B', e = .returned (.tuple #[.slice (some ⟨ga, 0, none⟩) (tlen (A'.take nb)) nac, .slice (some ⟨gb, 0, none⟩) (tlen (B'.take nb)) nbc]) ∧ A'.length = A.length ∧ B'.length = Bl.length ∧ U32 A' ∧ U32 B' ∧ val (A'.take nb) = R1 ∧ val (B'.take nb) = R2 ∧ Row w' ga 97 .u32 A' ∧ Row w' gb 97 .u32 B' ∧ Kp ga gb w w'
theorem Kp.set1 {g h : Nat} {w w1 : World} (k : Kp g h w w1) (j : Nat) (v : Value) : Kp g h w (w1.setCell ⟨g, j, none⟩ v) :=
  ⟨fun i hi a b => (heap_setCell_other w1 ⟨g, j, none⟩ i v a).trans (k.block i hi a b), k.os, k.tape, k.output, by simp [World.setCell]; exact k.size⟩
theorem Kp.set2 {g h : Nat} {w w1 : World} (k : Kp g h w w1) (j : Nat) (v : Value) : Kp g h w (w1.setCell ⟨h, j, none⟩ v) :=
  ⟨fun i hi a b => (heap_setCell_other w1 ⟨h, j, none⟩ i v b).trans (k.block i hi a b), k.os, k.tape, k.output, by simp [World.setCell]; exact k.size⟩
theorem Kp.drew {g h : Nat} {w w1 : World} (k : Kp g h w w1) : Kp g h w w1.drew := ⟨k.block, k.os, k.tape, k.output, k.size⟩
theorem Kp.alloc {g h : Nat} {w w1 : World} (k : Kp g h w w1) (o : Obj) : Kp g h w (w1.alloc o) :=
  ⟨fun i hi a b => (Below.heap_alloc w1 o i (Nat.lt_of_lt_of_le hi k.size)).trans (k.block i hi a b), k.os, k.tape, k.output, by simp; have := k.size; omega⟩
set_option maxRecDepth 100000 in
theorem walk_any (ga gb na nac nb nbc : Nat) (A Bl : List Int) (aa ab ba bb R1 R2 : Int) (w : World) (hA : Row w ga 97 .u32 A) (hB : Row w gb 97 .u32 Bl) (hg : ga ≠ gb) (hna : na ≤ A.length) (hnb : nb ≤ Bl.length) (hnn : nb ≤ na) (hnac : na ≤ nac) (hnac' : nac ≤ 1000000000) (hnbc : nb ≤ nbc) (hnbc' : nbc ≤ 1000000000) (hUA : U32 A) (hUB : U32 Bl)
    (a0 : -1073741824 < aa) (a1 : aa < 1073741824) (b0 : -1073741824 < ab) (b1 : ab < 1073741824) (c0 : -1073741824 < ba) (c1 : ba < 1073741824) (d0 : -1073741824 < bb) (d1 : bb < 1073741824)
    (e1 : R1 = aa * val (A.take na) + ab * val (Bl.take nb)) (e2 : R2 = ba * val (A.take na) + bb * val (Bl.take nb)) (r10 : 0 ≤ R1) (r11 : R1 < pw nb) (r20 : 0 ≤ R2) (r21 : R2 < pw nb) :
    Calls Tryz.prog 176 #[.agg #[.int .i64 aa, .int .i64 ab, .int .i64 ba, .int .i64 bb], .slice (some ⟨ga, 0, none⟩) na nac, .slice (some ⟨gb, 0, none⟩) nb nbc] w (WkPost ga gb na nac nb nbc A Bl R1 R2 w) := by
  have HE : Hid (R1 = aa * val (A.take na) + ab * val (Bl.take nb) ∧ R2 = ba * val (A.take na) + bb * val (Bl.take nb) ∧ 0 ≤ R1 ∧ R1 < pw nb ∧ 0 ≤ R2 ∧ R2 < pw nb) := ⟨e1, e2, r10, r11, r20, r21⟩
  clear e1 e2 r10 r11 r20 r21
  have HR : Hid (Row w ga 97 .u32 A ∧ Row w gb 97 .u32 Bl) := ⟨hA, hB⟩
  have hgl := hA.lt
  have hbl := hB.lt
  have hgn := hA.alloc (.cells #[.int .i64 aa, .int .i64 ab, .int .i64 ba, .int .i64 bb] 175)
  have hbn := hB.alloc (.cells #[.int .i64 aa, .int .i64 ab, .int .i64 ba, .int .i64 bb] 175)
  go_enter Tryz.func176, Tryz.ntmps176
  go_wp2
  have hk0 : Kp ga gb w (w.alloc (.cells #[.int .i64 aa, .int .i64 ab, .int .i64 ba, .int .i64 bb] 175)) := (Kp.refl _ _ _).alloc _
  have hcc : ∀ wr : World, Kp ga gb (w.alloc (.cells #[.int .i64 aa, .int .i64 ab, .int .i64 ba, .int .i64 bb] 175)) wr → wr.heap[w.heap.size]? = some (.cells #[.int .i64 aa, .int .i64 ab, .int .i64 ba, .int .i64 bb] 175 (0, 0)) := fun wr h => (h.block _ (by simp) (by omega) (by omega)).trans (heap_alloc_new w _)
  generalize (w.alloc (.cells #[.int .i64 aa, .int .i64 ab, .int .i64 ba, .int .i64 bb] 175)) = W at *
  have HC : Hid (∀ wr : World, Kp ga gb W wr → wr.heap[w.heap.size]? = some (.cells #[.int .i64 aa, .int .i64 ab, .int .i64 ba, .int .i64 bb] 175 (0, 0))) := hcc
  clear hcc
  go_loopw [8, 9, 15] (fun pv qv iv wr => ∃ (k : Nat) (p q : Int) (A' B' : List Int), k ≤ nb ∧ iv = .int .i64 k ∧ pv = .int .i64 p ∧ qv = .int .i64 q ∧ -2147483648 ≤ p ∧ p ≤ 2147483647 ∧ -2147483648 ≤ q ∧ q ≤ 2147483647 ∧ Hid (A'.length = A.length ∧ B'.length = Bl.length ∧ U32 A' ∧ U32 B' ∧ (∀ j, k ≤ j → gx A' j = gx A j) ∧ (∀ j, k ≤ j → gx B' j = gx Bl j) ∧ val (A'.take k) + pw k * p = aa * val (A.take k) + ab * val (Bl.take k) ∧ val (B'.take k) + pw k * q = ba * val (A.take k) + bb * val (Bl.take k) ∧ Row wr ga 97 .u32 A' ∧ Row wr gb 97 .u32 B' ∧ Kp ga gb W wr))
    (fun _ _ iv _ => (nb - intOf iv).toNat)
  case atStart => exact ⟨0, 0, 0, A, Bl, Nat.zero_le _, by go_num, rfl, rfl, by decide, by decide, by decide, by decide, rfl, rfl, hUA, hUB, fun _ _ => rfl, fun _ _ => rfl, by simp [val], by simp [val], hgn, hbn, Kp.refl _ _ _⟩
  case round =>
    obtain ⟨k, p, q, A', B', hk, rfl, rfl, rfl, hp0, hp1, hq0, hq1, H⟩ := hrel
    by_cases hkn : k < nb
    · obtain ⟨f1, f2, f3, f4, f5, f6, f7, f8, f9, f10, f11⟩ := H.out
      have x0 := (f3 k).1
      have x1 := (f3 k).2
      have y0 := (f4 k).1
      have y1 := (f4 k).2
      have g1 := f9.cell k (by omega)
      have g2 := f9.frozen k
      have g3 := f10.cell k (by omega)
      have g4 := f10.frozen k
      have hsr := HC.out wr f11
      have s0 := cell_of_row wr w.heap.size 0 _ _ (0, 0) hsr
      have s1 := cell_of_row wr w.heap.size 1 _ _ (0, 0) hsr
      have s2 := cell_of_row wr w.heap.size 2 _ _ (0, 0) hsr
      have s3 := cell_of_row wr w.heap.size 3 _ _ (0, 0) hsr
      simp only [List.getElem?_toArray, List.getElem?_cons_zero, List.getElem?_cons_succ] at s0 s1 s2 s3
      have m1 := sml_mul a0 a1 x0 x1
      have m2 := sml_mul b0 b1 y0 y1
      have m3 := sml_mul c0 c1 x0 x1
      have m4 := sml_mul d0 d1 y0 y1
      have hkI : (k : Int) < (nb : Int) := by omega
      have hkI2 : (k : Int) < (na : Int) := by omega
      clear f1 f2 f3 f4 f5 f6 f7 f8 f9 f10 f11 hsr
      go_wp2
      go_region
      all_goals go_wp2
      obtain ⟨f1, f2, f3, f4, f5, f6, f7, f8, f9, f10, f11⟩ := H.out
      refine ⟨⟨k + 1, _, _, A'.set k ((p + (aa * gx A' k + ab * gx B' k)) % 4294967296), B'.set k ((q + (ba * gx A' k + bb * gx B' k)) % 4294967296), by omega, by go_num, rfl, rfl, by omega, by omega, by omega, by omega, by rw [List.length_set]; exact f1, by rw [List.length_set]; exact f2, u32_set f3 _ (by omega), u32_set f4 _ (by omega), fun j hj => ?_, fun j hj => ?_, ?_, ?_, ?_, ?_, ?_⟩, by simp [intOf]; omega⟩
      · rw [gx_set_ne A' _ _ _ (by omega)]; exact f5 j (by omega)
      · rw [gx_set_ne B' _ _ _ (by omega)]; exact f6 j (by omega)
      · exact walk_step (by omega) (by omega) (by omega) f7 (by rw [f5 k (Nat.le_refl _), f6 k (Nat.le_refl _)])
      · exact walk_step (by omega) (by omega) (by omega) f8 (by rw [f5 k (Nat.le_refl _), f6 k (Nat.le_refl _)])
      · exact ((f9.set k _).set_other _ _ hg).drew
      · exact (((f10.set_other ⟨ga, k, none⟩ _ (fun e => hg e.symm))).set k _).drew
      · exact ((f11.set1 k _).set2 k _).drew
    · obtain rfl : k = nb := by omega
      obtain ⟨f1, f2, f3, f4, f5, f6, f7, f8, f9, f10, f11⟩ := H.out
      have t1 := f9.rd_take k
      have t2 := f10.rd_take k
      have l1 : (A'.take k).length = k := by simp; omega
      have l2 : (B'.take k).length = k := by simp; omega
      have hslI : (k : Int) ≤ (nac : Int) := by omega
      have HT : Hid (Rd wr (some ⟨ga, 0, none⟩) .u32 (A'.take k) ∧ Rd wr (some ⟨gb, 0, none⟩) .u32 (B'.take k) ∧ (A'.take k).length = k ∧ (B'.take k).length = k) := ⟨t1, t2, l1, l2⟩
      clear f1 f2 f3 f4 f5 f6 f7 f8 f9 f10 f11 t1 t2 l1 l2
      go_wp2_with fail
      refine (trim_any (some ⟨ga, 0, none⟩) k nac (A'.take k) _ HT.out.2.2.1 (by omega) (by unfold maxLen; omega) HT.out.1).mono ?_
      rintro e w1 ⟨rfl, rfl⟩
      go_wp2_with fail
      refine (trim_any (some ⟨gb, 0, none⟩) k nbc (B'.take k) _ HT.out.2.2.2 (by omega) (by unfold maxLen; omega) HT.out.2.1).mono ?_
      rintro e w1 ⟨rfl, rfl⟩
      go_wp2
      go_ret2
      obtain ⟨f1, f2, f3, f4, f5, f6, f7, f8, f9, f10, f11⟩ := H.out
      obtain ⟨e1, e2, r10, r11, r20, r21⟩ := HE.out
      exact ⟨A', B', rfl, f1, f2, f3, f4, walk_end f3 hUA hnn f7 e1 r10 r11, walk_end f4 hUA hnn f8 e2 r20 r21, f9, f10, ⟨fun i hi a b => (f11.block i (by have := hk0.size; omega) a b).trans (hk0.block i hi a b), f11.os.trans hk0.os, f11.tape.trans hk0.tape, f11.output.trans hk0.output, Nat.le_trans hk0.size f11.size⟩⟩
theorem limb_any (g : Nat) (p : Option Addr) (n nc : Nat) (xs : List Int) (j : Nat) (w : World) (hb : w.cell? ⟨g, 0, none⟩ = some (.slice p n nc)) (hl : xs.length = n) (hn : n ≤ 1000000) (hX : Rd w p .u32 xs) (hU : U32 xs) :
    Calls Tryz.prog 211 #[.int .i64 j, .pointer (some ⟨g, 0, none⟩)] w fun e w' => e = .returned (.int .u64 (gx xs j)) ∧ w = w' := by
  by_cases hj : j < n
  · obtain ⟨b, off, rfl, hcell⟩ := hX (by omega)
    have hc := hcell j (by omega)
    have hjI : (j : Int) < (n : Int) := by omega
    obtain ⟨u0, u1⟩ := hU j
    clear hcell
    go_enter Tryz.func211, Tryz.ntmps211
    go_wp2
    go_ret
    exact ⟨rfl, rfl⟩
  · have hz := gx_past xs n (by omega) j (by omega)
    rw [hz]
    go_enter Tryz.func211, Tryz.ntmps211
    go_wp2
    go_ret
    exact ⟨rfl, rfl⟩
theorem or_low64 (x y : Int) (x0 : 0 ≤ x) (x1 : x < 4294967296) (y0 : 0 ≤ y) (y1 : y < 4294967296) : bits .or .u64 x (y * 4294967296) = x + y * 4294967296 :=
  or_bits x y 32 (by decide) x0 (by omega) y0 (by omega)
set_option maxRecDepth 100000 in
theorem bitsFrom_go (p : Option Addr) (n nc : Nat) (xs : List Int) (i off : Nat) (V : Int) (w : World) (hl : xs.length = n) (hn : n ≤ 1000000) (hX : Rd w p .u32 xs) (hU : U32 xs) (hi : i ≤ 1000000) (hoff : off < 32)
    (hV : bits .or .u64 ((gx xs i + gx xs (i + 1) * 4294967296) / 2 ^ off) (IntKind.u64.wrap (gx xs (i + 2) * 2 ^ (64 - off))) = V) :
    Calls Tryz.prog 202 #[.slice p n nc, .int .i64 (32 * (i : Int) + (off : Int))] w fun e w' => e = .returned (.int .u64 V) ∧ Below w.heap.size w w' := by
  have q1 : (32 * (i : Int) + (off : Int)) / 32 = (i : Int) := by omega
  have q2 : (32 * (i : Int) + (off : Int)) % 32 = (off : Int) := by omega
  have q3 : (off : Int) % 32 = (off : Int) := by omega
  have hoffI : (0 : Int) ≤ (off : Int) := by omega
  have hoffJ : (off : Int) ≤ 31 := by omega
  go_enter Tryz.func202, Tryz.ntmps202
  go_wp2
  have hc0 : (w.alloc (.cells #[.slice p n nc] 48)).cell? ⟨w.heap.size, 0, none⟩ = some (.slice p n nc) := by simp [go_sem]
  have hX' := hX.alloc (.cells #[.slice p n nc] 48)
  have hbw : Below w.heap.size w (w.alloc (.cells #[.slice p n nc] 48)) := (Below.refl _ _).alloc (Nat.le_refl _) _
  generalize (w.alloc (.cells #[.slice p n nc] 48)) = W at *
  have lq : ∀ (j x : Nat), Calls Tryz.prog 211 #[.int .i64 j, .pointer (some ⟨w.heap.size, 0, none⟩)] (W.drewN x) fun e w'' => e = .returned (.int .u64 (gx xs j)) ∧ ∃ m, w'' = W.drewN m := fun j x =>
    (limb_any w.heap.size p n nc xs j (W.drewN x) hc0 hl hn hX' hU).mono fun e w'' ⟨h1, h2⟩ => ⟨h1, x, h2.symm⟩
  have l0 := lq i
  have l1 := lq (i + 1)
  have l2 := lq (i + 2)
  rw [show ((i + 1 : Nat) : Int) = (i : Int) + 1 by omega] at l1
  rw [show ((i + 2 : Nat) : Int) = (i : Int) + 2 by omega] at l2
  clear lq
  obtain ⟨u0, u1⟩ := hU i
  obtain ⟨v0, v1⟩ := hU (i + 1)
  obtain ⟨z0, z1⟩ := hU (i + 2)
  have ho := or_low64 (gx xs i) (gx xs (i + 1)) u0 u1 v0 v1
  generalize gx xs i = g0 at *
  generalize gx xs (i + 1) = g1 at *
  generalize gx xs (i + 2) = g2 at *
  clear hX hX' hU hl hc0
  go_quiet (first | with_reducible exact l0 _ | with_reducible exact l1 _ | with_reducible exact l2 _)
  clear hV ho
  go_wp2
  go_ret
  exact ⟨rfl, below_drewN hbw _⟩
theorem bitsFrom_any (p : Option Addr) (n nc : Nat) (xs : List Int) (i off : Nat) (w : World) (hl : xs.length = n) (hn : n ≤ 1000000) (hX : Rd w p .u32 xs) (hU : U32 xs) (hi : i ≤ 1000000) (hoff : off < 32) (hv : val xs < 2 ^ (32 * i + off) * 1152921504606846976) :
    Calls Tryz.prog 202 #[.slice p n nc, .int .i64 (32 * (i : Int) + (off : Int))] w fun e w' => e = .returned (.int .u64 (val xs / 2 ^ (32 * i + off))) ∧ Below w.heap.size w w' := by
  refine bitsFrom_go p n nc xs i off _ w hl hn hX hU hi hoff ?_
  obtain ⟨h1, h2, h3, h4⟩ := bits_from hU i off hoff hv
  have hz := (hU (i + 2)).1
  have hG : (0 : Int) < 2 ^ (64 - off) := Int.pow_pos (by decide)
  have h5 := Int.mul_nonneg hz (Int.le_of_lt hG)
  rw [IntKind.wrap_u64, Int.emod_eq_of_lt h5 (by omega), Int.mul_comm (gx xs (i + 1)), or_bits _ _ _ (by omega) h3 h4 hz (by omega), h1]
def Good (a b aa ab ba bb : Int) : Prop :=
  -1073741824 < aa ∧ aa < 1073741824 ∧ -1073741824 < ab ∧ ab < 1073741824 ∧ -1073741824 < ba ∧ ba < 1073741824 ∧ -1073741824 < bb ∧ bb < 1073741824 ∧ 0 ≤ ba * a + bb * b ∧ ba * a + bb * b < aa * a + ab * b ∧ aa * a + ab * b ≤ b ∧ Int.gcd (aa * a + ab * b) (ba * a + bb * b) = Int.gcd a b
def LkPost (a b : Int) (w : World) (e : Ending) (w' : World) : Prop :=
  ∃ (aa ab ba bb : Int) (ok : Bool), e = .returned (.tuple #[.agg #[.int .i64 aa, .int .i64 ab, .int .i64 ba, .int .i64 bb], .bool ok]) ∧ (ok = true → Good a b aa ab ba bb) ∧ Below w.heap.size w w'
theorem bitLen_bd {x : Int} (h0 : 0 < x) (h1 : x < 4294967296) : 1 ≤ Lib.bitLen x.toNat ∧ Lib.bitLen x.toNat ≤ 32 ∧ IB (Lib.bitLen x.toNat) x := by
  have hib := bitLenAux_ib 64 x.toNat (by omega)
  have e : ((x.toNat : Nat) : Int) = x := by omega
  rw [e] at hib
  have hb : IB (Lib.bitLen x.toNat) x := hib
  refine ⟨?_, ?_, hb⟩
  · rcases Nat.eq_zero_or_pos (Lib.bitLen x.toNat) with hz | hz
    · have h2 := hb.2.1
      rw [hz] at h2
      have e0 : (2 : Int) ^ 0 = 1 := rfl
      rw [e0] at h2; omega
    · exact hz
  · rcases Nat.lt_or_ge 32 (Lib.bitLen x.toNat) with hz | hz
    · exfalso
      rcases hb.2.2 with h2 | h2
      · omega
      · have h3 := p2_mono (show 32 ≤ Lib.bitLen x.toNat - 1 by omega)
        have e0 : (2 : Int) ^ 32 = 4294967296 := rfl
        omega
    · exact hz
theorem val_bits {xs : List Int} {n : Nat} (hU : U32 xs) (hl : xs.length = n + 1) (ht : 0 < gx xs n) : IB (32 * n + Lib.bitLen (gx xs n).toNat) (val xs) := by
  obtain ⟨h1, h2, h3⟩ := bitLen_bd ht (hU n).2
  have ev : val xs = val (xs.take n) + 2 ^ (32 * n) * gx xs n := by
    rw [← pw_p2, ← val_take_succ xs n (by omega), List.take_of_length_le (by omega)]
  rw [ev]
  refine IB.join h3 (by omega) (val_nonneg (u32_take hU _)) ?_
  have := val_lt (u32_take hU n)
  rw [List.length_take, Nat.min_eq_left (by omega), pw_p2] at this
  exact this
structure Lp (a b F P0 Q0 : Int) (w W wr : World) (gu gv : Nat) (ev : Bool) (p q s0 s1 s2 t0 t1 t2 : Int) : Prop where
  la : La a b F P0 Q0 (if ev then -1 else 1) p q s0 s1 s2 t0 t1 t2
  ru : Row wr gu 200 .u64 [s0, s1, s2]
  rv : Row wr gv 200 .u64 [t0, t1, t2]
  bl : Below W.heap.size W wr
theorem top_facts {a b : Int} {f : Nat} (hI : IB (f + 60) a) (hb0 : 0 ≤ b) (hle : b ≤ a) : 0 < a / 2 ^ f ∧ a / 2 ^ f < 1152921504606846976 ∧ 0 ≤ b / 2 ^ f ∧ b / 2 ^ f ≤ a / 2 ^ f ∧ b < 2 ^ f * 1152921504606846976 ∧ a < 2 ^ f * 1152921504606846976 := by
  obtain ⟨h0, h1, h2⟩ := hI
  have hP : (0 : Int) < 2 ^ f := Int.pow_pos (by decide)
  have e1 : (2 : Int) ^ (f + 60) = 2 ^ f * 1152921504606846976 := by rw [Int.pow_add]; rfl
  rw [e1] at h1
  have h3 : (2 : Int) ^ f ≤ a := by
    rcases h2 with h2 | h2
    · omega
    · have := two_le (show f ≤ f + 60 - 1 by omega); omega
  refine ⟨(Int.le_ediv_iff_mul_le hP).2 (by omega), Int.ediv_lt_of_lt_mul hP (by rw [Int.mul_comm]; exact h1), Int.ediv_nonneg hb0 (by omega), Int.ediv_le_ediv hP hle, by omega, h1⟩
set_option maxRecDepth 100000 in
theorem lookAhead_any (p q : Option Addr) (n nc m mc : Nat) (xs ys : List Int) (w : World) (hl : xs.length = n + 1) (hn : n ≤ 100000) (hn2 : 2 ≤ n) (hX : Rd w p .u32 xs) (hU : U32 xs) (ht : 0 < gx xs n) (hly : ys.length = m) (hm : m ≤ 100000) (hY : Rd w q .u32 ys) (hUy : U32 ys) (hle : val ys ≤ val xs) :
    Calls Tryz.prog 175 #[.slice p (n + 1) nc, .slice q m mc] w (LkPost (val xs) (val ys) w) := by
  obtain ⟨L0, L1, LB⟩ := bitLen_bd ht (hU n).2
  have hB := val_bits hU hl ht
  obtain ⟨x0, x1⟩ := hU n
  have hbw : Below w.heap.size w (w.alloc (.cells #[.int .i64 0, .int .i64 0, .int .i64 0, .int .i64 0] 175)) := (Below.refl _ _).alloc (Nat.le_refl _) _
  have hX1 := hX.below hbw
  have hY1 := hY.below hbw
  obtain ⟨b, off0, rfl, hcell⟩ := hX1 (by omega)
  have hc := hcell n (by omega)
  clear hcell
  have hlen := Len32_any (gx xs n)
  generalize hLe : Lib.bitLen (gx xs n).toNat = L at *
  clear hLe LB
  obtain ⟨i, off, hof, hfr⟩ : ∃ i off : Nat, off < 32 ∧ 32 * i + off + 60 = 32 * n + L := ⟨(32 * n + L - 60) / 32, (32 * n + L - 60) % 32, by omega, by omega⟩
  have HB : Hid (IB (32 * i + off + 60) (val xs)) := by rw [hfr]; exact hB
  have HF : Hid (32 * i + off + 60 = 32 * n + L ∧ xs.length = n + 1 ∧ ys.length = m) := ⟨hfr, hl, hly⟩
  clear hB hfr hl hly
  go_enter Tryz.func175, Tryz.ntmps175
  go_wp2_with fail
  have hBr : (w.alloc (.cells #[.int .i64 0, .int .i64 0, .int .i64 0, .int .i64 0] 175)).heap[w.heap.size]? = some (.cells #[.int .i64 0, .int .i64 0, .int .i64 0, .int .i64 0] 175 (0, 0)) := heap_alloc_new w _
  have hsz : w.heap.size < (w.alloc (.cells #[.int .i64 0, .int .i64 0, .int .i64 0, .int .i64 0] 175)).heap.size := by simp
  generalize (w.alloc (.cells #[.int .i64 0, .int .i64 0, .int .i64 0, .int .i64 0] 175)) = W at *
  refine (hlen _ x0 (by omega)).mono ?_
  rintro e w1 ⟨rfl, rfl⟩
  clear hlen
  obtain ⟨p1, p2, p3, p4, p5, p6⟩ := top_facts HB.out (val_nonneg hUy) hle
  have bf1 := bitsFrom_any (some ⟨b, off0, none⟩) (n + 1) nc xs i off w1 HF.out.2.1 (by omega) hX1 hU (by have := HF.out; omega) hof p6
  rw [show 32 * (i : Int) + (off : Int) = 32 * (n : Int) + (L : Int) - 60 by have := HF.out; omega] at bf1
  have bf2 := fun W hY => bitsFrom_any q m mc ys i off W HF.out.2.2 (by omega) hY hUy (by have := HF.out; omega) hof p5
  rw [show 32 * (i : Int) + (off : Int) = 32 * (n : Int) + (L : Int) - 60 by have := HF.out; omega] at bf2
  have hF : (0 : Int) < 2 ^ (32 * i + off) := Int.pow_pos (by decide)
  have ea := Int.emod_add_mul_ediv (val xs) (2 ^ (32 * i + off))
  have ea0 := Int.emod_nonneg (val xs) (show (2 : Int) ^ (32 * i + off) ≠ 0 by omega)
  have ea1 := Int.emod_lt_of_pos (val xs) hF
  have eb := Int.emod_add_mul_ediv (val ys) (2 ^ (32 * i + off))
  have eb0 := Int.emod_nonneg (val ys) (show (2 : Int) ^ (32 * i + off) ≠ 0 by omega)
  have eb1 := Int.emod_lt_of_pos (val ys) hF
  generalize val xs % 2 ^ (32 * i + off) = al at *
  generalize val ys % 2 ^ (32 * i + off) = be at *
  generalize val xs / 2 ^ (32 * i + off) = P0 at *
  generalize val ys / 2 ^ (32 * i + off) = Q0 at *
  clear p5 p6
  generalize (2 : Int) ^ (32 * i + off) = F at *
  have HE : Hid (0 < F ∧ val xs = P0 * F + al ∧ val ys = Q0 * F + be ∧ 0 ≤ al ∧ al < F ∧ 0 ≤ be ∧ be < F) := ⟨hF, by rw [Int.mul_comm P0]; omega, by rw [Int.mul_comm Q0]; omega, ea0, ea1, eb0, eb1⟩
  clear hF ea ea0 ea1 eb eb0 eb1 HB
  go_wp2_with fail
  refine bf1.mono ?_
  rintro e w2 ⟨rfl, hb2⟩
  clear bf1
  go_wp2_with fail
  refine (bf2 _ (hY1.below hb2)).mono ?_
  rintro e w3 ⟨rfl, hb3⟩
  clear bf2
  have hb13 := bnext' hb2 hb3
  have hBr3 := (hb13.block w.heap.size hsz).trans hBr
  have hbw3 := hbw.trans (hb13.mono hbw.size)
  have hsz3 : w.heap.size < w3.heap.size := Nat.lt_of_lt_of_le hsz hb13.size
  clear hb2 hb3 hb13 hBr hbw hsz hX hY hX1 hY1 hc
  go_wp2
  have hru : Row ((w3.alloc (.cells #[.int .u64 0, .int .u64 1, .int .u64 0] 200)).alloc (.cells #[.int .u64 0, .int .u64 0, .int .u64 1] 200)) w3.heap.size 200 .u64 [0, 1, 0] := (Row.new w3 200 .u64 [0, 1, 0]).alloc _
  have hrv : Row ((w3.alloc (.cells #[.int .u64 0, .int .u64 1, .int .u64 0] 200)).alloc (.cells #[.int .u64 0, .int .u64 0, .int .u64 1] 200)) (w3.heap.size + 1) 200 .u64 [0, 0, 1] := Row.new1 w3 _ 200 .u64 [0, 0, 1]
  have hb4 : Below w3.heap.size w3 ((w3.alloc (.cells #[.int .u64 0, .int .u64 1, .int .u64 0] 200)).alloc (.cells #[.int .u64 0, .int .u64 0, .int .u64 1] 200)) := bel_al (bel_al (Below.refl _ _))
  generalize ((w3.alloc (.cells #[.int .u64 0, .int .u64 1, .int .u64 0] 200)).alloc (.cells #[.int .u64 0, .int .u64 0, .int .u64 1] 200)) = W4 at *
  have hL0 : Lp (val xs) (val ys) F P0 Q0 w w3 W4 w3.heap.size (w3.heap.size + 1) false P0 Q0 0 1 0 0 0 1 := ⟨La.start p3 p4, hru, hrv, hb4⟩
  have HL0 : Hid (Lp (val xs) (val ys) F P0 Q0 w w3 W4 w3.heap.size (w3.heap.size + 1) false P0 Q0 0 1 0 0 0 1) := hL0
  clear hru hrv hb4 hL0
  go_loopw [8, 9, 12] (fun pv qv ev wr => ∃ (e : Bool) (p q s0 s1 s2 t0 t1 t2 : Int), pv = .int .u64 p ∧ qv = .int .u64 q ∧ ev = .bool e ∧ 0 < p ∧ p ≤ P0 ∧ 0 ≤ q ∧ q ≤ p ∧ Hid (Lp (val xs) (val ys) F P0 Q0 w w3 wr w3.heap.size (w3.heap.size + 1) e p q s0 s1 s2 t0 t1 t2)) (fun _ qv _ _ => (intOf qv).toNat)
  case atStart => exact ⟨false, P0, Q0, 0, 1, 0, 0, 0, 1, rfl, rfl, rfl, p1, Int.le_refl _, p3, p4, HL0.out⟩
  case round =>
    obtain ⟨ev, p, q, s0, s1, s2, t0, t1, t2, rfl, rfl, rfl, hp0, hp1, hq0, hq1, H⟩ := hrel
    have hla := H.out.la
    obtain ⟨d1, d2, d3, d4, d5, d6, d7, d8⟩ := hla.bd hp0 p2
    have n1 := hla.s1n
    have n2 := hla.s2n
    have n3 := hla.t1n
    have n4 := hla.t2n
    have u0 := H.out.ru.cell 0 (by simp)
    have u1 := H.out.ru.cell 1 (by simp)
    have u2 := H.out.ru.cell 2 (by simp)
    have v0 := H.out.rv.cell 0 (by simp)
    have v1 := H.out.rv.cell 1 (by simp)
    have v2 := H.out.rv.cell 2 (by simp)
    have fu0 := H.out.ru.frozen 0
    have fu1 := H.out.ru.frozen 1
    have fu2 := H.out.ru.frozen 2
    have fv0 := H.out.rv.frozen 0
    have fv1 := H.out.rv.frozen 1
    have fv2 := H.out.rv.frozen 2
    rw [show gx [s0, s1, s2] 0 = s0 from rfl] at u0
    rw [show gx [s0, s1, s2] 1 = s1 from rfl] at u1
    rw [show gx [s0, s1, s2] 2 = s2 from rfl] at u2
    rw [show gx [t0, t1, t2] 0 = t0 from rfl] at v0
    rw [show gx [t0, t1, t2] 1 = t1 from rfl] at v1
    rw [show gx [t0, t1, t2] 2 = t2 from rfl] at v2
    clear hla
    by_cases c : t2 ≤ q ∧ t1 + t2 ≤ p - q
    · obtain ⟨c1, c2⟩ := c
      have hqp : 0 < q := by omega
      have hqz : (q == 0) = false := beq_eq_false_iff_ne.2 (by omega)
      have hdv0 : 0 ≤ p / q := Int.ediv_nonneg (by omega) (by omega)
      have hdv1 : p / q ≤ p := Int.ediv_le_self _ (by omega)
      obtain ⟨h1, h2, h3, h4, h5, h6, h7⟩ := HE.out
      have hst := H.out.la.step h1 p2 h2 h3 h4 h5 h6 h7 c1 c2
      have hrm0 := Int.emod_nonneg p (show q ≠ 0 by omega)
      have hrm1 := Int.emod_lt_of_pos p hqp
      have hbd := hst.bd hqp p2
      have k1 : t1 + p / q * t2 < 1152921504606846976 := by have := hbd.2.2.2.2.2.2.1; omega
      have k2 : s1 + p / q * s2 < 1152921504606846976 := by have := hbd.2.2.2.2.2.2.2; omega
      have k3 := Int.mul_nonneg hdv0 n2
      have k4 := Int.mul_nonneg hdv0 (show 0 ≤ t2 by omega)
      have HS : Hid (La (val xs) (val ys) F P0 Q0 (-(if ev then -1 else 1)) q (p % q) s1 s2 (s1 + p / q * s2) t1 t2 (t1 + p / q * t2)) := hst
      clear h1 h2 h3 h4 h5 h6 h7 hst hbd
      go_wp2
      go_region
      all_goals go_wp2
      refine ⟨⟨!ev, q, p % q, s1, s2, s1 + p / q * s2, t1, t2, t1 + p / q * t2, rfl, rfl, rfl, hqp, by omega, hrm0, by omega, ?_, ?_, ?_, ?_⟩, by simp [intOf]; omega⟩
      · have := HS.out
        cases ev
        · exact this
        · simpa using this
      · have h1 := ((H.out.ru.set 0 s1).set 1 s2).set 2 (s1 + p / q * s2)
        exact (((h1.set_other ⟨w3.heap.size + 1, 0, none⟩ _ (by simp)).set_other ⟨w3.heap.size + 1, 1, none⟩ _ (by simp)).set_other ⟨w3.heap.size + 1, 2, none⟩ _ (by simp)).drew
      · have h1 := ((H.out.rv.set_other ⟨w3.heap.size, 0, none⟩ (.int .u64 s1) (by simp)).set_other ⟨w3.heap.size, 1, none⟩ (.int .u64 s2) (by simp)).set_other ⟨w3.heap.size, 2, none⟩ (.int .u64 (s1 + p / q * s2)) (by simp)
        exact (((h1.set 0 t1).set 1 t2).set 2 (t1 + p / q * t2)).drew
      · have h1 := ((H.out.bl.setCell (p := ⟨w3.heap.size, 0, none⟩) (Nat.le_refl _) (.int .u64 s1)).setCell (p := ⟨w3.heap.size, 1, none⟩) (Nat.le_refl _) (.int .u64 s2)).setCell (p := ⟨w3.heap.size, 2, none⟩) (Nat.le_refl _) (.int .u64 (s1 + p / q * s2))
        exact (((h1.setCell (p := ⟨w3.heap.size + 1, 0, none⟩) (by simp) _).setCell (p := ⟨w3.heap.size + 1, 1, none⟩) (by simp) _).setCell (p := ⟨w3.heap.size + 1, 2, none⟩) (by simp) _).drew
    · have HG : Hid (0 < t0 → if ev then Good (val xs) (val ys) s0 (-t0) (-s1) t1 else Good (val xs) (val ys) (-s0) t0 s1 (-t1)) := fun h => by
        obtain ⟨g1, g2, g3, g4, g5, g6, g7, g8, g9, g10, g11⟩ := H.out.la.done h
        cases ev
        · have r0 : rem0 (if false = true then -1 else 1) s0 t0 (val xs) (val ys) = -s0 * val xs + t0 * val ys := by simp [rem0]; grind
          have r1 : rem1 (if false = true then -1 else 1) s1 t1 (val xs) (val ys) = s1 * val xs + -t1 * val ys := by simp [rem1]; grind
          rw [r0] at g9 g10 g11
          rw [r1] at g8 g9 g11
          exact ⟨by omega, by omega, by omega, by omega, by omega, by omega, by omega, by omega, g8, g9, g10, g11⟩
        · have r0 : rem0 (if true = true then -1 else 1) s0 t0 (val xs) (val ys) = s0 * val xs + -t0 * val ys := by simp [rem0]; grind
          have r1 : rem1 (if true = true then -1 else 1) s1 t1 (val xs) (val ys) = -s1 * val xs + t1 * val ys := by simp [rem1]; grind
          rw [r0] at g9 g10 g11
          rw [r1] at g8 g9 g11
          exact ⟨by omega, by omega, by omega, by omega, by omega, by omega, by omega, by omega, g8, g9, g10, g11⟩
      have hbr := hbw3.trans (H.out.bl.mono hbw3.size)
      have hBr4 := (H.out.bl.block w.heap.size hsz3).trans hBr3
      have z0 := cell_of_row wr w.heap.size 0 _ _ (0, 0) hBr4
      have z1 := cell_of_row wr w.heap.size 1 _ _ (0, 0) hBr4
      have z2 := cell_of_row wr w.heap.size 2 _ _ (0, 0) hBr4
      have z3 := cell_of_row wr w.heap.size 3 _ _ (0, 0) hBr4
      have y0 := frozen_of_row wr w.heap.size 0 _ _ hBr4
      have y1 := frozen_of_row wr w.heap.size 1 _ _ hBr4
      have y2 := frozen_of_row wr w.heap.size 2 _ _ hBr4
      have y3 := frozen_of_row wr w.heap.size 3 _ _ hBr4
      simp only [List.getElem?_toArray, List.getElem?_cons_zero, List.getElem?_cons_succ] at z0 z1 z2 z3
      have hgr : w.heap.size < wr.heap.size := Nat.lt_of_lt_of_le hsz3 H.out.bl.size
      have hgu : w3.heap.size + 1 < wr.heap.size := H.out.rv.lt
      have HZ : Hid (Row wr w.heap.size 175 .i64 [0, 0, 0, 0]) := hBr4
      clear hBr4 hBr3 hbw3 fu0 fu1 fu2 fv0 fv1 fv2
      by_cases c1 : t2 ≤ q
      · have c2 : ¬ t1 + t2 ≤ p - q := fun h => c ⟨c1, h⟩
        clear c
        cases ev
        · go_wp2
          go_region
          all_goals go_wp2
          have hR := ((((HZ.out.set 0 (-s0)).set 1 (t0)).set 2 (s1)).set 3 (-t1)).alloc (.cells #[.int .i64 (-s0), .int .i64 (t0), .int .i64 (s1), .int .i64 (-t1)] 175)
          have r0 := hR.cell 0 (by simp)
          have r1 := hR.cell 1 (by simp)
          have r2 := hR.cell 2 (by simp)
          have r3 := hR.cell 3 (by simp)
          simp only [List.set_cons_zero, List.set_cons_succ, gx_zero, gx_succ, show gx [-s0, t0, s1, -t1] 1 = t0 from rfl, show gx [-s0, t0, s1, -t1] 2 = s1 from rfl, show gx [-s0, t0, s1, -t1] 3 = -t1 from rfl] at r0 r1 r2 r3
          refine bodyPost_ret (v := .tuple #[.agg #[.int .i64 (-s0), .int .i64 (t0), .int .i64 (s1), .int .i64 (-t1)], .bool (decide (0 < t0))]) (by simp [results, Tryz.results175, go_sem, r0, r1, r2, r3]) rfl ⟨-s0, t0, s1, -t1, decide (0 < t0), rfl, fun h => HG.out (of_decide_eq_true h), ?_⟩
          exact (((((hbr.setCell (p := ⟨w.heap.size, 0, none⟩) (Nat.le_refl _) _).setCell (p := ⟨w.heap.size, 1, none⟩) (Nat.le_refl _) _).setCell (p := ⟨w.heap.size, 2, none⟩) (Nat.le_refl _) _).setCell (p := ⟨w.heap.size, 3, none⟩) (Nat.le_refl _) _).alloc (by simp; omega) _).drew
        · go_wp2
          go_region
          all_goals go_wp2
          have hR := ((((HZ.out.set 0 (s0)).set 1 (-t0)).set 2 (-s1)).set 3 (t1)).alloc (.cells #[.int .i64 (s0), .int .i64 (-t0), .int .i64 (-s1), .int .i64 (t1)] 175)
          have r0 := hR.cell 0 (by simp)
          have r1 := hR.cell 1 (by simp)
          have r2 := hR.cell 2 (by simp)
          have r3 := hR.cell 3 (by simp)
          simp only [List.set_cons_zero, List.set_cons_succ, gx_zero, gx_succ, show gx [s0, -t0, -s1, t1] 1 = -t0 from rfl, show gx [s0, -t0, -s1, t1] 2 = -s1 from rfl, show gx [s0, -t0, -s1, t1] 3 = t1 from rfl] at r0 r1 r2 r3
          refine bodyPost_ret (v := .tuple #[.agg #[.int .i64 (s0), .int .i64 (-t0), .int .i64 (-s1), .int .i64 (t1)], .bool (decide (0 < t0))]) (by simp [results, Tryz.results175, go_sem, r0, r1, r2, r3]) rfl ⟨s0, -t0, -s1, t1, decide (0 < t0), rfl, fun h => HG.out (of_decide_eq_true h), ?_⟩
          exact (((((hbr.setCell (p := ⟨w.heap.size, 0, none⟩) (Nat.le_refl _) _).setCell (p := ⟨w.heap.size, 1, none⟩) (Nat.le_refl _) _).setCell (p := ⟨w.heap.size, 2, none⟩) (Nat.le_refl _) _).setCell (p := ⟨w.heap.size, 3, none⟩) (Nat.le_refl _) _).alloc (by simp; omega) _).drew
      · clear c
        cases ev
        · go_wp2
          go_region
          all_goals go_wp2
          have hR := ((((HZ.out.set 0 (-s0)).set 1 (t0)).set 2 (s1)).set 3 (-t1)).alloc (.cells #[.int .i64 (-s0), .int .i64 (t0), .int .i64 (s1), .int .i64 (-t1)] 175)
          have r0 := hR.cell 0 (by simp)
          have r1 := hR.cell 1 (by simp)
          have r2 := hR.cell 2 (by simp)
          have r3 := hR.cell 3 (by simp)
          simp only [List.set_cons_zero, List.set_cons_succ, gx_zero, gx_succ, show gx [-s0, t0, s1, -t1] 1 = t0 from rfl, show gx [-s0, t0, s1, -t1] 2 = s1 from rfl, show gx [-s0, t0, s1, -t1] 3 = -t1 from rfl] at r0 r1 r2 r3
          refine bodyPost_ret (v := .tuple #[.agg #[.int .i64 (-s0), .int .i64 (t0), .int .i64 (s1), .int .i64 (-t1)], .bool (decide (0 < t0))]) (by simp [results, Tryz.results175, go_sem, r0, r1, r2, r3]) rfl ⟨-s0, t0, s1, -t1, decide (0 < t0), rfl, fun h => HG.out (of_decide_eq_true h), ?_⟩
          exact (((((hbr.setCell (p := ⟨w.heap.size, 0, none⟩) (Nat.le_refl _) _).setCell (p := ⟨w.heap.size, 1, none⟩) (Nat.le_refl _) _).setCell (p := ⟨w.heap.size, 2, none⟩) (Nat.le_refl _) _).setCell (p := ⟨w.heap.size, 3, none⟩) (Nat.le_refl _) _).alloc (by simp; omega) _).drew
        · go_wp2
          go_region
          all_goals go_wp2
          have hR := ((((HZ.out.set 0 (s0)).set 1 (-t0)).set 2 (-s1)).set 3 (t1)).alloc (.cells #[.int .i64 (s0), .int .i64 (-t0), .int .i64 (-s1), .int .i64 (t1)] 175)
          have r0 := hR.cell 0 (by simp)
          have r1 := hR.cell 1 (by simp)
          have r2 := hR.cell 2 (by simp)
          have r3 := hR.cell 3 (by simp)
          simp only [List.set_cons_zero, List.set_cons_succ, gx_zero, gx_succ, show gx [s0, -t0, -s1, t1] 1 = -t0 from rfl, show gx [s0, -t0, -s1, t1] 2 = -s1 from rfl, show gx [s0, -t0, -s1, t1] 3 = t1 from rfl] at r0 r1 r2 r3
          refine bodyPost_ret (v := .tuple #[.agg #[.int .i64 (s0), .int .i64 (-t0), .int .i64 (-s1), .int .i64 (t1)], .bool (decide (0 < t0))]) (by simp [results, Tryz.results175, go_sem, r0, r1, r2, r3]) rfl ⟨s0, -t0, -s1, t1, decide (0 < t0), rfl, fun h => HG.out (of_decide_eq_true h), ?_⟩
          exact (((((hbr.setCell (p := ⟨w.heap.size, 0, none⟩) (Nat.le_refl _) _).setCell (p := ⟨w.heap.size, 1, none⟩) (Nat.le_refl _) _).setCell (p := ⟨w.heap.size, 2, none⟩) (Nat.le_refl _) _).setCell (p := ⟨w.heap.size, 3, none⟩) (Nat.le_refl _) _).alloc (by simp; omega) _).drew
end Go.Proofs.YtdjjlghlcffflaaGreatDoor
