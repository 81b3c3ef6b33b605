/-
  Eq's regions within a fence (in a round of a range over a function).
-/
import Derived.Test.YtkjpeehbhmcojaaGreatDoorEq
import Derived.OrdersIn
import Derived.CallsIn
import Derived.Test.YtkjpeehbhmcojaaGreatDoorWiWjUl
import Derived.Test.YtkjpeehbhmcojaaGreatDoorUoDmVtAfBpBnBoAhAdBsDtAgWvUhAiRzVd
import Derived.Test.YtkjpeehbhmcojaaGreatDoorDcUjLeUk
import Derived.Test.YtkjpeehbhmcojaaGreatDoorRkUiVq
import Derived.Test.YtkjpeehbhmcojaaGreatDoorCyViDsAeVuWxUpUq
import Derived.Deep.DeepFit
import Derived.Test.YtkjpeehbhmcojaaGreatDoorRdLnWrIbWg
import Derived.Test.YtkjpeehbhmcojaaGreatDoorUaVgOnWhPn
import Derived.Test.YtkjpeehbhmcojaaGreatDoorBbCvNjUbUcUdOwRaWmBe
import Derived.Test.YtkjpeehbhmcojaaGreatDoorPlS1Mm
import Derived.Lib.EndianBits
namespace Go.Proofs.YtkjpeehbhmcojaaGreatDoor
open Go.RowKit
set_option linter.unusedVariables false
set_option linter.unusedSimpArgs false
set_option maxHeartbeats 8000000
section
variable {F : Fence} {n : Nat} {P : Program} {Q : Exit → Act → World → Prop} {W : World} {ops : Array Oper} {t0 : Array Value} {dl : List (Nat × Nat)} {al : List Nat} {ans : List Ax} {i : Nat} {o : Oper}
end
theorem ps_past (zs ys : List Int) (t : Nat) : ∀ m, ps zs ys (zs.length + m) t = ps zs ys zs.length t
  | 0 => rfl
  | m + 1 => by rw [← Nat.add_assoc, ps_none zs ys _ t (gx_past zs _ (Nat.le_refl _) _ (by omega)), ps_past zs ys t m]
theorem ps_late (zs ys : List Int) (t : Nat) : ∀ m, ps zs ys (t + 1 + m) t = ps zs ys (t + 1) t
  | 0 => rfl
  | m + 1 => by
    rw [← Nat.add_assoc, ps, ps_late zs ys t m, if_neg (by omega), Int.add_zero]
theorem ps_nil (zs : List Int) (t : Nat) : ∀ i, ps zs [] i t = 0
  | 0 => rfl
  | i + 1 => by rw [ps, ps_nil zs t i]; simp [gx]
theorem gx_mulp (zs ys : List Int) (t : Nat) : gx (mulp zs ys) t = ps zs ys (t + 1) t := by
  have h0 : ps zs ys (t + 1) t = ps zs ys zs.length t := by
    have h1 := ps_late zs ys t (zs.length)
    have h2 := ps_past zs ys t (t + 1)
    rw [Nat.add_comm] at h2
    rw [← h1, h2]
  rw [h0, mulp]
  by_cases h : zs.length = 0 ∨ ys.length = 0
  · rw [if_pos h]
    rcases h with h | h
    · rw [h]; rfl
    · rw [List.eq_nil_of_length_eq_zero h, ps_nil]; rfl
  · rw [if_neg h]
    rcases Nat.lt_or_ge t (zs.length + ys.length - 1) with h1 | h1
    · rw [gx_mulz _ _ _ h1]
    · rw [gx_past _ (zs.length + ys.length - 1) (by rw [length_mulz]; exact Nat.le_refl _) t h1, ps_far zs ys t zs.length (by omega)]
def sq (f : Nat → Int) : Nat → Int
  | 0 => 0
  | n + 1 => sq f n + f n
theorem sq_congr {f g : Nat → Int} : ∀ n, (∀ i, i < n → f i = g i) → sq f n = sq g n
  | 0, _ => rfl
  | n + 1, h => by rw [sq, sq, sq_congr n fun i hi => h i (by omega), h n (by omega)]
theorem sq_front (f : Nat → Int) : ∀ n, sq f (n + 1) = f 0 + sq (fun i => f (i + 1)) n
  | 0 => by simp [sq]
  | n + 1 => by rw [sq, sq_front f n, sq]; omega
theorem sq_rev (f : Nat → Int) : ∀ n, sq (fun i => f (n - 1 - i)) n = sq f n
  | 0 => rfl
  | n + 1 => by
    rw [sq_front, sq]
    have h := sq_rev f n
    have h1 : sq (fun i => f (n + 1 - 1 - (i + 1))) n = sq (fun i => f (n - 1 - i)) n := sq_congr n fun i hi => by
      show f _ = f _
      congr 1
      omega
    rw [h1, h]
    show f n + _ = _
    omega
theorem ps_sq (zs ys : List Int) (t : Nat) : ∀ n, n ≤ t + 1 → ps zs ys n t = sq (fun i => gx zs i * gx ys (t - i)) n
  | 0, _ => rfl
  | n + 1, h => by
    rw [ps, sq, ps_sq zs ys t n (by omega)]
    first | rw [if_pos (by omega)] | rw [if_neg (by omega)]
theorem mulp_comm (a b : List Int) : mulp a b = mulp b a := by
  have hl : (mulp a b).length = (mulp b a).length := by
    unfold mulp
    by_cases h : a.length = 0 ∨ b.length = 0
    · rw [if_pos h, if_pos h.symm]
    · rw [if_neg h, if_neg (fun e => h e.symm), length_mulz, length_mulz]
      omega
  refine gx_ext _ _ hl fun t ht => ?_
  rw [gx_mulp, gx_mulp, ps_sq _ _ _ _ (Nat.le_refl _), ps_sq _ _ _ _ (Nat.le_refl _), ← sq_rev]
  refine sq_congr _ fun i hi => ?_
  show gx a (t + 1 - 1 - i) * gx b (t - (t + 1 - 1 - i)) = _
  rw [show t + 1 - 1 - i = t - i by omega, show t - (t - i) = i by omega, Int.mul_comm]
theorem zb_le_of {z : Int} {b : Nat} (h : (z.natAbs : Int) < 2 ^ b) : zb z ≤ b := by
  rcases Nat.lt_or_ge b (zb z) with h1 | h1
  · exfalso
    have h2 := p2_mono (show b ≤ zb z - 1 by omega)
    rcases (zb_ib z).2.2 with h3 | h3
    · omega
    · omega
  · exact h1
def hor (a : Int) : List Int → List Int
  | [] => []
  | c :: cs => (c + a * gx (hor a cs) 0) :: hor a cs
theorem gx_cons_zero (c : Int) (cs : List Int) : gx (c :: cs) 0 = c := by simp [gx]
theorem gx_cons_succ (c : Int) (cs : List Int) (j : Nat) : gx (c :: cs) (j + 1) = gx cs j := by simp [gx]
theorem PR.tight {W : World} {N K : Nat} {p : Option Addr} {n nc : Nat} {es : List Ent} {zs : List Int} (h : PR W N p n nc es zs) (hz : ∀ t, ((gx zs t).natAbs : Int) < pw K) : PR W (2 * K) p n nc es zs := ⟨h.el, h.zl, h.cap, h.bnd, h.pl, fun j hj => ⟨(h.ev j hj).1.tight (hz j), (h.ev j hj).2⟩⟩
theorem PR.wide {W : World} {N M : Nat} {p : Option Addr} {n nc : Nat} {es : List Ent} {zs : List Int} (h : PR W N p n nc es zs) (hM : N ≤ M) : PR W M p n nc es zs := ⟨h.el, h.zl, h.cap, h.bnd, h.pl, fun j hj => (h.ev j hj).wide hM⟩
def dl (a : Int) : List Int → Nat → Int
  | [], _ => 0
  | c :: _, 0 => c
  | _ :: cs, t + 1 => a * dl a cs t
open Go.Shelf
theorem Of_e (a : Int) (w : World) (h0 : -9223372036854775808 ≤ a) (h1 : a ≤ 9223372036854775807) : Calls Tryz.prog 47 #[.int .i64 a] w fun r w' => ∃ u : Ent, r = .returned (.agg #[.bool u.s, .slice u.p u.n u.c]) ∧ NV w.heap.size w' 2 a u ∧ Below w.heap.size w w' := by
  refine (Of_any a w h0 h1).mono ?_
  rintro e w' ⟨s', p', n', zs, rfl, g1, g2, g3⟩
  exact ⟨⟨s', p', n', n'⟩, rfl, ⟨zs, g1, rfl, g2⟩, g3⟩
def rem0 (sg s t a b : Int) : Int := -sg * (s * a - t * b)
def rem1 (sg s t a b : Int) : Int := sg * (s * a - t * b)
structure La (a b F p0 q0 sg p q s0 s1 s2 t0 t1 t2 : Int) : Prop where
  hs : sg = 1 ∨ sg = -1
  ep : p = sg * (s1 * p0 - t1 * q0)
  eq : q = -sg * (s2 * p0 - t2 * q0)
  idn : t2 * p + t1 * q = p0
  s1n : 0 ≤ s1
  s2n : 0 ≤ s2
  t1n : 0 ≤ t1
  t2n : 1 ≤ t2
  t12 : t1 ≤ t2
  st2 : s2 ≤ t2
  st12 : s1 + s2 ≤ t1 + t2
  qn : 0 ≤ q
  pq : q ≤ p
  pp : p ≤ p0
  g : Int.gcd (rem1 sg s1 t1 a b) (rem0 sg s2 t2 a b) = Int.gcd a b
  prev : (s0 = 0 ∧ t0 = 0 ∧ s1 = 1 ∧ t1 = 0 ∧ s2 = 0 ∧ t2 = 1 ∧ sg = 1) ∨
    (0 ≤ s0 ∧ 0 ≤ t0 ∧ t0 ≤ t1 ∧ t1 < 1073741824 ∧ s0 < 1073741824 ∧ s1 ≤ t1 ∧ 1 ≤ t1 ∧ 0 ≤ rem1 sg s1 t1 a b ∧ rem1 sg s1 t1 a b < rem0 sg s0 t0 a b ∧ rem1 sg s1 t1 a b ≤ b ∧ (t0 = 0 ∨ rem0 sg s0 t0 a b ≤ b) ∧ Int.gcd (rem0 sg s0 t0 a b) (rem1 sg s1 t1 a b) = Int.gcd a b)
theorem La.start {a b F p0 q0 : Int} (hq : 0 ≤ q0) (hp : q0 ≤ p0) : La a b F p0 q0 1 p0 q0 0 1 0 0 0 1 := by
  refine ⟨.inl rfl, by omega, by omega, by omega, by decide, by decide, by decide, by decide, by decide, by decide, by decide, hq, hp, Int.le_refl _, ?_, .inl ⟨rfl, rfl, rfl, rfl, rfl, rfl, rfl⟩⟩
  rw [rem1, rem0, show (1 : Int) * (1 * a - 0 * b) = a by omega, show -(1 : Int) * (0 * a - 1 * b) = b by omega]
theorem rest_lo {F al be s t : Int} (hF : 0 < F) (ha0 : 0 ≤ al) (ha1 : al < F) (hb0 : 0 ≤ be) (hb1 : be < F) (hs0 : 0 ≤ s) (ht0 : 0 ≤ t) (hst : s ≤ t) :
    -(t * (F - 1)) ≤ s * al - t * be ∧ s * al - t * be ≤ t * (F - 1) := by
  have h1 : s * al ≤ s * (F - 1) := Int.mul_le_mul_of_nonneg_left (by omega) hs0
  have h2 : s * (F - 1) ≤ t * (F - 1) := Int.mul_le_mul_of_nonneg_right hst (by omega)
  have h3 : t * be ≤ t * (F - 1) := Int.mul_le_mul_of_nonneg_left (by omega) ht0
  have h4 : 0 ≤ s * al := Int.mul_nonneg hs0 ha0
  have h5 : 0 ≤ t * be := Int.mul_nonneg ht0 hb0
  constructor <;> omega
theorem sg_bd {sg x M : Int} (hs : sg = 1 ∨ sg = -1) (h : -M ≤ x ∧ x ≤ M) : -M ≤ sg * x ∧ sg * x ≤ M := by
  rcases hs with rfl | rfl <;> omega
theorem sq_lt {t p p0 : Int} (ht : 1 ≤ t) (hp : t ≤ p) (h : t * p ≤ p0) (h0 : p0 < 1152921504606846976) : t < 1073741824 := by
  rcases (show t < 1073741824 ∨ 1073741824 ≤ t by omega) with h1 | h1
  · exact h1
  · exfalso
    have h2 : t * 1073741824 ≤ t * p := Int.mul_le_mul_of_nonneg_left (by omega) (by omega)
    have h3 : 1073741824 * 1073741824 ≤ t * 1073741824 := Int.mul_le_mul_of_nonneg_right h1 (by decide)
    omega
theorem La.step {a b F p0 q0 sg p q s0 s1 s2 t0 t1 t2 al be : Int} (h : La a b F p0 q0 sg p q s0 s1 s2 t0 t1 t2) (hF : 0 < F) (hp0 : p0 < 1152921504606846976)
    (ea : a = p0 * F + al) (eb : b = q0 * F + be) (ha0 : 0 ≤ al) (ha1 : al < F) (hb0 : 0 ≤ be) (hb1 : be < F)
    (c1 : t2 ≤ q) (c2 : t1 + t2 ≤ p - q) : La a b F p0 q0 (-sg) q (p % q) s1 s2 (s1 + p / q * s2) t1 t2 (t1 + p / q * t2) := by
  have t2n := h.t2n
  have t1n := h.t1n
  have hq : 0 < q := by omega
  have hd : 1 ≤ p / q := (Int.le_ediv_iff_mul_le hq).2 (by have := h.pq; omega)
  have hm : p % q = p - p / q * q := by have := Int.emod_add_mul_ediv p q; rw [Int.mul_comm q] at this; omega
  have hm0 := Int.emod_nonneg p (show q ≠ 0 by omega)
  have hm1 := Int.emod_lt_of_pos p hq
  generalize p / q = d at *
  have hs2 := Int.mul_nonneg (show 0 ≤ d by omega) h.s2n
  have ht2 : t2 ≤ d * t2 := by have := Int.mul_le_mul_of_nonneg_right hd (show 0 ≤ t2 by omega); omega
  have hds : (d - 1) * s2 ≤ (d - 1) * t2 := Int.mul_le_mul_of_nonneg_left h.st2 (by omega)
  rw [Int.sub_mul, Int.sub_mul, Int.one_mul, Int.one_mul] at hds
  have hst12 := h.st12
  have hst2 := h.st2
  have hs1n := h.s1n
  have hs2n := h.s2n
  -- what is left
  have e2 : rem0 sg s2 t2 a b = F * q - sg * (s2 * al - t2 * be) := by rw [rem0, ea, eb, h.eq]; grind
  have e1 : rem1 sg s1 t1 a b - rem0 sg s2 t2 a b = F * (p - q) + sg * ((s1 + s2) * al - (t1 + t2) * be) := by rw [rem0, rem1, ea, eb, h.eq, h.ep]; grind
  have b2 := sg_bd h.hs (rest_lo hF ha0 ha1 hb0 hb1 h.s2n (by omega) h.st2)
  have b1 := sg_bd h.hs (rest_lo hF ha0 ha1 hb0 hb1 (s := s1 + s2) (t := t1 + t2) (by omega) (by omega) h.st12)
  have k2 : F * t2 ≤ F * q := Int.mul_le_mul_of_nonneg_left c1 (by omega)
  have k1 : F * (t1 + t2) ≤ F * (p - q) := Int.mul_le_mul_of_nonneg_left c2 (by omega)
  have m2 : t2 * (F - 1) = F * t2 - t2 := by rw [Int.mul_sub, Int.mul_comm F]; omega
  have m1 : (t1 + t2) * (F - 1) = F * (t1 + t2) - (t1 + t2) := by rw [Int.mul_sub, Int.mul_comm F]; omega
  have x2 : 0 ≤ rem0 sg s2 t2 a b := by omega
  have x1 : rem0 sg s2 t2 a b < rem1 sg s1 t1 a b := by omega
  have f1 : rem1 (-sg) s2 t2 a b = rem0 sg s2 t2 a b := rfl
  have f0 : rem0 (-sg) s1 t1 a b = rem1 sg s1 t1 a b := by rw [rem0, rem1, Int.neg_neg]
  have f2 : rem0 (-sg) (s1 + d * s2) (t1 + d * t2) a b = rem1 sg s1 t1 a b - d * rem0 sg s2 t2 a b := by rw [rem0, rem1, rem0]; grind
  have hid := h.idn
  have htq := Int.mul_nonneg t1n h.qn
  refine ⟨by rcases h.hs with e | e <;> omega, h.eq, ?_, ?_, h.s2n, by omega, by omega, by omega, by omega, by omega, by omega, hm0, by omega, by have := h.pp; have := h.pq; omega, ?_, .inr ⟨h.s1n, h.t1n, h.t12, ?_, ?_, h.st2, h.t2n, by rw [f1]; exact x2, by rw [f1, f0]; exact x1, ?_, ?_, ?_⟩⟩
  · rw [hm, h.ep, h.eq]; grind
  · rw [hm]
    have : (t1 + d * t2) * q + t2 * (p - d * q) = t2 * p + t1 * q := by grind
    omega
  · rw [f1, f2, Int.gcd_sub_mul_right_right, Int.gcd_comm]; exact h.g
  · exact sq_lt (p := p) h.t2n (by have := h.qn; omega) (by omega) hp0
  · rcases h.prev with ⟨_, _, e, _⟩ | ⟨_, _, _, e, _, e', _⟩
    · omega
    · omega
  · rw [f1]
    rcases h.prev with ⟨_, _, _, _, e3, e4, e5⟩ | ⟨_, _, _, _, _, _, _, _, _, e, _⟩
    · rw [e3, e4, e5, rem0]; omega
    · omega
  · rw [f0]
    rcases h.prev with ⟨_, _, _, e, _⟩ | ⟨_, _, _, _, _, _, _, _, _, e, _⟩
    · exact .inl e
    · exact .inr e
  · rw [f0, f1]; exact h.g
theorem La.done {a b F p0 q0 sg p q s0 s1 s2 t0 t1 t2 : Int} (h : La a b F p0 q0 sg p q s0 s1 s2 t0 t1 t2) (ht : 0 < t0) :
    0 ≤ s0 ∧ s0 < 1073741824 ∧ t0 < 1073741824 ∧ 0 ≤ s1 ∧ s1 < 1073741824 ∧ 0 ≤ t1 ∧ t1 < 1073741824 ∧ 0 ≤ rem1 sg s1 t1 a b ∧ rem1 sg s1 t1 a b < rem0 sg s0 t0 a b ∧ rem0 sg s0 t0 a b ≤ b ∧ Int.gcd (rem0 sg s0 t0 a b) (rem1 sg s1 t1 a b) = Int.gcd a b := by
  rcases h.prev with ⟨_, e, _⟩ | ⟨h1, h2, h3, h4, h5, h6, h7, h8, h9, h10, h11, h12⟩
  · omega
  · exact ⟨h1, h5, by omega, h.s1n, by omega, h.t1n, h4, h8, h9, by rcases h11 with e | e; omega; exact e, h12⟩
theorem La.bd {a b F p0 q0 sg p q s0 s1 s2 t0 t1 t2 : Int} (h : La a b F p0 q0 sg p q s0 s1 s2 t0 t1 t2) (hq : 0 < p) (hp0 : p0 < 1152921504606846976) :
    0 ≤ s0 ∧ s0 < 1073741824 ∧ 0 ≤ t0 ∧ t0 < 1073741824 ∧ s1 ≤ 1073741824 ∧ t1 < 1073741824 ∧ t2 ≤ p0 ∧ s2 ≤ p0 := by
  have h1 : t2 * 1 ≤ t2 * p := Int.mul_le_mul_of_nonneg_left (by omega) (by have := h.t2n; omega)
  have h2 := Int.mul_nonneg h.t1n h.qn
  have h3 := h.idn
  have h4 := h.st2
  rcases h.prev with ⟨e1, e2, e3, e4, _⟩ | ⟨h1, h2, h3, h4, h5, h6, h7, h8, h9, h10, h11, h12⟩ <;> refine ⟨by omega, by omega, by omega, by omega, by omega, by omega, by omega, by omega⟩
theorem val_drop_next (xs : List Int) (i : Nat) : val (xs.drop i) = gx xs i + 4294967296 * val (xs.drop (i + 1)) := by
  by_cases h : i < xs.length
  · rw [drop_cons xs i h]; rfl
  · rw [List.drop_of_length_le (by omega), List.drop_of_length_le (by omega), gx_past xs i (by omega) i (Nat.le_refl _)]; rfl
theorem val_cut (xs : List Int) (i : Nat) : val xs = val (xs.take i) + pw i * val (xs.drop i) := by
  by_cases h : i ≤ xs.length
  · exact val_drop_take xs i h
  · rw [List.take_of_length_le (by omega), List.drop_of_length_le (by omega)]; simp [val]
theorem pw_two (i : Nat) : pw i = 2 ^ (32 * i) := by
  unfold pw
  rw [Int.pow_mul]
  rfl
theorem val_div_pw {xs : List Int} (h : U32 xs) (i : Nat) : val xs / pw i = val (xs.drop i) := by
  have h1 := val_nonneg (u32_take h i)
  have h2 := val_lt (u32_take h i)
  have h3 : pw (xs.take i).length ≤ pw i := pw_mono (List.length_take_le _ _)
  have h4 := pw_pos i
  rw [val_cut xs i, Int.add_mul_ediv_left _ _ (by omega), Int.ediv_eq_zero_of_lt h1 (by omega), Int.zero_add]
theorem two_le {a b : Nat} (h : a ≤ b) : (2 : Int) ^ a ≤ 2 ^ b := by
  obtain ⟨c, rfl⟩ := Nat.exists_eq_add_of_le h
  rw [Int.pow_add]
  have h1 : (0 : Int) < 2 ^ a := Int.pow_pos (by decide)
  have h2 : (0 : Int) < 2 ^ c := Int.pow_pos (by decide)
  have : (2 : Int) ^ a * 1 ≤ 2 ^ a * 2 ^ c := Int.mul_le_mul_of_nonneg_left (by omega) (by omega)
  omega
theorem two_split (off : Nat) (h : off ≤ 64) : (2 : Int) ^ off * 2 ^ (64 - off) = 18446744073709551616 := by
  rw [← Int.pow_add, show off + (64 - off) = 64 by omega]; rfl
theorem bits_from {xs : List Int} (hU : U32 xs) (i off : Nat) (hoff : off < 32) (hv : val xs < 2 ^ (32 * i + off) * 1152921504606846976) :
    val xs / 2 ^ (32 * i + off) = (gx xs i + 4294967296 * gx xs (i + 1)) / 2 ^ off + gx xs (i + 2) * 2 ^ (64 - off) ∧ gx xs (i + 2) * 2 ^ (64 - off) < 1152921504606846976 ∧ 0 ≤ (gx xs i + 4294967296 * gx xs (i + 1)) / 2 ^ off ∧ (gx xs i + 4294967296 * gx xs (i + 1)) / 2 ^ off < 2 ^ (64 - off) := by
  have hE : (0 : Int) < 2 ^ off := Int.pow_pos (by decide)
  have hG : (0 : Int) < 2 ^ (64 - off) := Int.pow_pos (by decide)
  have hEG := two_split off (by omega)
  have hE31 : (2 : Int) ^ off ≤ 2147483648 := by have := two_le (show off ≤ 31 by omega); omega
  have h0 := hU i
  have h1 := hU (i + 1)
  have h2 := hU (i + 2)
  have hr := val_nonneg (u32_drop hU (i + 1 + 1 + 1))
  have e0 := val_drop_next xs i
  have e1 := val_drop_next xs (i + 1)
  have e2 := val_drop_next xs (i + 1 + 1)
  rw [show i + 1 + 1 = i + 2 from rfl] at e1 e2 hr
  have hP := pw_pos i
  have ep : (2 : Int) ^ (32 * i + off) = pw i * 2 ^ off := by rw [Int.pow_add, pw_two]
  have hd := val_div_pw hU i
  rw [ep, ← Int.ediv_ediv_of_nonneg (Int.le_of_lt hP), hd]
  rw [ep, Int.mul_assoc] at hv
  have hlt : val (xs.drop i) < 2 ^ off * 1152921504606846976 := by
    rw [← hd]
    exact Int.ediv_lt_of_lt_mul hP (by rw [Int.mul_comm]; exact hv)
  generalize (2 : Int) ^ off = E at *
  generalize (2 : Int) ^ (64 - off) = G at *
  generalize val (xs.drop (i + 2 + 1)) = r at *
  have e3 : val (xs.drop i) = (gx xs i + 4294967296 * gx xs (i + 1)) + 18446744073709551616 * gx xs (i + 2) + 79228162514264337593543950336 * r := by
    rw [e0, e1, e2]; omega
  have hr0 : r = 0 := by omega
  have hm1 : (gx xs i + 4294967296 * gx xs (i + 1)) / E < G := Int.ediv_lt_of_lt_mul hE (by rw [Int.mul_comm G, hEG]; omega)
  have hm0 : 0 ≤ (gx xs i + 4294967296 * gx xs (i + 1)) / E := Int.ediv_nonneg (by omega) (Int.le_of_lt hE)
  have e4 : val (xs.drop i) / E = (gx xs i + 4294967296 * gx xs (i + 1)) / E + gx xs (i + 2) * G := by
    rw [e3, hr0, ← hEG, show gx xs i + 4294967296 * gx xs (i + 1) + E * G * gx xs (i + 2) + 79228162514264337593543950336 * 0 = gx xs i + 4294967296 * gx xs (i + 1) + E * (gx xs (i + 2) * G) by rw [Int.mul_assoc, Int.mul_comm G]; omega, Int.add_mul_ediv_left _ _ (by omega)]
  have hq : val (xs.drop i) / E < 1152921504606846976 := Int.ediv_lt_of_lt_mul hE (by rw [Int.mul_comm 1152921504606846976]; exact hlt)
  exact ⟨e4, by omega, hm0, hm1⟩
theorem or_bits (x y : Int) (s : Nat) (hs : s ≤ 64) (hx0 : 0 ≤ x) (hx : x < 2 ^ s) (hy0 : 0 ≤ y) (hy : y * 2 ^ s < 18446744073709551616) : bits .or .u64 x (y * 2 ^ s) = x + y * 2 ^ s := by
  have h1 : (2 : Int) ^ s ≤ 2 ^ 64 := two_le hs
  have h2 : (2 : Int) ^ 64 = 18446744073709551616 := rfl
  have hp : (0 : Int) < 2 ^ s := Int.pow_pos (by decide)
  exact bits_join_low .u64 64 (by decide) (fun n a b => by rw [IntKind.wrap_u64]; omega) s x (y * 2 ^ s) hx0 hx (by omega) (Int.mul_nonneg hy0 (by omega)) (Int.mul_emod_left ..) (by omega)
theorem gcd_step {x y q r : Int} (h : q * y + r = x) : Int.gcd y r = Int.gcd x y := by
  rw [← h, Int.add_comm, Int.gcd_comm (r + q * y), Int.gcd_add_mul_right_right]
structure Kp (g h : Nat) (w w' : World) : Prop where
  block : ∀ k, k < w.heap.size → k ≠ g → k ≠ h → w'.heap[k]? = w.heap[k]?
  os : w'.os = w.os
  tape : w'.tape = w.tape
  output : w'.output = w.output
  size : w.heap.size ≤ w'.heap.size
theorem Kp.refl (g h : Nat) (w : World) : Kp g h w w := ⟨fun _ _ _ _ => rfl, rfl, rfl, rfl, Nat.le_refl _⟩
end Go.Proofs.YtkjpeehbhmcojaaGreatDoor
