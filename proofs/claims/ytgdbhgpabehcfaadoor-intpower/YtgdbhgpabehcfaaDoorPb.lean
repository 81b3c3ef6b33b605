/-
  limbs.Power.
-/
import Derived.Test.YtgdbhgpabehcfaaDoorPa
import Derived.Test.YtgdbhgpabehcfaaDoorWk
import Derived.Test.YtgdbhgpabehcfaaDoorBx
namespace Go.Proofs.YtgdbhgpabehcfaaDoor
open Go.RowKit
set_option linter.unusedVariables false
set_option linter.unusedSimpArgs false

/-- What Power leaves. -/
def PPost (V : Int) (w : World) (e : Ending) (w' : World) : Prop :=
  ∃ s' p' n' zs, e = .returned (.tuple #[.agg #[.bool s', .slice p' n' n'], .int .i64 0]) ∧ NI w.heap.size w' s' p' n' zs V ∧ n' ≤ 32769 ∧ Below w.heap.size w w'
theorem sq_neg (x : Int) : x ^ 2 = (-x) ^ 2 := by
  rw [show (2 : Nat) = 1 + 1 from rfl, Int.pow_add, Int.pow_add, Int.pow_one, Int.pow_one, Int.neg_mul_neg]
theorem odd_of (m : Nat) : ((m : Int) % 2 == 1) = decide (m % 2 = 1) := by
  rcases Nat.mod_two_eq_zero_or_one m with h | h
  · rw [h]; have : (m : Int) % 2 = 0 := by omega
    rw [this]; rfl
  · rw [h]; have : (m : Int) % 2 = 1 := by omega
    rw [this]; rfl
/-- The sign of a power. -/
theorem ival_pow (s : Bool) (xs zs : List Int) (n : Nat) (h : val zs = val xs ^ n) : ival (s && decide (n % 2 = 1)) zs = ival s xs ^ n := by
  cases s
  · simp [ival, h]
  · simp only [ival, Bool.true_and, if_true, h]
    rcases Nat.mod_two_eq_zero_or_one n with hn | hn
    · obtain ⟨c, rfl⟩ : ∃ c, n = 2 * c := ⟨n / 2, by omega⟩
      rw [hn]
      simp only [Nat.zero_ne_one, decide_false, Bool.false_eq_true, if_false]
      rw [Int.pow_mul, Int.pow_mul]
      congr 1
      exact sq_neg _
    · obtain ⟨c, rfl⟩ : ∃ c, n = 2 * c + 1 := ⟨n / 2, by omega⟩
      rw [hn]
      simp only [decide_true, if_true]
      rw [Int.pow_succ, Int.pow_succ, Int.pow_mul, Int.pow_mul, Int.mul_neg]
      congr 3
      exact sq_neg _

set_option maxHeartbeats 1000000 in
/-- limbs.Power: below zero. -/
theorem Power_neg (s : Bool) (p : Option Addr) (n nc : Nat) (xs : List Int) (w : World) (hA : AI w p n nc xs) (N : Int) (h : N < 0) (h' : -9223372036854775808 ≤ N) :
    Calls Tryd.prog 16 #[.agg #[.bool s, .slice p n nc], .int .i64 N] w fun e w' => e = .returned (.tuple #[.agg #[.bool false, .slice none 0 0], .int .i64 1]) ∧ Below w.heap.size w w' := by
  go_enter Tryd.func16, Tryd.ntmps16
  go_wp2
  refine bodyPost_ret (v := .tuple #[.agg #[.bool false, .slice none 0 0], .int .i64 1]) (by simp [results, Tryd.results16, go_sem]) rfl ⟨rfl, ?_⟩
  exact ((Below.refl _ _).alloc (Nat.le_refl _) _).alloc (by simp) _

/-- Two boxes: the number, what is answered. -/
structure PBx (w W : World) (a0 a1 : Value) : Prop where
  a : Bx W w.heap.size a0 a1
  r : Bx W (w.heap.size + 1) (.bool false) (.slice none 0 0)
  below : Below w.heap.size w W
  size : w.heap.size + 2 ≤ W.heap.size
theorem pboxes (w : World) (a0 a1 : Value) (t u : Nat) : PBx w ((w.alloc (.cells #[a0, a1] t)).alloc (.cells #[.bool false, .slice none 0 0] u)) a0 a1 :=
  ⟨(Bx.new a0 a1 t rfl).alloc _, Bx.new _ _ _ (by simp), ((Below.refl _ _).alloc (Nat.le_refl _) _).alloc (by simp) _, by simp⟩
theorem PBx.later {w W W' : World} {a0 a1 : Value} (h : PBx w W a0 a1) (hb : Below W.heap.size W W') : PBx w W' a0 a1 :=
  ⟨h.a.later hb, h.r.later hb, h.below.trans (hb.mono (by have := h.size; omega)), Nat.le_trans h.size hb.size⟩

set_option maxHeartbeats 1000000 in
/-- limbs.Power: zero times. -/
theorem Power_zero (s : Bool) (p : Option Addr) (n nc : Nat) (xs : List Int) (w : World) (hA : AI w p n nc xs) :
    Calls Tryd.prog 16 #[.agg #[.bool s, .slice p n nc], .int .i64 0] w (PPost 1 w) := by
  have hX := pboxes w (.bool s) (.slice p n nc) 24 24
  go_enter Tryd.func16, Tryd.ntmps16
  go_wp2_with fail
  generalize (w.alloc (.cells #[.bool s, .slice p n nc] 24)).alloc (.cells #[.bool false, .slice none 0 0] 24) = W at *
  refine (Of_any 1 _ (by decide) (by decide)).mono ?_
  rintro e w1 ⟨s', p', n', zs, rfl, hN, hn, hb⟩
  have hX1 := hX.later hb
  obtain ⟨c0, c1, f0, f1⟩ := hX1.r
  have hsz := hX.size
  have hsz1 := hX1.size
  go_wp2
  refine bodyPost_ret (v := .tuple #[.agg #[.bool s', .slice p' n' n'], .int .i64 0]) (by simp [results, Tryd.results16, go_sem, c0, c1]) rfl ⟨_, _, _, zs, rfl, ?_, by omega, ?_⟩
  · exact ((hN.set (by simp; omega) _).set (by simp; omega) _).mono (by omega)
  · exact (hX1.below.setCell (by simp) _).setCell (by simp) _

set_option maxRecDepth 100000 in
set_option maxHeartbeats 1000000 in
/-- limbs.Power: too great. -/
theorem Power_big (s : Bool) (p : Option Addr) (n nc k m : Nat) (xs : List Int) (w : World) (hA : AI w p n nc xs) (hk : nbits xs = k) (hm0 : 0 < m) (hk1 : 1 < k) (hm : 1048576 / k < m) (hm' : m ≤ 9223372036854775807) :
    Calls Tryd.prog 16 #[.agg #[.bool s, .slice p n nc], .int .i64 m] w fun e w' => e = .returned (.tuple #[.agg #[.bool false, .slice none 0 0], .int .i64 4]) ∧ Below w.heap.size w w' := by
  have e0 : ((m : Int) == 0) = false := beq_eq_false_iff_ne.2 (by omega)
  have HK : Hid (nbits xs = k) := hk
  clear hk
  have ek : ((k : Int) == 0) = false := beq_eq_false_iff_ne.2 (by omega)
  have ek1 : ¬ (k : Int) ≤ 1 := by omega
  have ed : (1048576 : Int).tdiv k = ((1048576 / k : Nat) : Int) := by rw [Int.tdiv_eq_ediv_of_nonneg (by decide)]; simp
  have ed2 : (1048576 : Int) / k = ((1048576 / k : Nat) : Int) := by simp
  generalize 1048576 / k = d at *
  have hd : (d : Int) < m := by omega
  cases s
  · have hX := pboxes w (.bool false) (.slice p n nc) 24 24
    go_enter Tryd.func16, Tryd.ntmps16
    go_wp2_with fail
    generalize (w.alloc (.cells #[.bool false, .slice p n nc] 24)).alloc (.cells #[.bool false, .slice none 0 0] 24) = W at *
    refine (trim_any p n nc xs _ hA.len hA.cap hA.bnd (hA.below hX.below).rd).mono ?_
    rintro e w1 ⟨rfl, rfl⟩
    obtain ⟨c0, c1, f0, f1⟩ := hX.a
    go_wp2_with fail
    clear c0 c1 f0 f1
    refine (Bits_any false p n nc xs _ (hA.below hX.below)).mono ?_
    rw [HK.out]
    rintro e w2 ⟨rfl, hb⟩
    have hX2 := hX.later hb
    have hA2 := hA.below (hX.below.trans (hb.mono (by have := hX.size; omega)))
    clear hb hX
    obtain ⟨d0, d1, g0, g1⟩ := hX2.r
    go_wp2
    refine bodyPost_ret (v := .tuple #[.agg #[.bool false, .slice none 0 0], .int .i64 4]) (by simp [results, Tryd.results16, go_sem, d0, d1]) rfl ⟨rfl, ?_⟩
    exact (hX2.below.setCell (by simp) _).setCell (by simp) _
  · have hX := pboxes w (.bool true) (.slice p n nc) 24 24
    go_enter Tryd.func16, Tryd.ntmps16
    go_wp2_with fail
    generalize (w.alloc (.cells #[.bool true, .slice p n nc] 24)).alloc (.cells #[.bool false, .slice none 0 0] 24) = W at *
    refine (trim_any p n nc xs _ hA.len hA.cap hA.bnd (hA.below hX.below).rd).mono ?_
    rintro e w1 ⟨rfl, rfl⟩
    obtain ⟨c0, c1, f0, f1⟩ := hX.a
    go_wp2_with fail
    clear c0 c1 f0 f1
    refine (Bits_any true p n nc xs _ (hA.below hX.below)).mono ?_
    rw [HK.out]
    rintro e w2 ⟨rfl, hb⟩
    have hX2 := hX.later hb
    have hA2 := hA.below (hX.below.trans (hb.mono (by have := hX.size; omega)))
    clear hb hX
    obtain ⟨d0, d1, g0, g1⟩ := hX2.r
    go_wp2
    refine bodyPost_ret (v := .tuple #[.agg #[.bool false, .slice none 0 0], .int .i64 4]) (by simp [results, Tryd.results16, go_sem, d0, d1]) rfl ⟨rfl, ?_⟩
    exact (hX2.below.setCell (by simp) _).setCell (by simp) _
set_option maxRecDepth 100000 in
set_option maxHeartbeats 1000000 in
/-- limbs.Power: of none or of a one. -/
theorem Power_one (s : Bool) (p : Option Addr) (n nc k m : Nat) (xs : List Int) (w : World) (hA : AI w p n nc xs) (hk : nbits xs = k) (hm0 : 0 < m) (hk1 : k ≤ 1) (hn : n < 80) (hm' : m ≤ 9223372036854775807) :
    Calls Tryd.prog 16 #[.agg #[.bool s, .slice p n nc], .int .i64 m] w (PPost (ival s xs ^ m) w) := by
  have e0 : ((m : Int) == 0) = false := beq_eq_false_iff_ne.2 (by omega)
  have HK : Hid (nbits xs = k) := hk
  clear hk
  have hv : val (tr xs) = val xs ^ m := by
    obtain ⟨c, h1, h2⟩ := nbits_ib hA.u
    have h3 := HK.out
    obtain rfl : c = k := by omega
    have h4 := h2.2.1
    have h5 := h2.1
    have h6 : (2 : Int) ^ c ≤ 2 ^ 1 := p2_mono hk1
    rw [val_tr]
    have h7 : val xs = 0 ∨ val xs = 1 := by rw [Int.pow_one] at h6; omega
    obtain ⟨j, rfl⟩ : ∃ j, m = j + 1 := ⟨m - 1, by omega⟩
    rcases h7 with h7 | h7 <;> rw [h7, Int.pow_succ]
    · rw [Int.mul_zero]
    · rw [Int.one_pow, Int.one_mul]
  have ho : ((m : Int) % 2 == 1) = decide (m % 2 = 1) := odd_of m
  have ek1 : (k : Int) ≤ 1 := by omega
  have tx := tlen_le xs
  have lx := hA.len
  have HV := fun s => ival_pow s xs (tr xs) m hv
  generalize decide (m % 2 = 1) = o at *
  clear hv
  cases s
  · have hX := pboxes w (.bool false) (.slice p n nc) 24 24
    go_enter Tryd.func16, Tryd.ntmps16
    go_wp2_with fail
    generalize (w.alloc (.cells #[.bool false, .slice p n nc] 24)).alloc (.cells #[.bool false, .slice none 0 0] 24) = W at *
    refine (trim_any p n nc xs _ hA.len hA.cap hA.bnd (hA.below hX.below).rd).mono ?_
    rintro e w1 ⟨rfl, rfl⟩
    obtain ⟨c0, c1, f0, f1⟩ := hX.a
    go_wp2_with fail
    clear c0 c1 f0 f1
    refine (Bits_any false p n nc xs _ (hA.below hX.below)).mono ?_
    rw [HK.out]
    rintro e w2 ⟨rfl, hb⟩
    have hX2 := hX.later hb
    have hA2 := hA.below (hX.below.trans (hb.mono (by have := hX.size; omega)))
    clear hb hX
    obtain ⟨d0, d1, g0, g1⟩ := hX2.r
    clear d0 d1 g0 g1
    go_wp2_with fail
    refine (clone_any p (tlen xs) nc (tr xs) _ hA2.tr.len (by omega) hA2.tr.rd).mono ?_
    rintro e w3 ⟨rfl, rfl⟩
    have z1 := (Row.new w2 56 .u32 (tr xs)).rd_all
    have z2 := hA2.tr.u
    have z8 : From w2.heap.size (some ⟨w2.heap.size, 0, none⟩) := from_new (Nat.le_refl _)
    have hX3 := hX2.later ((Below.refl _ _).alloc (Nat.le_refl _) (.cells (ca .u32 (tr xs)) 56))
    generalize w2.alloc (.cells (ca .u32 (tr xs)) 56) = w3 at *
    go_wp2_with fail
    refine (number_any false (some ⟨w2.heap.size, 0, none⟩) (tlen xs) (tlen xs) (tr xs) _ (length_tr xs) (Nat.le_refl _) (by unfold maxLen; omega) z1).mono ?_
    rintro e w4 ⟨rfl, hb4⟩
    have hX4 := hX3.later hb4
    obtain ⟨c0, c1, f0, f1⟩ := hX4.r
    have hN := (ni_number (B := w2.heap.size) (q := (some ⟨w2.heap.size, 0, none⟩)) false z1 z2 z8).below hb4
    rw [show ival false (tr xs) = ival false xs ^ m from HV false] at hN
    have hsz := hX2.size
    have htl := tlen_le (tr xs)
    rw [length_tr] at htl
    go_wp2
    refine bodyPost_ret (v := .tuple #[.agg #[.bool (nsg false (tr xs)), .slice (nad (some ⟨w2.heap.size, 0, none⟩) (tr xs)) (tlen (tr xs)) (tlen (tr xs))], .int .i64 0]) (by simp [results, Tryd.results16, go_sem, c0, c1]) rfl ⟨_, _, _, tr (tr xs), rfl, ?_, by omega, ?_⟩
    · exact ((hN.set (by simp; omega) _).set (by simp; omega) _).mono (by omega)
    · exact (hX4.below.setCell (by simp) _).setCell (by simp) _
  · have hX := pboxes w (.bool true) (.slice p n nc) 24 24
    go_enter Tryd.func16, Tryd.ntmps16
    go_wp2_with fail
    generalize (w.alloc (.cells #[.bool true, .slice p n nc] 24)).alloc (.cells #[.bool false, .slice none 0 0] 24) = W at *
    refine (trim_any p n nc xs _ hA.len hA.cap hA.bnd (hA.below hX.below).rd).mono ?_
    rintro e w1 ⟨rfl, rfl⟩
    obtain ⟨c0, c1, f0, f1⟩ := hX.a
    go_wp2_with fail
    clear c0 c1 f0 f1
    refine (Bits_any true p n nc xs _ (hA.below hX.below)).mono ?_
    rw [HK.out]
    rintro e w2 ⟨rfl, hb⟩
    have hX2 := hX.later hb
    have hA2 := hA.below (hX.below.trans (hb.mono (by have := hX.size; omega)))
    clear hb hX
    obtain ⟨d0, d1, g0, g1⟩ := hX2.r
    clear d0 d1 g0 g1
    go_wp2_with fail
    refine (clone_any p (tlen xs) nc (tr xs) _ hA2.tr.len (by omega) hA2.tr.rd).mono ?_
    rintro e w3 ⟨rfl, rfl⟩
    have z1 := (Row.new w2 56 .u32 (tr xs)).rd_all
    have z2 := hA2.tr.u
    have z8 : From w2.heap.size (some ⟨w2.heap.size, 0, none⟩) := from_new (Nat.le_refl _)
    have hX3 := hX2.later ((Below.refl _ _).alloc (Nat.le_refl _) (.cells (ca .u32 (tr xs)) 56))
    generalize w2.alloc (.cells (ca .u32 (tr xs)) 56) = w3 at *
    go_wp2_with fail
    refine (number_any o (some ⟨w2.heap.size, 0, none⟩) (tlen xs) (tlen xs) (tr xs) _ (length_tr xs) (Nat.le_refl _) (by unfold maxLen; omega) z1).mono ?_
    rintro e w4 ⟨rfl, hb4⟩
    have hX4 := hX3.later hb4
    obtain ⟨c0, c1, f0, f1⟩ := hX4.r
    have hN := (ni_number (B := w2.heap.size) (q := (some ⟨w2.heap.size, 0, none⟩)) o z1 z2 z8).below hb4
    rw [show ival o (tr xs) = ival true xs ^ m from HV true] at hN
    have hsz := hX2.size
    have htl := tlen_le (tr xs)
    rw [length_tr] at htl
    go_wp2
    refine bodyPost_ret (v := .tuple #[.agg #[.bool (nsg o (tr xs)), .slice (nad (some ⟨w2.heap.size, 0, none⟩) (tr xs)) (tlen (tr xs)) (tlen (tr xs))], .int .i64 0]) (by simp [results, Tryd.results16, go_sem, c0, c1]) rfl ⟨_, _, _, tr (tr xs), rfl, ?_, by omega, ?_⟩
    · exact ((hN.set (by simp; omega) _).set (by simp; omega) _).mono (by omega)
    · exact (hX4.below.setCell (by simp) _).setCell (by simp) _
set_option maxRecDepth 100000 in
set_option maxHeartbeats 1000000 in
/-- limbs.Power: what fits. -/
theorem Power_fit (s : Bool) (p : Option Addr) (n nc k m : Nat) (xs : List Int) (w : World) (hA : AI w p n nc xs) (hk : nbits xs = k) (hm0 : 0 < m) (hk1 : 1 < k) (hm : m ≤ 1048576 / k) (hn : n < 80) (hm' : m ≤ 9223372036854775807) :
    Calls Tryd.prog 16 #[.agg #[.bool s, .slice p n nc], .int .i64 m] w (PPost (ival s xs ^ m) w) := by
  have e0 : ((m : Int) == 0) = false := beq_eq_false_iff_ne.2 (by omega)
  have HK : Hid (nbits xs = k) := hk
  clear hk
  have hkm : k * m ≤ 1048576 := by
    have := Nat.mul_le_mul_left k hm
    have := Nat.mul_div_le 1048576 k
    omega
  have hm6 : m ≤ 1048576 := by
    have := Nat.div_le_self 1048576 k
    omega
  have hlt : val (tr xs) < 2 ^ k := by
    obtain ⟨c, h1, h2⟩ := nbits_ib hA.u
    have h3 := HK.out
    obtain rfl : c = k := by omega
    rw [val_tr]
    exact h2.2.1
  have ek : ((k : Int) == 0) = false := beq_eq_false_iff_ne.2 (by omega)
  have ek1 : ¬ (k : Int) ≤ 1 := by omega
  have ed : (1048576 : Int).tdiv k = ((1048576 / k : Nat) : Int) := by rw [Int.tdiv_eq_ediv_of_nonneg (by decide)]; simp
  have ed2 : (1048576 : Int) / k = ((1048576 / k : Nat) : Int) := by simp
  have ho : ((m : Int) % 2 == 1) = decide (m % 2 = 1) := odd_of m
  have hdb := Nat.div_le_self 1048576 k
  generalize 1048576 / k = d at *
  have hd : ¬ (d : Int) < m := by omega
  have tx := tlen_le xs
  have lx := hA.len
  have HV := fun s zs => ival_pow s xs zs m
  generalize decide (m % 2 = 1) = o at *
  cases s
  · have hX := pboxes w (.bool false) (.slice p n nc) 24 24
    go_enter Tryd.func16, Tryd.ntmps16
    go_wp2_with fail
    generalize (w.alloc (.cells #[.bool false, .slice p n nc] 24)).alloc (.cells #[.bool false, .slice none 0 0] 24) = W at *
    refine (trim_any p n nc xs _ hA.len hA.cap hA.bnd (hA.below hX.below).rd).mono ?_
    rintro e w1 ⟨rfl, rfl⟩
    obtain ⟨c0, c1, f0, f1⟩ := hX.a
    go_wp2_with fail
    clear c0 c1 f0 f1
    refine (Bits_any false p n nc xs _ (hA.below hX.below)).mono ?_
    rw [HK.out]
    rintro e w2 ⟨rfl, hb⟩
    have hX2 := hX.later hb
    have hA2 := hA.below (hX.below.trans (hb.mono (by have := hX.size; omega)))
    clear hb hX
    obtain ⟨d0, d1, g0, g1⟩ := hX2.r
    clear d0 d1 g0 g1
    have hpw := power_any p (tlen xs) nc k m (tr xs) w2 hA2.tr (by omega) hlt hm0 hm6 hkm
    go_wp2_with fail
    refine hpw.mono ?_
    clear hpw
    rintro e w3 ⟨qz, nz, ncz, zs, rfl, z1, z2, z3, z4, z5, z6, z7, z8, hb3⟩
    have hX3 := hX2.later hb3
    rw [val_tr] at z7
    have HZ : Hid (val zs = val xs ^ m) := z7
    clear z7
    go_wp2_with fail
    refine (number_any false qz nz ncz zs _ z3 z4 (by unfold maxLen; omega) z1).mono ?_
    rintro e w4 ⟨rfl, hb4⟩
    have hX4 := hX3.later hb4
    obtain ⟨c0, c1, f0, f1⟩ := hX4.r
    have hN := (ni_number (B := w2.heap.size) (q := qz) false z1 z2 z8).below hb4
    rw [show ival false zs = ival false xs ^ m from HV false zs HZ.out] at hN
    have hsz := hX2.size
    have htl := tlen_le zs
    go_wp2
    refine bodyPost_ret (v := .tuple #[.agg #[.bool (nsg false zs), .slice (nad qz zs) (tlen zs) (tlen zs)], .int .i64 0]) (by simp [results, Tryd.results16, go_sem, c0, c1]) rfl ⟨_, _, _, tr zs, rfl, ?_, by omega, ?_⟩
    · exact ((hN.set (by simp; omega) _).set (by simp; omega) _).mono (by omega)
    · exact (hX4.below.setCell (by simp) _).setCell (by simp) _
  · have hX := pboxes w (.bool true) (.slice p n nc) 24 24
    go_enter Tryd.func16, Tryd.ntmps16
    go_wp2_with fail
    generalize (w.alloc (.cells #[.bool true, .slice p n nc] 24)).alloc (.cells #[.bool false, .slice none 0 0] 24) = W at *
    refine (trim_any p n nc xs _ hA.len hA.cap hA.bnd (hA.below hX.below).rd).mono ?_
    rintro e w1 ⟨rfl, rfl⟩
    obtain ⟨c0, c1, f0, f1⟩ := hX.a
    go_wp2_with fail
    clear c0 c1 f0 f1
    refine (Bits_any true p n nc xs _ (hA.below hX.below)).mono ?_
    rw [HK.out]
    rintro e w2 ⟨rfl, hb⟩
    have hX2 := hX.later hb
    have hA2 := hA.below (hX.below.trans (hb.mono (by have := hX.size; omega)))
    clear hb hX
    obtain ⟨d0, d1, g0, g1⟩ := hX2.r
    clear d0 d1 g0 g1
    have hpw := power_any p (tlen xs) nc k m (tr xs) w2 hA2.tr (by omega) hlt hm0 hm6 hkm
    go_wp2_with fail
    refine hpw.mono ?_
    clear hpw
    rintro e w3 ⟨qz, nz, ncz, zs, rfl, z1, z2, z3, z4, z5, z6, z7, z8, hb3⟩
    have hX3 := hX2.later hb3
    rw [val_tr] at z7
    have HZ : Hid (val zs = val xs ^ m) := z7
    clear z7
    go_wp2_with fail
    refine (number_any o qz nz ncz zs _ z3 z4 (by unfold maxLen; omega) z1).mono ?_
    rintro e w4 ⟨rfl, hb4⟩
    have hX4 := hX3.later hb4
    obtain ⟨c0, c1, f0, f1⟩ := hX4.r
    have hN := (ni_number (B := w2.heap.size) (q := qz) o z1 z2 z8).below hb4
    rw [show ival o zs = ival true xs ^ m from HV true zs HZ.out] at hN
    have hsz := hX2.size
    have htl := tlen_le zs
    go_wp2
    refine bodyPost_ret (v := .tuple #[.agg #[.bool (nsg o zs), .slice (nad qz zs) (tlen zs) (tlen zs)], .int .i64 0]) (by simp [results, Tryd.results16, go_sem, c0, c1]) rfl ⟨_, _, _, tr zs, rfl, ?_, by omega, ?_⟩
    · exact ((hN.set (by simp; omega) _).set (by simp; omega) _).mono (by omega)
    · exact (hX4.below.setCell (by simp) _).setCell (by simp) _
end Go.Proofs.YtgdbhgpabehcfaaDoor
