/-
  ashlarlaw1.IntPower: for every number and every n the law's answer is true.
-/
import Derived.Test.YtgdbhgpabehcfaaDoorBh
import Derived.Test.YtgdbhgpabehcfaaDoorCy
import Derived.Test.YtgdbhgpabehcfaaDoorRt
import Derived.Test.YtgdbhgpabehcfaaDoorPb
import Derived.Test.YtgdbhgpabehcfaaDoorPc
namespace Go.Proofs.YtgdbhgpabehcfaaDoor
open Go.RowKit
set_option linter.unusedVariables false
set_option linter.unusedSimpArgs false

/-- A power of few bits has few limbs. -/
theorem fewer {zs : List Int} {X : Int} {k m K : Nat} (hU : U32 zs) (hv : val zs = X ^ m) (hX0 : 0 ≤ X) (hX : X < 2 ^ k) (hk : k * m ≤ 32 * K) : tlen zs ≤ K + 1 := by
  rcases Nat.lt_or_ge (tlen zs) (K + 2) with h | h
  · omega
  · exfalso
    have h1 := val_pos_of_top hU (show 0 < tlen zs by omega)
    have h2 : pw (K + 1) ≤ pw (tlen zs - 1) := pw_mono (by omega)
    have h3 : X ^ m ≤ (2 ^ k) ^ m := by
      clear hv h1 hk
      induction m with
      | zero => simp
      | succ m ih =>
        rw [Int.pow_succ, Int.pow_succ]
        have a1 : (0 : Int) ≤ X ^ m := Int.pow_nonneg hX0
        exact Int.mul_le_mul ih (by omega) hX0 (Int.pow_nonneg (Int.pow_nonneg (by decide)))
    rw [← Int.pow_mul] at h3
    have h5 := p2_mono hk
    rw [← pw_p2] at h5
    have h6 := pw_succ K
    have h7 := pw_pos K
    rw [hv] at h1
    omega
/-- The size of a power. -/
theorem val_pow {s t : Bool} {xs zs : List Int} {m : Nat} (hx : U32 xs) (hz : U32 zs) (h : ival t zs = ival s xs ^ m) : val zs = val xs ^ m := by
  have h1 := val_nonneg hx
  have h2 := val_nonneg hz
  have e1 : ∀ (s : Bool) (xs : List Int), 0 ≤ val xs → ((ival s xs).natAbs : Int) = val xs := fun s xs h => by
    cases s <;> simp [ival] <;> omega
  have e2 := congrArg Int.natAbs h
  rw [Int.natAbs_pow] at e2
  have e3 : (((ival t zs).natAbs : Nat) : Int) = (((ival s xs).natAbs ^ m : Nat) : Int) := by rw [e2]
  rw [e1 _ _ h2] at e3
  rw [e3]
  simp only [Int.natCast_pow]
  rw [e1 _ _ h1]
theorem pow_even {X : Int} (h : X = 1 ∨ X = -1) {m : Nat} (hm : m % 2 = 0) : X ^ m = 1 := by
  obtain ⟨c, rfl⟩ : ∃ c, m = 2 * c := ⟨m / 2, by omega⟩
  have e : X ^ 2 = 1 := by rcases h with rfl | rfl <;> rfl
  rw [Int.pow_mul, e, Int.one_pow]
theorem pow_odd {X : Int} (h : X = 1 ∨ X = -1) {m : Nat} (hm : m % 2 = 1) : X ^ m = X := by
  obtain ⟨c, rfl⟩ : ∃ c, m = 2 * c + 1 := ⟨m / 2, by omega⟩
  rw [Int.pow_succ, pow_even h (by omega), Int.one_mul]
theorem zero_pow' {m : Nat} (h : 0 < m) : (0 : Int) ^ m = 0 := by
  obtain ⟨c, rfl⟩ : ∃ c, m = c + 1 := ⟨m - 1, by omega⟩
  rw [Int.pow_succ, Int.mul_zero]

/-- One of 0, 1, -1 has one limb at most. -/
theorem NI.tiny {B : Nat} {w : World} {s : Bool} {p : Option Addr} {n : Nat} {zs : List Int} {V : Int} (h : NI B w s p n zs V) (h0 : -1 ≤ V) (h1 : V ≤ 1) : n ≤ 1 := by
  rcases Nat.lt_or_ge n 2 with k | k
  · omega
  · exfalso
    have hn := h.nrm
    have a1 := val_pos_of_top h.u (show 0 < tlen zs by omega)
    have a2 : pw 1 ≤ pw (tlen zs - 1) := pw_mono (by omega)
    have a3 : pw 1 = 4294967296 := rfl
    have a4 := h.v
    have a5 : ival s zs = val zs ∨ ival s zs = - val zs := by cases s <;> simp [ival]
    omega
/-- What stands ahead of Power: the number, the reference's number, its bits. -/
structure Pw (w W : World) (g : Nat) (s : Bool) (p : Option Addr) (n nc : Nat) (xs : List Int) (sx : Bool) (px : Option Addr) (nx : Nat) (dx : List Int) (b : Nat) : Prop where
  ba : Bx W w.heap.size (.bool s) (.slice p n nc)
  bx : Bx W g (.bool sx) (.slice px nx nx)
  a : AI W p n nc xs
  x : RN W sx px nx dx
  v : rval sx dx = ival s xs
  n24 : n ≤ 24
  nx : nx ≤ 48
  bits : nbits xs = b
  ib : IB b (val xs)
  hg : w.heap.size < g
  bel : Below w.heap.size w W
theorem Pw.later {w W W' : World} {g : Nat} {s : Bool} {p : Option Addr} {n nc : Nat} {xs : List Int} {sx : Bool} {px : Option Addr} {nx : Nat} {dx : List Int} {b : Nat} (h : Pw w W g s p n nc xs sx px nx dx b) (hb : Below W.heap.size W W') : Pw w W' g s p n nc xs sx px nx dx b :=
  ⟨h.ba.later hb, h.bx.later hb, h.a.below hb, h.x.below hb, h.v, h.n24, h.nx, h.bits, h.ib, h.hg, h.bel.trans (hb.mono h.bel.size)⟩

set_option maxRecDepth 100000 in
set_option maxHeartbeats 4000000 in
theorem IntPower_walk (s : Bool) (p : Option Addr) (n nc : Nat) (xs : List Int) (N : Int) (w : World) (hz0 : -9223372036854775808 ≤ N) (hz1 : N ≤ 9223372036854775807) (hl : xs.length = n) (hnc : n ≤ nc) (hb : nc ≤ maxLen) (hX : Rd w p .u32 xs) (hU : U32 xs) (hp : p = none → nc = 0) :
    Calls Tryd.prog 4 #[.agg #[.bool s, .slice p n nc], .int .i64 N] w fun e w' => e = .returned (.bool true) ∧ Below w.heap.size w w' := by
  go_enter Tryd.func4, Tryd.ntmps4
  go_wp2_with fail
  have hB0 : Bx (w.alloc (.cells #[.bool s, .slice p n nc] 24)) w.heap.size (.bool s) (.slice p n nc) := Bx.new _ _ _ rfl
  have hbw : Below w.heap.size w (w.alloc (.cells #[.bool s, .slice p n nc] 24)) := (Below.refl _ _).alloc (Nat.le_refl _) _
  have hz0' : w.heap.size < (w.alloc (.cells #[.bool s, .slice p n nc] 24)).heap.size := by simp
  generalize w.alloc (.cells #[.bool s, .slice p n nc] 24) = W0 at *
  refine (begun_any _).mono ?_
  rintro e w5 ⟨rfl, hb1⟩
  have hBa5 := hB0.later hb1
  have hbw5 := bnext hbw (Nat.le_refl _) hb1
  have hs5 : w.heap.size < w5.heap.size := Nat.lt_of_lt_of_le hz0' hb1.size
  clear hB0 hbw hz0' hb1
  have k0 := hBa5.c0
  have k1 := hBa5.c1
  go_wp2_with fail
  refine (Cut_any s p n nc xs _ hl hnc hb (hX.below hbw5) hU hp).mono ?_
  rintro e w6 ⟨p', n', nc', rfl, hA, hn24, hF, hb6⟩
  have hBa6 := hBa5.later hb6
  have hbw6 := bnext hbw5 (Nat.le_refl _) hb6
  have c0 := hBa6.c0
  have c1 := hBa6.c1
  have f0 := hBa6.f0
  have f1 := hBa6.f1
  clear k0 k1 hBa5 hbw5
  have hA7 := hA.set2 hF (g := w.heap.size) (by omega) (.bool s) (.slice p' n' nc')
  have hB7 : Bx ((w6.setCell ⟨w.heap.size, 0, none⟩ (.bool s)).setCell ⟨w.heap.size, 1, none⟩ (.slice p' n' nc')) w.heap.size (.bool s) (.slice p' n' nc') := Bx_set hBa6
  have hbw7 : Below w.heap.size w ((w6.setCell ⟨w.heap.size, 0, none⟩ (.bool s)).setCell ⟨w.heap.size, 1, none⟩ (.slice p' n' nc')) := bset2 hbw6 (Nat.le_refl _) _ _
  have j0 := hB7.c0
  have j1 := hB7.c1
  clear hA hF hb6 hBa6 hbw6 hs5
  go_wp2_with fail
  clear c0 c1 f0 f1
  generalize ((w6.setCell ⟨w.heap.size, 0, none⟩ (.bool s)).setCell ⟨w.heap.size, 1, none⟩ (.slice p' n' nc')) = W7 at *
  refine (From_ans s p' n' nc' (xs.take 24) _ hA7).mono ?_
  rintro e w8 ⟨s8, p8, n8, d8, rfl, hR8, hv8, hn8, hb8⟩
  have hB8 := hB7.later hb8
  have hA8 := hA7.below hb8
  have hbw8 := bnext hbw7 (Nat.le_refl _) hb8
  have HV8 : Hid (rval s8 d8 = ival s (xs.take 24)) := hv8
  clear hv8
  have hs8 : w.heap.size < w8.heap.size := Nat.lt_of_lt_of_le (block_lt_of_cell hB7.c0) hb8.size
  clear j0 j1 hB7 hA7 hbw7 hb8 hl hX hp hnc hb
  go_wp2_with fail
  have hR9 := hR8.alloc (.cells #[.bool s8, .slice p8 n8 n8] 29)
  have hBx9 : Bx (w8.alloc (.cells #[.bool s8, .slice p8 n8 n8] 29)) w8.heap.size (.bool s8) (.slice p8 n8 n8) := Bx.new _ _ _ rfl
  have hB9 := hB8.alloc (.cells #[.bool s8, .slice p8 n8 n8] 29)
  have hA9 := hA8.alloc (.cells #[.bool s8, .slice p8 n8 n8] 29)
  have hbw9 : Below w.heap.size w (w8.alloc (.cells #[.bool s8, .slice p8 n8 n8] 29)) := hbw8.alloc hbw8.size _
  generalize w8.alloc (.cells #[.bool s8, .slice p8 n8 n8] 29) = W9 at *
  refine (rBits_any s8 p8 n8 n8 d8 _ hR9.len (by omega) hR9.nrm hR9.rd hR9.u).mono ?_
  rintro e w10 ⟨b, rfl, hib, hb10⟩
  have HP : Hid (Pw w w10 w8.heap.size s p' n' nc' (xs.take 24) s8 p8 n8 d8 b) := by
    have hv := vd_val HV8.out hR9.u hA9.u
    exact ⟨hB9.later hb10, hBx9.later hb10, hA9.below hb10, hR9.below hb10, HV8.out, hn24, by omega, bits_same hA9.u hv hib.out, hv ▸ hib.out, hs8, bnext hbw9 (Nat.le_refl _) hb10⟩
  generalize w8.heap.size = g at *
  clear hR8 hn8 hB8 hA8 hbw8 HV8 hs8 hR9 hBx9 hB9 hA9 hbw9 hib hb10
  generalize xs.take 24 = ys at *
  clear hU hn24
  have hb1k : b ≤ 1000 := by
    have h1 := HP.out.ib.2.2
    rcases Nat.lt_or_ge b 1001 with h | h
    · omega
    · exfalso
      have h2 := val_lt HP.out.a.u
      rw [HP.out.a.len] at h2
      have h3 : pw n' ≤ pw 24 := pw_mono HP.out.n24
      rw [pw_p2 24] at h3
      have h4 : (2 : Int) ^ (32 * 24) ≤ 2 ^ (b - 1) := p2_mono (by omega)
      have h5 : (2 : Int) ^ (b - 1) ≤ val ys := by rcases h1 with h1 | h1 <;> omega
      generalize (2 : Int) ^ (b - 1) = Q1 at *
      generalize (2 : Int) ^ (32 * 24) = Q2 at *
      omega
  have a0 := HP.out.ba.c0
  have a1 := HP.out.ba.c1
  rcases Int.lt_or_le N 0 with hN | hN
  · have hpo := Power_neg s p' n' nc' ys w10 HP.out.a N hN hz0
    go_wp2_with fail
    refine hpo.mono ?_
    rintro e w11 ⟨rfl, hb11⟩
    have HP1 := HP.out.later hb11
    have bel := HP1.bel
    clear HP1 hpo a0 a1
    go_wp2
    go_ret
    exact ⟨rfl, bel.alloc bel.size _⟩
  · obtain ⟨m, rfl⟩ : ∃ m : Nat, N = m := ⟨N.toNat, by omega⟩
    have hm9 : m ≤ 9223372036854775807 := by omega
    clear hz0
    rcases Nat.lt_or_ge 1 b with hb1 | hb1
    · have ek : ((b : Int) == 0) = false := beq_eq_false_iff_ne.2 (by omega)
      have ek1 : (1 : Int) < b := by omega
      have ed : (1048576 : Int).tdiv b = ((1048576 / b : Nat) : Int) := by rw [Int.tdiv_eq_ediv_of_nonneg (by decide)]; simp
      have ed2 : (1048576 : Int) / b = ((1048576 / b : Nat) : Int) := by simp
      have hdb := Nat.div_le_self 1048576 b
      rcases Nat.lt_or_ge (1048576 / b) m with hm | hm
      · have hpo := Power_big s p' n' nc' b m ys w10 HP.out.a HP.out.bits (Nat.lt_of_le_of_lt (Nat.zero_le _) hm) hb1 hm hm9
        generalize 1048576 / b = d at *
        have hd : (d : Int) < m := by omega
        go_wp2_with fail
        refine hpo.mono ?_
        rintro e w11 ⟨rfl, hb11⟩
        have HP1 := HP.out.later hb11
        have bel := HP1.bel
        clear HP1 hpo a0 a1
        go_wp2
        go_ret
        exact ⟨rfl, bel.alloc bel.size _⟩
      · have hpo : Calls Tryd.prog 16 #[.agg #[.bool s, .slice p' n' nc'], .int .i64 m] w10 (PPost (ival s ys ^ m) w10) := by
          rcases Nat.eq_zero_or_pos m with h0 | h0
          · subst h0
            rw [Int.pow_zero]
            exact Power_zero s p' n' nc' ys w10 HP.out.a
          · exact Power_fit s p' n' nc' b m ys w10 HP.out.a HP.out.bits h0 hb1 hm (by have := HP.out.n24; omega) hm9
        generalize 1048576 / b = d at *
        have hd : ¬ (d : Int) < m := by omega
        have eb1 : ¬ (b : Int) ≤ 1 := by omega
        go_wp2_with fail
        refine hpo.mono ?_
        rintro e w11 ⟨sz, pz, nz, zs, rfl, hNz, hnz, hb11⟩
        have HP1 := HP.out.later hb11
        clear hpo a0 a1
        rcases Nat.lt_or_ge 20 m with hm20 | hm20
        · have hmI : (20 : Int) < m := by omega
          have bel := HP1.bel
          clear HP1
          go_wp2
          go_ret
          exact ⟨rfl, bel.alloc bel.size _⟩
        · have hmI : ¬ (20 : Int) < m := by omega
          have HP2 := HP1.later ((Below.refl _ _).alloc (Nat.le_refl _) (.cells #[.bool sz, .slice pz nz nz] 24))
          have hN2 := NI_al (o := .cells #[.bool sz, .slice pz nz nz] 24) hNz
          have hBz : Bx (w11.alloc (.cells #[.bool sz, .slice pz nz nz] 24)) w11.heap.size (.bool sz) (.slice pz nz nz) := Bx.new _ _ _ rfl
          have hnz9 : nz ≤ 1000 := by
            have h1 := val_pow HP1.a.u hNz.u hNz.v
            have h2 := val_lt HP1.a.u
            rw [HP1.a.len, pw_p2] at h2
            have h3 := fewer (K := 480) hNz.u h1 (val_nonneg HP1.a.u) h2 (by
              have h4 := HP1.n24
              have := Nat.mul_le_mul (show 32 * n' ≤ 768 by omega) hm20
              omega)
            rw [hNz.nrm] at h3
            omega
          clear HP1 hNz
          obtain ⟨k0, k1, -, -⟩ := HP2.bx
          obtain ⟨k4, k5, -, -⟩ := hBz
          go_wp2_with fail
          generalize w11.alloc (.cells #[.bool sz, .slice pz nz nz] 24) = W11 at *
          generalize w11.heap.size = gz at *
          have hx := HP2.x
          have hnx := HP2.nx
          have bel := HP2.bel
          have HV : Hid (rval s8 d8 = ival s ys) := HP2.v
          clear HP2
          go_region_held3 (fun w' => w'.cell? ⟨g, 0, none⟩ = some (.bool s8) ∧ w'.cell? ⟨g, 1, none⟩ = some (.slice p8 n8 n8) ∧ w'.cell? ⟨gz, 0, none⟩ = some (.bool sz) ∧ w'.cell? ⟨gz, 1, none⟩ = some (.slice pz nz nz)) (first | with_reducible exact ⟨k0, k1, k4, k5⟩ | with_reducible exact keepc4 ⟨k0, k1, k4, k5⟩ (undrew hb4) | with_reducible exact keepc4 (keepc4 ⟨k0, k1, k4, k5⟩ (undrew hb4)) hb5 | (simp [go_sem, *]; done))
            (first
              | (go_at_call 18; refine (rPower_any s8 p8 n8 m d8 _ hx.drew hnx hm20).mono ?_; rintro e w12 ⟨s4, p4, n4, d4, rfl, hR4, hv4, hn4, hF4, hb4⟩; have HV4 : Hid (rval s4 d4 = rval s8 d8 ^ m) := hv4; clear hv4)
              | (go_at_call 10; have h1 := hN2.below (undrew hb4); refine (rIs_rn h1 hnz9 hR4 hn4 (HV4.out.trans (congrArg (fun x : Int => x ^ m) HV.out))).mono ?_; rintro e w13 ⟨rfl, hb5⟩))
          go_wp2
          go_ret
          exact ⟨rfl, bnext (bnext bel (Nat.le_refl _) (undrew hb4)) (Nat.le_refl _) hb5⟩
    · have ek1 : ¬ (1 : Int) < b := by omega
      have eb1 : (b : Int) ≤ 1 := by omega
      have hn80 : n' < 80 := by have := HP.out.n24; omega
      rcases Nat.eq_zero_or_pos m with h0 | h0
      · subst h0
        have hpo := Power_zero s p' n' nc' ys w10 HP.out.a
        go_wp2_with fail
        refine hpo.mono ?_
        rintro e w11 ⟨sz, pz, nz, zs, rfl, hNz, hnz, hb11⟩
        have HP1 := HP.out.later hb11
        clear hpo a0 a1
        have HP2 := HP1.later (bel_al (o := .cells #[.bool sz, .slice pz nz nz] 24) (Below.refl _ _))
        obtain ⟨k0, k1, -, -⟩ := HP2.bx
        have HP3 := HP2.later (bel_al (o := .cells #[.bool s8, .slice p8 n8 n8] 29) (Below.refl _ _))
        have hN3 := NI_al (o := .cells #[.bool s8, .slice p8 n8 n8] 29) (NI_al (o := .cells #[.bool sz, .slice pz nz nz] 24) hNz)
        have hBz : Bx ((w11.alloc (.cells #[.bool sz, .slice pz nz nz] 24)).alloc (.cells #[.bool s8, .slice p8 n8 n8] 29)) w11.heap.size (.bool sz) (.slice pz nz nz) := (Bx.new _ _ _ rfl).alloc _
        have hBw : Bx ((w11.alloc (.cells #[.bool sz, .slice pz nz nz] 24)).alloc (.cells #[.bool s8, .slice p8 n8 n8] 29)) (w11.heap.size + 1) (.bool s8) (.slice p8 n8 n8) := Bx.new _ _ _ (World.size_alloc ..).symm
        have hgz : w.heap.size ≤ w11.heap.size := HP1.bel.size
        have hgn : w10.heap.size ≤ w11.heap.size := hb11.size
        have hltz := hNz.lt
        have hnz1 : nz ≤ 1 := hNz.tiny (by decide) (by decide)
        clear HP1 HP2 hNz hb11
        go_wp2_with fail
        clear k0 k1
        generalize (w11.alloc (.cells #[.bool sz, .slice pz nz nz] 24)).alloc (.cells #[.bool s8, .slice p8 n8 n8] 29) = W11 at *
        refine (rOf_any 1 _ (by decide) (by decide)).mono ?_
        rintro e w12 ⟨s4, p4, n4, d4, rfl, hR4, hv4, hn4, hF4, hb4⟩
        have hz4 := hBz.later hb4
        have hw4 := hBw.later hb4
        have hN4 := hN3.below hb4
        have hsz4 : w11.heap.size + 1 < W11.heap.size := block_lt_of_cell hBw.c0
        have bel4 := (HP3.later hb4).bel
        clear HP3
        have hz5 : Bx ((w12.setCell ⟨w11.heap.size + 1, 0, none⟩ (.bool s4)).setCell ⟨w11.heap.size + 1, 1, none⟩ (.slice p4 n4 n4)) w11.heap.size (.bool sz) (.slice pz nz nz) := Bx_oth hz4 (by omega)
        have hw5 : Bx ((w12.setCell ⟨w11.heap.size + 1, 0, none⟩ (.bool s4)).setCell ⟨w11.heap.size + 1, 1, none⟩ (.slice p4 n4 n4)) (w11.heap.size + 1) (.bool s4) (.slice p4 n4 n4) := Bx_set hw4
        have hR5 : RN ((w12.setCell ⟨w11.heap.size + 1, 0, none⟩ (.bool s4)).setCell ⟨w11.heap.size + 1, 1, none⟩ (.slice p4 n4 n4)) s4 p4 n4 d4 := RN_st3 hF4 hsz4 (RN_st3 hF4 hsz4 hR4)
        have hN5 : NI w10.heap.size ((w12.setCell ⟨w11.heap.size + 1, 0, none⟩ (.bool s4)).setCell ⟨w11.heap.size + 1, 1, none⟩ (.slice p4 n4 n4)) sz pz nz zs 1 := NI_st2 hltz (by show _ ≤ w11.heap.size + 1; omega) (NI_st2 hltz (by show _ ≤ w11.heap.size + 1; omega) hN4)
        have bel5 : Below w.heap.size w ((w12.setCell ⟨w11.heap.size + 1, 0, none⟩ (.bool s4)).setCell ⟨w11.heap.size + 1, 1, none⟩ (.slice p4 n4 n4)) := bset2 bel4 (by omega) _ _
        obtain ⟨c0, c1, f0, f1⟩ := hw4
        clear hz4 hBz hBw hN3 hN4 hR4 bel4 hF4 hb4
        have HV4 : Hid (rval s4 d4 = 1) := hv4
        have hn4' : n4 ≤ 1000 := by omega
        clear hv4 hn4
        have z0 := hz5.c0
        have z1 := hz5.c1
        have v0 := hw5.c0
        have v1 := hw5.c1
        clear hz5 hw5
        have his := rIs_rn hN5 (by omega) hR5 hn4' HV4.out
        clear hN5 hR5
        go_wp2_with fail
        refine his.mono ?_
        rintro e w13 ⟨rfl, hb13⟩
        have bel := bnext bel5 (Nat.le_refl _) hb13
        clear his c0 c1 f0 f1 z0 z1 v0 v1 bel5 hb13
        go_wp2
        go_ret
        exact ⟨rfl, bel⟩
      · have em : ((m : Int) == 0) = false := beq_eq_false_iff_ne.2 (by omega)
        have hpo := Power_one s p' n' nc' b m ys w10 HP.out.a HP.out.bits h0 hb1 hn80 hm9
        have hvy : (b = 0 ∧ ival s ys = 0) ∨ (b = 1 ∧ (ival s ys = 1 ∨ ival s ys = -1)) := by
          have h1 := HP.out.ib
          have a5 : ival s ys = val ys ∨ ival s ys = - val ys := by cases s <;> simp [ival]
          obtain ⟨h2, h3, h4⟩ := h1
          rcases (show b = 0 ∨ b = 1 by omega) with h | h
          · subst h
            rw [Int.pow_zero] at h3
            exact .inl ⟨rfl, by omega⟩
          · subst h
            rw [Int.pow_one] at h3
            rw [show (2 : Int) ^ (1 - 1) = 1 from rfl] at h4
            exact .inr ⟨rfl, by omega⟩
        have hi0 : -1 ≤ ival s ys := by rcases hvy with ⟨_, h⟩ | ⟨_, h⟩ <;> omega
        have hi1 : ival s ys ≤ 1 := by rcases hvy with ⟨_, h⟩ | ⟨_, h⟩ <;> omega
        rcases Nat.mod_two_eq_zero_or_one m with hmo | hmo
        · have eo : ((m : Int) % 2 == 0) = true := beq_iff_eq.2 (by omega)
          rcases hvy with ⟨hb0, hvz⟩ | ⟨hb0, hvz⟩
          · have ebb : ((b : Int) == 1) = false := beq_eq_false_iff_ne.2 (by omega)
            rw [show ival s ys ^ m = ival s ys by rw [hvz]; exact zero_pow' h0] at hpo
            clear hvz hmo hb0
            go_wp2_with fail
            refine hpo.mono ?_
            rintro e w11 ⟨sz, pz, nz, zs, rfl, hNz, hnz, hb11⟩
            have HP1 := HP.out.later hb11
            clear hpo a0 a1
            have HP2 := HP1.later (bel_al (o := .cells #[.bool sz, .slice pz nz nz] 24) (Below.refl _ _))
            obtain ⟨k0, k1, -, -⟩ := HP2.bx
            have HP3 := HP2.later (bel_al (o := .cells #[.bool s8, .slice p8 n8 n8] 29) (Below.refl _ _))
            have hN3 := NI_al (o := .cells #[.bool s8, .slice p8 n8 n8] 29) (NI_al (o := .cells #[.bool sz, .slice pz nz nz] 24) hNz)
            have hBz : Bx ((w11.alloc (.cells #[.bool sz, .slice pz nz nz] 24)).alloc (.cells #[.bool s8, .slice p8 n8 n8] 29)) w11.heap.size (.bool sz) (.slice pz nz nz) := (Bx.new _ _ _ rfl).alloc _
            have hBw : Bx ((w11.alloc (.cells #[.bool sz, .slice pz nz nz] 24)).alloc (.cells #[.bool s8, .slice p8 n8 n8] 29)) (w11.heap.size + 1) (.bool s8) (.slice p8 n8 n8) := Bx.new _ _ _ (World.size_alloc ..).symm
            have hgz : w.heap.size ≤ w11.heap.size := HP1.bel.size
            have hgn : w10.heap.size ≤ w11.heap.size := hb11.size
            have hltz := hNz.lt
            have hnz1 : nz ≤ 1 := hNz.tiny hi0 hi1
            clear HP1 HP2 hNz hb11
            have z0 := hBz.c0
            have z1 := hBz.c1
            have v0 := hBw.c0
            have v1 := hBw.c1
            have bel5 := HP3.bel
            have his := rIs_rn hN3 (by omega) HP3.x (Nat.le_trans HP3.nx (by decide)) HP3.v
            clear HP3 hN3 hBz hBw hltz
            go_wp2_with fail
            refine his.mono ?_
            rintro e w13 ⟨rfl, hb13⟩
            have bel := bnext bel5 (Nat.le_refl _) hb13
            clear his k0 k1 z0 z1 v0 v1 bel5 hb13
            go_wp2
            go_ret
            exact ⟨rfl, bel⟩
          · have ebb : ((b : Int) == 1) = true := beq_iff_eq.2 (by omega)
            rw [pow_even hvz hmo] at hpo
            clear hvz hmo hb0 hi0 hi1
            go_wp2_with fail
            refine hpo.mono ?_
            rintro e w11 ⟨sz, pz, nz, zs, rfl, hNz, hnz, hb11⟩
            have HP1 := HP.out.later hb11
            clear hpo a0 a1
            have HP2 := HP1.later (bel_al (o := .cells #[.bool sz, .slice pz nz nz] 24) (Below.refl _ _))
            obtain ⟨k0, k1, -, -⟩ := HP2.bx
            have HP3 := HP2.later (bel_al (o := .cells #[.bool s8, .slice p8 n8 n8] 29) (Below.refl _ _))
            have hN3 := NI_al (o := .cells #[.bool s8, .slice p8 n8 n8] 29) (NI_al (o := .cells #[.bool sz, .slice pz nz nz] 24) hNz)
            have hBz : Bx ((w11.alloc (.cells #[.bool sz, .slice pz nz nz] 24)).alloc (.cells #[.bool s8, .slice p8 n8 n8] 29)) w11.heap.size (.bool sz) (.slice pz nz nz) := (Bx.new _ _ _ rfl).alloc _
            have hBw : Bx ((w11.alloc (.cells #[.bool sz, .slice pz nz nz] 24)).alloc (.cells #[.bool s8, .slice p8 n8 n8] 29)) (w11.heap.size + 1) (.bool s8) (.slice p8 n8 n8) := Bx.new _ _ _ (World.size_alloc ..).symm
            have hgz : w.heap.size ≤ w11.heap.size := HP1.bel.size
            have hgn : w10.heap.size ≤ w11.heap.size := hb11.size
            have hltz := hNz.lt
            have hnz1 : nz ≤ 1 := hNz.tiny (by decide) (by decide)
            clear HP1 HP2 hNz hb11
            go_wp2_with fail
            clear k0 k1
            generalize (w11.alloc (.cells #[.bool sz, .slice pz nz nz] 24)).alloc (.cells #[.bool s8, .slice p8 n8 n8] 29) = W11 at *
            refine (rOf_any 1 _ (by decide) (by decide)).mono ?_
            rintro e w12 ⟨s4, p4, n4, d4, rfl, hR4, hv4, hn4, hF4, hb4⟩
            have hz4 := hBz.later hb4
            have hw4 := hBw.later hb4
            have hN4 := hN3.below hb4
            have hsz4 : w11.heap.size + 1 < W11.heap.size := block_lt_of_cell hBw.c0
            have bel4 := (HP3.later hb4).bel
            clear HP3
            have hz5 : Bx ((w12.setCell ⟨w11.heap.size + 1, 0, none⟩ (.bool s4)).setCell ⟨w11.heap.size + 1, 1, none⟩ (.slice p4 n4 n4)) w11.heap.size (.bool sz) (.slice pz nz nz) := Bx_oth hz4 (by omega)
            have hw5 : Bx ((w12.setCell ⟨w11.heap.size + 1, 0, none⟩ (.bool s4)).setCell ⟨w11.heap.size + 1, 1, none⟩ (.slice p4 n4 n4)) (w11.heap.size + 1) (.bool s4) (.slice p4 n4 n4) := Bx_set hw4
            have hR5 : RN ((w12.setCell ⟨w11.heap.size + 1, 0, none⟩ (.bool s4)).setCell ⟨w11.heap.size + 1, 1, none⟩ (.slice p4 n4 n4)) s4 p4 n4 d4 := RN_st3 hF4 hsz4 (RN_st3 hF4 hsz4 hR4)
            have hN5 : NI w10.heap.size ((w12.setCell ⟨w11.heap.size + 1, 0, none⟩ (.bool s4)).setCell ⟨w11.heap.size + 1, 1, none⟩ (.slice p4 n4 n4)) sz pz nz zs 1 := NI_st2 hltz (by show _ ≤ w11.heap.size + 1; omega) (NI_st2 hltz (by show _ ≤ w11.heap.size + 1; omega) hN4)
            have bel5 : Below w.heap.size w ((w12.setCell ⟨w11.heap.size + 1, 0, none⟩ (.bool s4)).setCell ⟨w11.heap.size + 1, 1, none⟩ (.slice p4 n4 n4)) := bset2 bel4 (by omega) _ _
            obtain ⟨c0, c1, f0, f1⟩ := hw4
            clear hz4 hBz hBw hN3 hN4 hR4 bel4 hF4 hb4
            have HV4 : Hid (rval s4 d4 = 1) := hv4
            have hn4' : n4 ≤ 1000 := by omega
            clear hv4 hn4
            have z0 := hz5.c0
            have z1 := hz5.c1
            have v0 := hw5.c0
            have v1 := hw5.c1
            clear hz5 hw5
            have his := rIs_rn hN5 (by omega) hR5 hn4' HV4.out
            clear hN5 hR5
            go_wp2_with fail
            refine his.mono ?_
            rintro e w13 ⟨rfl, hb13⟩
            have bel := bnext bel5 (Nat.le_refl _) hb13
            clear his c0 c1 f0 f1 z0 z1 v0 v1 bel5 hb13
            go_wp2
            go_ret
            exact ⟨rfl, bel⟩
        · have eo : ((m : Int) % 2 == 0) = false := beq_eq_false_iff_ne.2 (by omega)
          rw [show ival s ys ^ m = ival s ys by
            rcases hvy with ⟨hb0, hvz⟩ | ⟨hb0, hvz⟩
            · rw [hvz]; exact zero_pow' h0
            · exact pow_odd hvz hmo] at hpo
          clear hvy hmo
          go_wp2_with fail
          refine hpo.mono ?_
          rintro e w11 ⟨sz, pz, nz, zs, rfl, hNz, hnz, hb11⟩
          have HP1 := HP.out.later hb11
          clear hpo a0 a1
          have HP2 := HP1.later (bel_al (o := .cells #[.bool sz, .slice pz nz nz] 24) (Below.refl _ _))
          obtain ⟨k0, k1, -, -⟩ := HP2.bx
          have HP3 := HP2.later (bel_al (o := .cells #[.bool s8, .slice p8 n8 n8] 29) (Below.refl _ _))
          have hN3 := NI_al (o := .cells #[.bool s8, .slice p8 n8 n8] 29) (NI_al (o := .cells #[.bool sz, .slice pz nz nz] 24) hNz)
          have hBz : Bx ((w11.alloc (.cells #[.bool sz, .slice pz nz nz] 24)).alloc (.cells #[.bool s8, .slice p8 n8 n8] 29)) w11.heap.size (.bool sz) (.slice pz nz nz) := (Bx.new _ _ _ rfl).alloc _
          have hBw : Bx ((w11.alloc (.cells #[.bool sz, .slice pz nz nz] 24)).alloc (.cells #[.bool s8, .slice p8 n8 n8] 29)) (w11.heap.size + 1) (.bool s8) (.slice p8 n8 n8) := Bx.new _ _ _ (World.size_alloc ..).symm
          have hgz : w.heap.size ≤ w11.heap.size := HP1.bel.size
          have hgn : w10.heap.size ≤ w11.heap.size := hb11.size
          have hltz := hNz.lt
          have hnz1 : nz ≤ 1 := hNz.tiny hi0 hi1
          clear HP1 HP2 hNz hb11
          have z0 := hBz.c0
          have z1 := hBz.c1
          have v0 := hBw.c0
          have v1 := hBw.c1
          have bel5 := HP3.bel
          have his := rIs_rn hN3 (by omega) HP3.x (Nat.le_trans HP3.nx (by decide)) HP3.v
          clear HP3 hN3 hBz hBw hltz
          go_wp2_with fail
          refine his.mono ?_
          rintro e w13 ⟨rfl, hb13⟩
          have bel := bnext bel5 (Nat.le_refl _) hb13
          clear his k0 k1 z0 z1 v0 v1 bel5 hb13
          go_wp2
          go_ret
          exact ⟨rfl, bel⟩
end Go.Proofs.YtgdbhgpabehcfaaDoor
