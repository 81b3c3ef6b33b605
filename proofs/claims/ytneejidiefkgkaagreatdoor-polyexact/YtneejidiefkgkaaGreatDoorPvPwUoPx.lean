/-
  upoly.packedCost (what it answers is a cost alone), and plain facts on the size of a packed product.
-/
import Derived.Test.YtneejidiefkgkaaGreatDoorPu
import Derived.Test.YtneejidiefkgkaaGreatDoorUvUwUm
import Derived.Test.YtneejidiefkgkaaGreatDoorGe
namespace Go.Proofs.YtneejidiefkgkaaGreatDoor
open Go.RowKit
set_option linter.unusedVariables false
set_option linter.unusedSimpArgs false

set_option maxHeartbeats 2000000 in
set_option maxRecDepth 100000 in
/-- upoly.packedCost: some cost. -/
theorem packedCost_some (m n d : Nat) (w : World) (hm : m ≤ 80) (hn : n ≤ 80) (hd : d ≤ 80) (hd1 : 1 ≤ d) :
    Calls Tryz.prog 99 #[.int .i64 m, .int .i64 n, .int .i64 d] w fun r w' => (∃ x : Int, r = .returned (.int .i64 x)) ∧ Below w.heap.size w w' := by
  obtain ⟨A, hA1, hA2⟩ : ∃ A : Nat, max (m : Int) (n : Int) = (A : Int) ∧ A ≤ 80 := ⟨max m n, by omega, by omega⟩
  obtain ⟨M, hM1, hM2⟩ : ∃ M : Nat, min (m : Int) (n : Int) = (M : Int) ∧ M ≤ 80 := ⟨min m n, by omega, by omega⟩
  have q1 : (2147483647 : Int).tdiv (d : Int) = 2147483647 / (d : Int) := Int.tdiv_eq_ediv_of_nonneg (by decide)
  have q2 : 80 < 2147483647 / (d : Int) := by
    have : (26843545 : Int) ≤ 2147483647 / (d : Int) := Int.le_ediv_of_mul_le (by omega) (by omega)
    omega
  have q3 : 2147483647 / (d : Int) ≤ 2147483647 := Int.ediv_le_self _ (by decide)
  have hd0 : ¬ (d : Int) = 0 := by omega
  have hd0' : ((d : Int) == 0) = false := by rw [beq_eq_false_iff_ne]; omega
  generalize hQ : 2147483647 / (d : Int) = Q at *
  have hc : ¬ Q < (A : Int) := by omega
  have m1 : d * m ≤ 80 * 80 := Nat.mul_le_mul hd hm
  have m2 : d * m * d ≤ 6400 * 80 := Nat.mul_le_mul m1 hd
  have m3 : d * m * d * n ≤ 512000 * 80 := Nat.mul_le_mul m2 hn
  have m4 : d * M ≤ 80 * 80 := Nat.mul_le_mul hd hM2
  have e1 : (d : Int) * (m : Int) = ((d * m : Nat) : Int) := by push_cast; rfl
  have e2 : ((d * m : Nat) : Int) * (d : Int) = ((d * m * d : Nat) : Int) := by push_cast; rfl
  have e3 : ((d * m * d : Nat) : Int) * (n : Int) = ((d * m * d * n : Nat) : Int) := by push_cast; rfl
  have e4 : (d : Int) * (M : Int) = ((d * M : Nat) : Int) := by push_cast; rfl
  have w1 : IntKind.i64.wrap ((d * m : Nat) : Int) = ((d * m : Nat) : Int) := by rw [IntKind.wrap_i64]; omega
  have w2 : IntKind.i64.wrap ((d * m * d : Nat) : Int) = ((d * m * d : Nat) : Int) := by rw [IntKind.wrap_i64]; omega
  have w3 : IntKind.i64.wrap ((d * m * d * n : Nat) : Int) = ((d * m * d * n : Nat) : Int) := by rw [IntKind.wrap_i64]; omega
  have w4 : IntKind.i64.wrap ((d * M : Nat) : Int) = ((d * M : Nat) : Int) := by rw [IntKind.wrap_i64]; omega
  have w5 : IntKind.i64.wrap Q = Q := by rw [IntKind.wrap_i64]; omega
  generalize d * m * d * n = X at *
  generalize d * m * d = X2 at *
  generalize d * m = X1 at *
  generalize d * M = X4 at *
  have x1 : IntKind.i64.wrap ((m : Int) + (n : Int)) = (m : Int) + (n : Int) := by rw [IntKind.wrap_i64]; omega
  have x2 : IntKind.i64.wrap (160 * ((m : Int) + (n : Int))) = 160 * ((m : Int) + (n : Int)) := by rw [IntKind.wrap_i64]; omega
  go_enter Tryz.func99, Tryz.ntmps99
  go_wp2_with fail
  go_loop [7, 8] (fun cv kv => ∃ c k : Nat, cv = .int .i64 (c : Int) ∧ kv = .int .i64 (k : Int) ∧ c ≤ 40960000 ∧ k ≤ 6400) (fun _ kv => match kv with | .int _ k => k.toNat | _ => 0)
  case atStart => exact ⟨X, X4, rfl, rfl, by omega, by omega⟩
  case round =>
    obtain ⟨c, k, rfl, rfl, hc1, hk1⟩ := hrel
    obtain ⟨c4, hc4⟩ : ∃ c4 : Nat, c4 = c / 4 := ⟨_, rfl⟩
    obtain ⟨k2, hk2⟩ : ∃ k2 : Nat, k2 = k / 2 := ⟨_, rfl⟩
    obtain ⟨cr, hcr⟩ : ∃ cr : Nat, cr = c - c4 := ⟨_, rfl⟩
    have t1 : (c : Int).tdiv 4 = (c4 : Int) := by rw [Int.tdiv_eq_ediv_of_nonneg (by omega)]; omega
    have t2 : (k : Int).tdiv 2 = (k2 : Int) := by rw [Int.tdiv_eq_ediv_of_nonneg (by omega)]; omega
    have t3 : IntKind.i64.wrap (c4 : Int) = (c4 : Int) := by rw [IntKind.wrap_i64]; omega
    have t4 : IntKind.i64.wrap (k2 : Int) = (k2 : Int) := by rw [IntKind.wrap_i64]; omega
    have t5 : (c : Int) - (c4 : Int) = (cr : Int) := by omega
    have t6 : IntKind.i64.wrap (cr : Int) = (cr : Int) := by rw [IntKind.wrap_i64]; omega
    have x3 : IntKind.i64.wrap ((c : Int) + 160 * ((m : Int) + (n : Int))) = (c : Int) + 160 * ((m : Int) + (n : Int)) := by rw [IntKind.wrap_i64]; omega
    have H1 : Hid (k2 = k / 2 ∧ cr ≤ 40960000) := ⟨hk2, by omega⟩
    clear hk2 hc4 hcr
    by_cases hk : (80 : Int) < (k : Int)
    · go_wp2
      have h1 := H1.out
      refine ⟨⟨cr, k2, rfl, rfl, h1.2, by omega⟩, ?_⟩
      show (k2 : Int).toNat < (k : Int).toNat
      omega
    · go_wp2
      go_ret
      exact ⟨⟨_, rfl⟩, Below.refl _ _⟩
/-- Every entry has no more bits than the greatest. -/
theorem zb_pb (zs : List Int) (j : Nat) (h : j < zs.length) : zb (gx zs j) ≤ pb zs := by
  have h1 : ∀ k, j < k → k ≤ zs.length → zb (gx zs j) ≤ pb (zs.take k) := by
    intro k
    induction k with
    | zero => intro h; omega
    | succ k ih =>
      intro h1 h2
      rw [pb_take zs k (by omega)]
      rcases Nat.lt_or_ge j k with h3 | h3
      · have := ih h3 (by omega)
        omega
      · have : k = j := by omega
        subst this
        omega
  have := h1 zs.length h (Nat.le_refl _)
  rwa [List.take_length] at this
theorem gx_pb (zs : List Int) (j : Nat) : ((gx zs j).natAbs : Int) ≤ 2 ^ pb zs := by
  rcases Nat.lt_or_ge j zs.length with h | h
  · have h1 := (zb_ib (gx zs j)).2.1
    have h2 := p2_mono (zb_pb zs j h)
    omega
  · rw [gx_past zs zs.length (Nat.le_refl _) j h]
    have := p2_mono (Nat.zero_le (pb zs))
    simp at this ⊢
    omega
theorem ps_cnt {zs ys : List Int} {P : Int} (hP : 0 ≤ P) (h : ∀ i j, ((gx zs i * gx ys j).natAbs : Int) ≤ P) (t : Nat) : ∀ i, ((ps zs ys i t).natAbs : Int) ≤ ((min i (t + 1) - (t + 1 - ys.length) : Nat) : Int) * P
  | 0 => by simp [ps]
  | i + 1 => by
    have ih := ps_cnt hP h t i
    have h1 := h i (t - i)
    rw [ps]
    generalize hc : min i (t + 1) - (t + 1 - ys.length) = c at ih
    generalize hd : min (i + 1) (t + 1) - (t + 1 - ys.length) = d
    by_cases hi : i ≤ t
    · rw [if_pos hi]
      rcases Nat.lt_or_ge (t - i) ys.length with h2 | h2
      · have e : d = c + 1 := by omega
        rw [e]
        have : ((c + 1 : Nat) : Int) * P = (c : Int) * P + P := by push_cast; rw [Int.add_mul, Int.one_mul]
        omega
      · have e : d = c := by omega
        rw [e, gx_past ys ys.length (Nat.le_refl _) (t - i) h2, Int.mul_zero, Int.add_zero]
        exact ih
    · rw [if_neg hi, Int.add_zero]
      have e : d = c := by omega
      rw [e]
      exact ih
/-- An entry of the product has room in a digit, and a bit more. -/
theorem ps_room (zs ys : List Int) (h1 : 0 < zs.length) (h2 : 0 < ys.length) (h3 : zs.length ≤ 80) (t : Nat) : 2 * ((ps zs ys zs.length t).natAbs : Int) < pw (wd zs ys) := by
  have hb := bitLen_bd (x := ((min zs.length ys.length : Nat) : Int)) (by omega) (by omega)
  rw [Int.toNat_natCast] at hb
  obtain ⟨b1, b2, b3⟩ := hb
  have b4 := b3.2.1
  have hp := ps_cnt (zs := zs) (ys := ys) (P := 2 ^ (pb zs + pb ys)) (Int.le_of_lt (Int.pow_pos (by decide))) (fun i j => by
    rw [Int.natAbs_mul, Int.pow_add]
    push_cast
    exact Int.mul_le_mul (gx_pb zs i) (gx_pb ys j) (by omega) (Int.le_of_lt (Int.pow_pos (by decide)))) t zs.length
  rw [pw_twoP, wd]
  generalize hL : Lib.bitLen (min zs.length ys.length) = L at *
  generalize hc : min zs.length (t + 1) - (t + 1 - ys.length) = c at hp
  have hcL : (c : Int) + 1 ≤ 2 ^ L := by omega
  have hm := p2_mono (show pb zs + pb ys + L + 1 ≤ 32 * ((pb zs + pb ys + L) / 32 + 1) by omega)
  rw [Int.pow_succ, Int.pow_add _ (pb zs + pb ys)] at hm
  generalize hQ : (2 : Int) ^ (pb zs + pb ys) = Q at *
  have hQ0 : 0 < Q := by rw [← hQ]; exact Int.pow_pos (by decide)
  have hx : ((c : Int) + 1) * Q ≤ 2 ^ L * Q := Int.mul_le_mul_of_nonneg_right hcL (Int.le_of_lt hQ0)
  rw [Int.add_mul, Int.one_mul, Int.mul_comm (2 ^ L)] at hx
  omega
/-- How long a packed polynomial is. -/
theorem pkf_lt {W K : Nat} {f : Nat → Int} (hK : K ≤ W) (h : ∀ j, ((f j).natAbs : Int) < pw K) : ∀ n, ((pkf W f (n + 1)).natAbs : Int) < pw (W * n + K)
  | 0 => by
    have := h 0
    rw [pkf, pkf]
    simp [pw_zero]
    exact this
  | n + 1 => by
    have ih := pkf_lt hK h n
    have h1 := h (n + 1)
    have h2 := pw_mono (show W * n + K ≤ W * (n + 1) by rw [Nat.mul_add]; omega)
    have h3 : ((f (n + 1) * pw (W * (n + 1))).natAbs : Int) ≤ (pw K - 1) * pw (W * (n + 1)) := by
      rw [Int.natAbs_mul]
      push_cast
      have e : ((pw (W * (n + 1))).natAbs : Int) = pw (W * (n + 1)) := by have := pw_pos (W * (n + 1)); omega
      rw [e]
      exact Int.mul_le_mul_of_nonneg_right (by omega) (Int.le_of_lt (pw_pos _))
    rw [Int.sub_mul, Int.one_mul] at h3
    rw [Nat.add_comm (W * (n + 1)) K, pw_add, pkf]
    omega
theorem wd_le {zs ys : List Int} {K L : Nat} (h1 : pb zs ≤ 32 * K) (h2 : pb ys ≤ 32 * L) (h3 : 0 < zs.length) (h4 : 0 < ys.length) (h5 : zs.length ≤ 80) : wd zs ys ≤ K + L + 1 := by
  have hb := bitLen_bd (x := ((min zs.length ys.length : Nat) : Int)) (by omega) (by omega)
  rw [Int.toNat_natCast] at hb
  obtain ⟨b1, b2, b3⟩ := hb
  rw [wd]
  generalize hL : Lib.bitLen (min zs.length ys.length) = M at *
  rcases Nat.lt_or_ge M 32 with h | h
  · omega
  · have := p2_mono (show 31 ≤ M - 1 by omega)
    rcases b3.2.2 with h6 | h6
    · omega
    · have e : (2 : Int) ^ 31 = 2147483648 := by decide
      omega
end Go.Proofs.YtneejidiefkgkaaGreatDoor
/-
  upoly.product of any two polynomials (rows or packed).
-/
namespace Go.Proofs.YtneejidiefkgkaaGreatDoor
open Go.RowKit
set_option linter.unusedVariables false
set_option linter.unusedSimpArgs false

theorem gx_room {zs : List Int} {K W : Nat} (h1 : ∀ i, ((gx zs i).natAbs : Int) < pw K) (h2 : ∀ j, j < zs.length → zl (gx zs j) ≤ W) (j : Nat) : ((gx zs j).natAbs : Int) < pw (min K W) := by
  rcases Nat.le_total K W with h | h
  · rw [Nat.min_eq_left h]; exact h1 j
  · rw [Nat.min_eq_right h]
    rcases Nat.lt_or_ge j zs.length with h3 | h3
    · have h4 := h2 j h3
      have h5 := (zb_ib (gx zs j)).2.1
      have h6 := p2_mono (show zb (gx zs j) ≤ 32 * W by unfold zl at h4; omega)
      rw [pw_twoP]
      omega
    · rw [gx_past zs zs.length (Nat.le_refl _) j h3]
      exact pw_pos W
theorem pk_fit {B : Nat} {w : World} {N K W T n : Nat} {zs : List Int} {u : Ent} (hu : NV B w N (pkf W (gx zs) n) u) (hn : 1 ≤ n) (h1 : ∀ i, ((gx zs i).natAbs : Int) < pw K) (h2 : ∀ j, j < zs.length → zl (gx zs j) ≤ W) (hW : W ≤ T) : NV B w (T * (n - 1) + K) (pkf W (gx zs) n) u := by
  refine hu.fit ?_
  obtain ⟨a, rfl⟩ : ∃ a, n = a + 1 := ⟨n - 1, by omega⟩
  have h3 := pkf_lt (Nat.min_le_right K W) (gx_room h1 h2) a
  have h4 : W * a ≤ T * a := Nat.mul_le_mul_right a hW
  have h5 := pw_mono (show W * a + min K W ≤ T * a + K by omega)
  rw [Nat.add_sub_cancel]
  omega
set_option maxHeartbeats 4000000 in
set_option maxRecDepth 100000 in
/-- upoly.product of two that are not zero; T bounds the width of a digit. -/
theorem product_w {B C : Nat} {w : World} {K L : Nat} {p q : Option Addr} {n m : Nat} {es fs : List Ent} {zs ys : List Int} (h : PB B w K p n es zs) (k : PB C w L q m fs ys) (hn : n ≤ 80) (hm : m ≤ 80) (hn1 : 1 ≤ n) (hm1 : 1 ≤ m) (hK : K < 80) (hL : L < 80) (hd : K + L + 1 ≤ 70) (T : Nat) (hT : wd zs ys ≤ T) (hf : T * (n - 1) + K < 80) (hg : T * (m - 1) + L < 900) :
    Calls Tryz.prog 49 #[.slice p n n, .slice q m m] w (PnP (mulz zs ys) (K + L + 1) w) := by
  have hpa := h.pa (by omega)
  have hqa := k.pa (by omega)
  have hzl := h.zl
  have hyl := k.zl
  have HB : Hid (pb zs ≤ 32 * K ∧ pb ys ≤ 32 * L) := ⟨pb_le hpa (by omega), pb_le hqa (by omega)⟩
  have hW1 : 1 ≤ wd zs ys := by unfold wd; omega
  have hW2 : wd zs ys ≤ K + L + 1 := wd_le HB.out.1 HB.out.2 (by omega) (by omega) (by omega)
  have HR : Hid (∀ t, 2 * ((ps zs ys n t).natAbs : Int) < pw (wd zs ys)) := by
    show ∀ t, 2 * ((ps zs ys n t).natAbs : Int) < pw (wd zs ys)
    intro t
    rw [← hzl]
    exact ps_room zs ys (by omega) (by omega) (by omega) t
  have HE : Hid ((∀ j, j < n → zl (gx zs j) ≤ wd zs ys) ∧ (∀ j, j < m → zl (gx ys j) ≤ wd zs ys)) := by
    refine ⟨fun j hj => ?_, fun j hj => ?_⟩
    · have := zb_pb zs j (by omega)
      unfold zl wd
      omega
    · have := zb_pb ys j (by omega)
      unfold zl wd
      omega
  have HZ : Hid (tlen zs = n ∧ tlen ys = m) := ⟨h.nrm, k.nrm⟩
  have g1 : ((n : Int) == 0) = false := by rw [beq_eq_false_iff_ne]; omega
  have g2 : ((m : Int) == 0) = false := by rw [beq_eq_false_iff_ne]; omega
  have g3 : ¬ (n : Int) = 0 := by omega
  have g4 : ¬ (m : Int) = 0 := by omega
  go_enter Tryz.func49, Tryz.ntmps49
  go_wp2_with fail
  refine (digitWidth_any hpa hqa (by omega) (by omega) (by omega) (by omega)).mono ?_
  rintro e w1 ⟨rfl, hb1⟩
  have h1 := rowsCost_any (h.below hb1) (k.below hb1) (by omega) (by omega) (by omega) (by omega)
  generalize hW : wd zs ys = W at *
  have HW : Hid (wd zs ys = W) := hW
  clear hW
  generalize hX : sl zs * sl ys + 80 * cnt zs * cnt ys = X at *
  clear hX
  go_wp2_with fail
  refine h1.mono ?_
  rintro e w2 ⟨rfl, hb2⟩
  clear h1
  go_wp2_with fail
  refine (packedCost_some n m W w2 hn hm (by omega) hW1).mono ?_
  rintro e w3 ⟨⟨x, rfl⟩, hb3⟩
  have hb := bnext' (bnext' hb1 hb2) hb3
  by_cases hx : (X : Int) ≤ x
  · go_wp2_with fail
    refine (rows_any (hpa.below hb) (hqa.below hb) (by omega) (by omega) hn1 hm1 hK hL).mono ?_
    rintro e w4 ⟨u, us, rfl, r1, r2, r3, r4, hb4⟩
    clear hpa hqa
    go_wp2
    go_ret
    have hs := hb.size
    refine ⟨u, n + m - 1, us, rfl, ⟨r1, by rw [length_mulz, hzl, hyl], ?_, r2, fun a ha => Nat.le_trans hs (r3 a ha), fun t ht => ?_⟩, bnext' hb hb4⟩
    · rw [mulz_top (by rw [HZ.out.1, hzl]) (by rw [HZ.out.2, hyl]) (by omega) (by omega), hzl, hyl]
    · rw [gx_mulz _ _ _ (by rw [hzl, hyl]; exact ht), hzl]
      exact (r4 t ht).mono hs
  · go_wp2_with fail
    have hp1 := pack_any (h.below hb) W hW1 (by omega) (by omega) HE.out.1
    refine hp1.mono ?_
    rintro e w4 ⟨u, rfl, hu, hb4⟩
    have hk4 := hb4.size
    go_wp2_with fail
    have hp2 := pack_any ((k.below hb).below hb4) W hW1 (by omega) (by omega) HE.out.2
    refine hp2.mono ?_
    rintro e w5 ⟨v, rfl, hv, hb5⟩
    go_wp2_with fail
    have hu' := (pk_fit (hu.below hb5) hn1 hpa.gbd (by rw [hzl]; exact HE.out.1) hT).ev (by omega)
    have hv' := (pk_fit hv hm1 hqa.gbd (by rw [hyl]; exact HE.out.2) hT).ev (by omega)
    have HM : Hid (pkf W (gx zs) n * pkf W (gx ys) m = pkf W (ps zs ys n) (n + m - 1)) := by
      show _ = _
      rw [← hyl, pkf_mul W zs ys _ n (by omega)]
    refine (Mul_ev hu' hv' hf).mono ?_
    rintro e w6 ⟨z, rfl, hz, hb6⟩
    have hbb := bnext' (bnext' (bnext' hb hb4) hb5) hb6
    generalize T * (n - 1) + K = K1 at *
    generalize T * (m - 1) + L = L1 at *
    generalize pkf W (gx zs) n = Z1 at *
    generalize pkf W (gx ys) m = Y1 at *
    clear hp1 hp2 hu hv hu' hv' hpa hqa h k HE HB hb4 hb5 hb6 hk4
    have v1 : IntKind.i64.wrap ((n : Int) + (m : Int)) = (n : Int) + (m : Int) := by rw [IntKind.wrap_i64]; omega
    have v2 : IntKind.i64.wrap ((n : Int) + (m : Int) - 1) = ((n + m - 1 : Nat) : Int) := by rw [IntKind.wrap_i64]; omega
    go_wp2_with fail
    have hz' := NV_al (o := .cells #[.bool z.s, .slice z.p z.n z.c] 47) hz
    have hbx : Below w.heap.size w (w6.alloc (.cells #[.bool z.s, .slice z.p z.n z.c] 47)) := hbb.alloc hbb.size _
    refine (unpack_any hz' W (n + m - 1) (ps zs ys n) hW1 (by omega) (by omega) (by omega) HM.out (fun j _ => HR.out j)).mono ?_
    rintro e w7 ⟨u7, us, rfl, r1, r2, r3, r4, hb7⟩
    clear hz' hz
    have hs := hbx.size
    generalize w6.alloc (.cells #[.bool z.s, .slice z.p z.n z.c] 47) = wx at *
    go_wp2
    go_ret
    refine ⟨u7, n + m - 1, us, rfl, ⟨r1, by rw [length_mulz, hzl, hyl], ?_, r2, fun a ha => Nat.le_trans hs (r3 a ha), fun t ht => ?_⟩, bnext' hbx hb7⟩
    · rw [mulz_top (by rw [HZ.out.1, hzl]) (by rw [HZ.out.2, hyl]) (by omega) (by omega), hzl, hyl]
    · rw [gx_mulz _ _ _ (by rw [hzl, hyl]; exact ht), hzl]
      obtain ⟨xs, k1, k2, k3⟩ := (r4 t ht).mono hs
      exact ⟨xs, k1, k2, by omega⟩
theorem product_any {B C : Nat} {w : World} {K L : Nat} {p q : Option Addr} {n m : Nat} {es fs : List Ent} {zs ys : List Int} (h : PB B w K p n es zs) (k : PB C w L q m fs ys) (hn : n ≤ 80) (hm : m ≤ 80) (hn1 : 1 ≤ n) (hm1 : 1 ≤ m) (hK : K < 80) (hL : L < 80) (hd : K + L + 1 ≤ 70) (hf : (K + L + 1) * (n - 1) + K < 80) (hg : (K + L + 1) * (m - 1) + L < 900) :
    Calls Tryz.prog 49 #[.slice p n n, .slice q m m] w (PnP (mulz zs ys) (K + L + 1) w) :=
  product_w h k hn hm hn1 hm1 hK hL hd (K + L + 1) (wd_le (pb_le (h.pa (by omega)) (by omega)) (pb_le (k.pa (by omega)) (by omega)) (by rw [h.zl]; omega) (by rw [k.zl]; omega) (by rw [h.zl]; omega)) hf hg
end Go.Proofs.YtneejidiefkgkaaGreatDoor
/-
  upoly.Mul of small polynomials.
-/
namespace Go.Proofs.YtneejidiefkgkaaGreatDoor
open Go.RowKit
set_option linter.unusedVariables false
set_option linter.unusedSimpArgs false

theorem PnP.from {zs : List Int} {K : Nat} {w w' : World} {e : Ending} {w'' : World} (h : PnP zs K w' e w'') (hb : Below w.heap.size w w') : PnP zs K w e w'' := by
  obtain ⟨p, n, es, h1, h2, h3⟩ := h
  exact ⟨p, n, es, h1, h2.mono hb.size, bnext' hb h3⟩
set_option maxHeartbeats 2000000 in
set_option maxRecDepth 100000 in
/-- upoly.Mul, where rows cost less. -/
theorem uMul_rows {w : World} {K L : Nat} {p q : Option Addr} {n nc m mc : Nat} {es fs : List Ent} {zs ys : List Int} (h : PA w K p n nc es zs) (k : PA w L q m mc fs ys) (hn : n ≤ 80) (hm : m ≤ 80) (hn1 : 1 ≤ tlen zs) (hm1 : 1 ≤ tlen ys) (hK : K < 80) (hL : L < 80) (hd : wd (tr zs) (tr ys) ≤ 80) (hk : wd (tr zs) (tr ys) * min (tlen zs) (tlen ys) ≤ 80)
    (hc : sl (tr zs) * sl (tr ys) + 80 * cnt (tr zs) * cnt (tr ys) ≤ wd (tr zs) (tr ys) * tlen zs * wd (tr zs) (tr ys) * tlen ys + 160 * (tlen zs + tlen ys)) :
    Calls Tryz.prog 17 #[.slice p n nc, .slice q m mc] w (PnP (mulz (tr zs) (tr ys)) (K + L + 1) w) := by
  have HC := (show Hid _ from hc)
  have HD := (show Hid _ from hd)
  have HK := (show Hid _ from hk)
  have hzl := h.zl
  have hyl := k.zl
  have htz := tlen_le zs
  have hty := tlen_le ys
  clear hc hd hk
  go_enter Tryz.func17, Tryz.ntmps17
  go_wp2_with fail
  refine (read_any K p n nc es zs _ h (by omega) (by omega)).mono ?_
  rintro e w1 ⟨p1, n1, es1, rfl, h1, hb1⟩
  go_wp2_with fail
  refine (read_any L q m mc fs ys _ (k.below hb1) (by omega) (by omega)).mono ?_
  rintro e w2 ⟨q1, m1, fs1, rfl, k1, hb2⟩
  have hn' := h1.zl
  have hm' := k1.zl
  rw [length_tr] at hn' hm'
  subst hn' hm'
  go_wp2_with fail
  refine (product_rows (h1.below hb2) k1 (by omega) (by omega) hn1 hm1 hK hL HD.out HK.out HC.out).mono ?_
  rintro e w3 ⟨p3, n3, es3, rfl, h3, hb3⟩
  go_wp2
  go_ret
  exact PnP.from ⟨p3, n3, es3, rfl, h3, hb3⟩ (bnext' hb1 hb2)
end Go.Proofs.YtneejidiefkgkaaGreatDoor
/-
  upoly.product where one is zero, Mul.
-/
namespace Go.Proofs.YtneejidiefkgkaaGreatDoor
open Go.RowKit
set_option linter.unusedVariables false
set_option linter.unusedSimpArgs false

/-- The product of two normal polynomials. -/
def mulp (zs ys : List Int) : List Int := if zs.length = 0 ∨ ys.length = 0 then [] else mulz zs ys
theorem pn_nil (B : Nat) (w : World) (K : Nat) : PN B w K none 0 [] [] := ⟨rfl, rfl, rfl, PL.nil, (fun a h => by cases h), fun j hj => by omega⟩
set_option maxHeartbeats 2000000 in
set_option maxRecDepth 100000 in
theorem product_nil (w : World) (K : Nat) (p q : Option Addr) (n m nc mc : Nat) (hn : n ≤ 1000000) (hm : m ≤ 1000000) (h : n = 0 ∨ m = 0) :
    Calls Tryz.prog 49 #[.slice p n nc, .slice q m mc] w (PnP [] K w) := by
  by_cases h0 : n = 0
  · subst h0
    go_enter Tryz.func49, Tryz.ntmps49
    go_wp2
    go_ret
    exact ⟨none, 0, [], rfl, pn_nil _ _ _, Below.refl _ _⟩
  · have h1 : m = 0 := by omega
    subst h1
    have g1 : ((n : Int) == 0) = false := by rw [beq_eq_false_iff_ne]; omega
    have g3 : ¬ (n : Int) = 0 := by omega
    go_enter Tryz.func49, Tryz.ntmps49
    go_wp2
    go_ret
    exact ⟨none, 0, [], rfl, pn_nil _ _ _, Below.refl _ _⟩
set_option maxHeartbeats 2000000 in
set_option maxRecDepth 100000 in
/-- upoly.product. -/
theorem product_all {B C : Nat} {w : World} {K L : Nat} {p q : Option Addr} {n m : Nat} {es fs : List Ent} {zs ys : List Int} (h : PB B w K p n es zs) (k : PB C w L q m fs ys) (hn : n ≤ 80) (hm : m ≤ 80) (hd : K + L + 1 ≤ 70) (hf : (K + L + 1) * (n - 1) + K < 80) (hg : (K + L + 1) * (m - 1) + L < 900) :
    Calls Tryz.prog 49 #[.slice p n n, .slice q m m] w (PnP (mulp zs ys) (K + L + 1) w) := by
  rw [mulp, h.zl, k.zl]
  by_cases h0 : n = 0 ∨ m = 0
  · rw [if_pos h0]
    exact product_nil w _ p q n m n m (by omega) (by omega) h0
  · rw [if_neg h0]
    exact product_any h k hn hm (by omega) (by omega) (by omega) (by omega) hd hf hg
set_option maxHeartbeats 2000000 in
set_option maxRecDepth 100000 in
/-- upoly.Mul. -/
theorem uMul_any {w : World} {K L : Nat} {p q : Option Addr} {n nc m mc : Nat} {es fs : List Ent} {zs ys : List Int} (h : PA w K p n nc es zs) (k : PA w L q m mc fs ys) (hn : n ≤ 80) (hm : m ≤ 80) (hd : K + L + 1 ≤ 70) (hf : (K + L + 1) * (n - 1) + K < 80) (hg : (K + L + 1) * (m - 1) + L < 900) :
    Calls Tryz.prog 17 #[.slice p n nc, .slice q m mc] w (PnP (mulp (tr zs) (tr ys)) (K + L + 1) w) := by
  have hzl := h.zl
  have hyl := k.zl
  have htz := tlen_le zs
  have hty := tlen_le ys
  have hf' : (K + L + 1) * (tlen zs - 1) + K < 80 := by
    have := Nat.mul_le_mul_left (K + L + 1) (show tlen zs - 1 ≤ n - 1 by omega)
    omega
  have hg' : (K + L + 1) * (tlen ys - 1) + L < 900 := by
    have := Nat.mul_le_mul_left (K + L + 1) (show tlen ys - 1 ≤ m - 1 by omega)
    omega
  have HF := (show Hid ((K + L + 1) * (tlen zs - 1) + K < 80) from hf')
  have HG := (show Hid ((K + L + 1) * (tlen ys - 1) + L < 900) from hg')
  clear hf hg hf' hg'
  go_enter Tryz.func17, Tryz.ntmps17
  go_wp2_with fail
  refine (read_any K p n nc es zs _ h (by omega) (by omega)).mono ?_
  rintro e w1 ⟨p1, n1, es1, rfl, h1, hb1⟩
  go_wp2_with fail
  refine (read_any L q m mc fs ys _ (k.below hb1) (by omega) (by omega)).mono ?_
  rintro e w2 ⟨q1, m1, fs1, rfl, k1, hb2⟩
  have hn' := h1.zl
  have hm' := k1.zl
  rw [length_tr] at hn' hm'
  subst hn' hm'
  go_wp2_with fail
  refine (product_all (h1.below hb2) k1 (by omega) (by omega) hd HF.out HG.out).mono ?_
  rintro e w3 ⟨p3, n3, es3, rfl, h3, hb3⟩
  go_wp2
  go_ret
  exact PnP.from ⟨p3, n3, es3, rfl, h3, hb3⟩ (bnext' hb1 hb2)
end Go.Proofs.YtneejidiefkgkaaGreatDoor
