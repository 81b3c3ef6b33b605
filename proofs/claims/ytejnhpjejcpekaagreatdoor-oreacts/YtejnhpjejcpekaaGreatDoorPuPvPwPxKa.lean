/-
  upoly.unpack.
-/
import Derived.Test.YtejnhpjejcpekaaGreatDoorPqPrPsPt
import Derived.Laws.OwnMore
import Derived.Test.YtejnhpjejcpekaaGreatDoorAdDtAgAiVdRtDhVeRsVfVcAjDrBmBqDuAkAl
import Derived.Test.YtejnhpjejcpekaaGreatDoorCyViVuWxUpUqRmRpDkDlDbRiRjRgRkVqDcUmUoDmDvPmHuVsVtVy
import Derived.Test.YtejnhpjejcpekaaGreatDoorFpCdDeGaGbKpGcGdGeQaQbQcQdQgQhGfGgUnWfUu
import Derived.Test.YtejnhpjejcpekaaGreatDoorUiWiWj
import Derived.Test.YtejnhpjejcpekaaGreatDoorWlBxBbCvNjUbUcUdOwRaWmBeRd
namespace Go.Proofs.YtejnhpjejcpekaaGreatDoor
open Go.RowKit
set_option linter.unusedVariables false
set_option linter.unusedSimpArgs false
set_option maxHeartbeats 8000000
theorem val_base (W : Nat) : val (zeros W ++ [1]) = pw W := by rw [val_append, val_zero, length_zeros, val_one]; simp
theorem ca_list (xs : List Int) : (ca .u32 xs).toList = xs.map (Value.int .u32) := by simp [ca]
set_option maxRecDepth 100000 in
theorem packedCost_some (m n d : Nat) (w : World) (hm : m ≤ 80) (hn : n ≤ 80) (hd : d ≤ 80) (hd1 : 1 ≤ d) :
    Calls Tryz.prog 222 #[.int .i64 m, .int .i64 n, .int .i64 d] w fun r w' => (∃ x : Int, r = .returned (.int .i64 x)) ∧ Below w.heap.size w w' := by
  obtain ⟨A, hA1, hA2⟩ : ∃ A : Nat, max (m : Int) (n : Int) = (A : Int) ∧ A ≤ 80 := ⟨max m n, by omega, by omega⟩
  obtain ⟨M, hM1, hM2⟩ : ∃ M : Nat, min (m : Int) (n : Int) = (M : Int) ∧ M ≤ 80 := ⟨min m n, by omega, by omega⟩
  have q1 : (2147483647 : Int).tdiv (d : Int) = 2147483647 / (d : Int) := Int.tdiv_eq_ediv_of_nonneg (by decide)
  have q2 : 80 < 2147483647 / (d : Int) := by
    have : (26843545 : Int) ≤ 2147483647 / (d : Int) := Int.le_ediv_of_mul_le (by omega) (by omega)
    omega
  have q3 : 2147483647 / (d : Int) ≤ 2147483647 := Int.ediv_le_self _ (by decide)
  have hd0 : ¬ (d : Int) = 0 := by omega
  have hd0' : ((d : Int) == 0) = false := by rw [beq_eq_false_iff_ne]; omega
  generalize hQ : 2147483647 / (d : Int) = Q at *
  have hc : ¬ Q < (A : Int) := by omega
  have m1 : d * m ≤ 80 * 80 := Nat.mul_le_mul hd hm
  have m2 : d * m * d ≤ 6400 * 80 := Nat.mul_le_mul m1 hd
  have m3 : d * m * d * n ≤ 512000 * 80 := Nat.mul_le_mul m2 hn
  have m4 : d * M ≤ 80 * 80 := Nat.mul_le_mul hd hM2
  have e1 : (d : Int) * (m : Int) = ((d * m : Nat) : Int) := by push_cast; rfl
  have e2 : ((d * m : Nat) : Int) * (d : Int) = ((d * m * d : Nat) : Int) := by push_cast; rfl
  have e3 : ((d * m * d : Nat) : Int) * (n : Int) = ((d * m * d * n : Nat) : Int) := by push_cast; rfl
  have e4 : (d : Int) * (M : Int) = ((d * M : Nat) : Int) := by push_cast; rfl
  have w1 : IntKind.i64.wrap ((d * m : Nat) : Int) = ((d * m : Nat) : Int) := by rw [IntKind.wrap_i64]; omega
  have w2 : IntKind.i64.wrap ((d * m * d : Nat) : Int) = ((d * m * d : Nat) : Int) := by rw [IntKind.wrap_i64]; omega
  have w3 : IntKind.i64.wrap ((d * m * d * n : Nat) : Int) = ((d * m * d * n : Nat) : Int) := by rw [IntKind.wrap_i64]; omega
  have w4 : IntKind.i64.wrap ((d * M : Nat) : Int) = ((d * M : Nat) : Int) := by rw [IntKind.wrap_i64]; omega
  have w5 : IntKind.i64.wrap Q = Q := by rw [IntKind.wrap_i64]; omega
  generalize d * m * d * n = X at *
  generalize d * m * d = X2 at *
  generalize d * m = X1 at *
  generalize d * M = X4 at *
  have x1 : IntKind.i64.wrap ((m : Int) + (n : Int)) = (m : Int) + (n : Int) := by rw [IntKind.wrap_i64]; omega
  have x2 : IntKind.i64.wrap (160 * ((m : Int) + (n : Int))) = 160 * ((m : Int) + (n : Int)) := by rw [IntKind.wrap_i64]; omega
  go_enter Tryz.func222, Tryz.ntmps222
  go_wp2_with fail
  go_loop [7, 8] (fun cv kv => ∃ c k : Nat, cv = .int .i64 (c : Int) ∧ kv = .int .i64 (k : Int) ∧ c ≤ 40960000 ∧ k ≤ 6400) (fun _ kv => match kv with | .int _ k => k.toNat | _ => 0)
  case atStart => exact ⟨X, X4, rfl, rfl, by omega, by omega⟩
  case round =>
    obtain ⟨c, k, rfl, rfl, hc1, hk1⟩ := hrel
    obtain ⟨c4, hc4⟩ : ∃ c4 : Nat, c4 = c / 4 := ⟨_, rfl⟩
    obtain ⟨k2, hk2⟩ : ∃ k2 : Nat, k2 = k / 2 := ⟨_, rfl⟩
    obtain ⟨cr, hcr⟩ : ∃ cr : Nat, cr = c - c4 := ⟨_, rfl⟩
    have t1 : (c : Int).tdiv 4 = (c4 : Int) := by rw [Int.tdiv_eq_ediv_of_nonneg (by omega)]; omega
    have t2 : (k : Int).tdiv 2 = (k2 : Int) := by rw [Int.tdiv_eq_ediv_of_nonneg (by omega)]; omega
    have t3 : IntKind.i64.wrap (c4 : Int) = (c4 : Int) := by rw [IntKind.wrap_i64]; omega
    have t4 : IntKind.i64.wrap (k2 : Int) = (k2 : Int) := by rw [IntKind.wrap_i64]; omega
    have t5 : (c : Int) - (c4 : Int) = (cr : Int) := by omega
    have t6 : IntKind.i64.wrap (cr : Int) = (cr : Int) := by rw [IntKind.wrap_i64]; omega
    have x3 : IntKind.i64.wrap ((c : Int) + 160 * ((m : Int) + (n : Int))) = (c : Int) + 160 * ((m : Int) + (n : Int)) := by rw [IntKind.wrap_i64]; omega
    have H1 : Hid (k2 = k / 2 ∧ cr ≤ 40960000) := ⟨hk2, by omega⟩
    clear hk2 hc4 hcr
    by_cases hk : (80 : Int) < (k : Int)
    · go_wp2
      have h1 := H1.out
      refine ⟨⟨cr, k2, rfl, rfl, h1.2, by omega⟩, ?_⟩
      show (k2 : Int).toNat < (k : Int).toNat
      omega
    · go_wp2
      go_ret
      exact ⟨⟨_, rfl⟩, Below.refl _ _⟩
theorem gx_pb (zs : List Int) (j : Nat) : ((gx zs j).natAbs : Int) ≤ 2 ^ pb zs := by
  rcases Nat.lt_or_ge j zs.length with h | h
  · have h1 := (zb_ib (gx zs j)).2.1
    have h2 := p2_mono (zb_pb zs j h)
    omega
  · rw [gx_past zs zs.length (Nat.le_refl _) j h]
    have := p2_mono (Nat.zero_le (pb zs))
    simp at this ⊢
    omega
theorem ps_cnt {zs ys : List Int} {P : Int} (hP : 0 ≤ P) (h : ∀ i j, ((gx zs i * gx ys j).natAbs : Int) ≤ P) (t : Nat) : ∀ i, ((ps zs ys i t).natAbs : Int) ≤ ((min i (t + 1) - (t + 1 - ys.length) : Nat) : Int) * P
  | 0 => by simp [ps]
  | i + 1 => by
    have ih := ps_cnt hP h t i
    have h1 := h i (t - i)
    rw [ps]
    generalize hc : min i (t + 1) - (t + 1 - ys.length) = c at ih
    generalize hd : min (i + 1) (t + 1) - (t + 1 - ys.length) = d
    by_cases hi : i ≤ t
    · rw [if_pos hi]
      rcases Nat.lt_or_ge (t - i) ys.length with h2 | h2
      · have e : d = c + 1 := by omega
        rw [e]
        have : ((c + 1 : Nat) : Int) * P = (c : Int) * P + P := by push_cast; rw [Int.add_mul, Int.one_mul]
        omega
      · have e : d = c := by omega
        rw [e, gx_past ys ys.length (Nat.le_refl _) (t - i) h2, Int.mul_zero, Int.add_zero]
        exact ih
    · rw [if_neg hi, Int.add_zero]
      have e : d = c := by omega
      rw [e]
      exact ih
theorem ps_room (zs ys : List Int) (h1 : 0 < zs.length) (h2 : 0 < ys.length) (h3 : zs.length ≤ 80) (t : Nat) : 2 * ((ps zs ys zs.length t).natAbs : Int) < pw (wd zs ys) := by
  have hb := bitLen_bd (x := ((min zs.length ys.length : Nat) : Int)) (by omega) (by omega)
  rw [Int.toNat_natCast] at hb
  obtain ⟨b1, b2, b3⟩ := hb
  have b4 := b3.2.1
  have hp := ps_cnt (zs := zs) (ys := ys) (P := 2 ^ (pb zs + pb ys)) (Int.le_of_lt (Int.pow_pos (by decide))) (fun i j => by
    rw [Int.natAbs_mul, Int.pow_add]
    push_cast
    exact Int.mul_le_mul (gx_pb zs i) (gx_pb ys j) (by omega) (Int.le_of_lt (Int.pow_pos (by decide)))) t zs.length
  rw [pw_twoP, wd]
  generalize hL : Lib.bitLen (min zs.length ys.length) = L at *
  generalize hc : min zs.length (t + 1) - (t + 1 - ys.length) = c at hp
  have hcL : (c : Int) + 1 ≤ 2 ^ L := by omega
  have hm := p2_mono (show pb zs + pb ys + L + 1 ≤ 32 * ((pb zs + pb ys + L) / 32 + 1) by omega)
  rw [Int.pow_succ, Int.pow_add _ (pb zs + pb ys)] at hm
  generalize hQ : (2 : Int) ^ (pb zs + pb ys) = Q at *
  have hQ0 : 0 < Q := by rw [← hQ]; exact Int.pow_pos (by decide)
  have hx : ((c : Int) + 1) * Q ≤ 2 ^ L * Q := Int.mul_le_mul_of_nonneg_right hcL (Int.le_of_lt hQ0)
  rw [Int.add_mul, Int.one_mul, Int.mul_comm (2 ^ L)] at hx
  omega
theorem wd_le {zs ys : List Int} {K L : Nat} (h1 : pb zs ≤ 32 * K) (h2 : pb ys ≤ 32 * L) (h3 : 0 < zs.length) (h4 : 0 < ys.length) (h5 : zs.length ≤ 80) : wd zs ys ≤ K + L + 1 := by
  have hb := bitLen_bd (x := ((min zs.length ys.length : Nat) : Int)) (by omega) (by omega)
  rw [Int.toNat_natCast] at hb
  obtain ⟨b1, b2, b3⟩ := hb
  rw [wd]
  generalize hL : Lib.bitLen (min zs.length ys.length) = M at *
  rcases Nat.lt_or_ge M 32 with h | h
  · omega
  · have := p2_mono (show 31 ≤ M - 1 by omega)
    rcases b3.2.2 with h6 | h6
    · omega
    · have e : (2 : Int) ^ 31 = 2147483648 := by decide
      omega
set_option maxRecDepth 100000 in
theorem sum_ge (p q : Option Addr) (n nc m mc : Nat) (xs ys : List Int) (w : World) (hn : xs.length = n) (hm : ys.length = m) (hmn : m ≤ n) (hnb : n ≤ 1000000000)
    (hX : Rd w p .u32 xs) (hXu : U32 xs) (hY : Rd w q .u32 ys) (hYu : U32 ys) :
    Calls Tryz.prog 217 #[.slice p n nc, .slice q m mc] w fun e w' => ∃ zs, e = .returned (.slice (some ⟨w.heap.size, 0, none⟩) (n + 1) (n + 1)) ∧ zs.length = n + 1 ∧ U32 zs ∧ val zs = val xs + val ys ∧
      Row w' w.heap.size 88 .u32 zs ∧ Below w.heap.size w w' := by
  have hl' : ¬ (n : Int) < m := by omega
  have hmx : max (n : Int) (m : Int) = (n : Int) := by omega
  have hmk := mk_u32 (n + 1) (by omega)
  have ec : ((n + 1 : Nat) : Int) = (n : Int) + 1 := by omega
  rw [ec] at hmk
  clear ec
  have hcp := fun ty => copy_u32 ty w p n nc (n + 1) xs hX hn (by omega)
  have hlen : (xs ++ zeros 1).length = n + 1 := by simp [zeros]; omega
  go_enter Tryz.func217, Tryz.ntmps217
  go_wp2_with fail
  refine (addTo_any w.heap.size 0 (n + 1) (n + 1) (xs ++ zeros 1) q m mc ys _ (by omega) (by omega) (Nat.le_refl _) (Row.new w _ _ _) (u32_append hXu (u32_zeros _)) hm (by omega) (hY.alloc _) hYu (fun h => hY.off (Nat.le_refl _) (by omega))).mono ?_
  rintro e w' ⟨c, new, rfl, h1, h2, h3, h4, h5, h6, h7⟩
  go_wp2
  go_ret
  have hs := sum_top xs ys new n m (n + 1) c hn hm (by omega) (by omega) hXu hYu h2 h1 h3 h4 (by
    rw [h5, List.drop_zero, List.take_of_length_le (by omega), val_append, val_zero, Int.mul_zero, Int.add_zero])
  refine ⟨new, rfl, h1, h2, hs, ?_, ?_⟩
  · rw [List.take_zero, List.nil_append, Nat.zero_add, List.drop_of_length_le (by omega), List.append_nil] at h6
    exact h6
  · exact below_grown ((Below.refl _ _).alloc (Nat.le_refl _) _) h7 (by simp) (Nat.le_refl _)
theorem rd_drop {w : World} {b off : Nat} {k : IntKind} {xs : List Int} (h : Rd w (some ⟨b, off, none⟩) k xs) (j : Nat) : Rd w (some ⟨b, off + j, none⟩) k (xs.drop j) := fun hx => by
  have hl : j < xs.length := by simp at hx; omega
  obtain ⟨b', off', e, hc⟩ := h (by omega)
  cases e
  refine ⟨b, off + j, rfl, fun i hi => ?_⟩
  have := hc (j + i) (by simp at hi; omega)
  rw [gx_drop, Nat.add_assoc]; exact this
theorem gx_mid (Z R : List Int) (o j : Nat) (h : o + R.length ≤ Z.length) : gx (mid Z o R) j = if o ≤ j ∧ j < o + R.length then gx R (j - o) else gx Z j := by
  by_cases hc : o ≤ j ∧ j < o + R.length
  · rw [if_pos hc]
    have := mid_gx Z R o (j - o) h (by omega)
    rwa [show o + (j - o) = j by omega] at this
  · rw [if_neg hc]
    rcases Nat.lt_or_ge j o with h1 | h1
    · unfold mid
      rw [List.append_assoc, gx_append_left _ _ _ (by simp; omega), gx_take _ _ _ h1]
    · exact row_gx Z R o j h (by omega)
theorem mid_sub (Z RR new : List Int) (o h : Nat) (ho : o + RR.length ≤ Z.length) (hn : h + new.length = RR.length) : mid (mid Z o RR) (o + h) new = mid Z o (RR.take h ++ new) := by
  have l1 := mid_length Z RR o ho
  have l2 : (RR.take h ++ new).length = RR.length := by simp; omega
  refine gx_ext _ _ (by rw [mid_length _ _ _ (by rw [l1]; omega), l1, mid_length _ _ _ (by rw [l2]; omega)]) fun j hj => ?_
  rw [gx_mid _ _ _ _ (by rw [l1]; omega), gx_mid _ _ _ _ ho, gx_mid _ _ _ _ (by rw [l2]; omega), l2]
  by_cases h1 : o + h ≤ j ∧ j < o + h + new.length
  · rw [if_pos h1, if_pos (by omega), gx_append_right _ _ _ (by simp; omega)]
    congr 1; simp; omega
  · rw [if_neg h1]
    by_cases h2 : o ≤ j ∧ j < o + RR.length
    · rw [if_pos h2, if_pos (by omega), gx_append_left _ _ _ (by simp; omega), gx_take _ _ _ (by omega)]
    · rw [if_neg h2, if_neg (by omega)]
theorem kara {xl xh yl yh P md : Int} (h : md + xl * yl + xh * yh = (xl + xh) * (yl + yh)) : xl * yl + P * P * (xh * yh) + P * md = (xl + P * xh) * (yl + P * yh) := by
  have e : md = xl * yh + xh * yl := by grind
  rw [e]; grind
theorem mid_drop_part (Z RR : List Int) (o h m : Nat) (ho : o + RR.length ≤ Z.length) (hm : h + m = RR.length) : ((mid Z o RR).drop (o + h)).take m = RR.drop h := by
  have l1 := mid_length Z RR o ho
  refine gx_ext _ _ (by simp [l1]; omega) fun j hj => ?_
  have hj' : j < m := by simp at hj; omega
  rw [gx_take _ _ _ hj', gx_drop, gx_drop, gx_mid _ _ _ _ ho, if_pos (by omega)]
  congr 1; omega
theorem no_carry {a b c P : Int} (h : a + P * c = b) (ha : 0 ≤ a) (hb : b < P) (hc0 : 0 ≤ c) (hc1 : c ≤ 1) : c = 0 := by
  rcases (show c = 0 ∨ c = 1 by omega) with e | e
  · exact e
  · subst e; omega
theorem no_lack {a b d c P : Int} (h : a + b = d + P * c) (ha : a < P) (hd : b ≤ d) (hc0 : 0 ≤ c) (hc1 : c ≤ 1) : c = 0 := by
  rcases (show c = 0 ∨ c = 1 by omega) with e | e
  · exact e
  · subst e; omega
theorem rd_take_part {w : World} {g o : Nat} {e : TypeId} {Z R : List Int} {j m : Nat} (h : Row w g e .u32 (mid Z o R)) (ho : o + R.length ≤ Z.length) (hm : j + m ≤ R.length) : Rd w (some ⟨g, o + j, none⟩) .u32 ((R.drop j).take m) := fun hx => by
  refine ⟨g, o + j, rfl, fun i hi => ?_⟩
  have hi' : i < m := by simp at hi; omega
  have := h.mid_cell ho (j + i) (by omega)
  rw [gx_take _ _ _ hi', gx_drop, Nat.add_assoc]; exact this
theorem mid_midK (Z R1 R2 : List Int) (o : Nat) (h : o + (R1.length + R2.length) ≤ Z.length) : mid (mid Z o R1) (o + R1.length) R2 = mid Z o (R1 ++ R2) := by
  have l1 := mid_length Z R1 o (by omega)
  refine gx_ext _ _ (by rw [mid_length _ _ _ (by rw [l1]; omega), l1, mid_length _ _ _ (by simp; omega)]) fun j hj => ?_
  rw [gx_mid _ _ _ _ (by rw [l1]; omega), gx_mid _ _ _ _ (by omega), gx_mid _ _ _ _ (by simp; omega), List.length_append]
  by_cases h1 : o + R1.length ≤ j ∧ j < o + R1.length + R2.length
  · rw [if_pos h1, if_pos (by omega), gx_append_right _ _ _ (by omega)]
    congr 1; omega
  · rw [if_neg h1]
    by_cases h2 : o ≤ j ∧ j < o + R1.length
    · rw [if_pos h2, if_pos (by omega), gx_append_left _ _ _ (by omega)]
    · rw [if_neg h2, if_neg (by omega)]
theorem u32_mid {Z R : List Int} {o : Nat} (hZ : U32 Z) (hR : U32 R) : U32 (mid Z o R) := u32_append (u32_append (u32_take hZ _) hR) (u32_drop hZ _)
end Go.Proofs.YtejnhpjejcpekaaGreatDoor
