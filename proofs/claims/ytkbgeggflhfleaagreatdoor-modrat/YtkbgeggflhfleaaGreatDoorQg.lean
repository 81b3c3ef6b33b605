/-
  limbs.quotient by two limbs and more; math/bits.LeadingZeros32; limbs.divide by rows.
-/
import Derived.Test.YtkbgeggflhfleaaGreatDoorQd
import Derived.Test.YtkbgeggflhfleaaGreatDoorRdLnWrIbWgUeUfWxM0
import Derived.Test.YtkbgeggflhfleaaGreatDoorWlBxBbCvNjUbUcUdOwRaWmBe
namespace Go.Proofs.YtkbgeggflhfleaaGreatDoor
open Go.RowKit
set_option linter.unusedVariables false
set_option linter.unusedSimpArgs false
set_option maxHeartbeats 8000000
theorem lz32_any (x : Int) (w : World) (h0 : 0 < x) (h1 : x < 4294967296) :
    Calls Tryz.prog 210 #[.int .u32 x] w fun e w' => ∃ s : Nat, e = .returned (.int .i64 (s : Int)) ∧ s ≤ 31 ∧ Hid (x < 2 ^ (32 - s)) ∧ w = w' := by
  have hib := bitLenAux_ib 64 x.toNat (by omega)
  have e : ((x.toNat : Nat) : Int) = x := by omega
  rw [e] at hib
  have hL : 1 ≤ Lib.bitLen x.toNat ∧ Lib.bitLen x.toNat ≤ 32 := by
    have hb : IB (Lib.bitLen x.toNat) x := hib
    refine ⟨?_, ?_⟩
    · rcases Nat.eq_zero_or_pos (Lib.bitLen x.toNat) with hz | hz
      · have h2 := hb.2.1
        rw [hz] at h2
        have e0 : (2 : Int) ^ 0 = 1 := rfl
        rw [e0] at h2; omega
      · exact hz
    · rcases Nat.lt_or_ge 32 (Lib.bitLen x.toNat) with hz | hz
      · exfalso
        rcases hb.2.2 with h2 | h2
        · omega
        · have h3 := p2_mono (show 32 ≤ Lib.bitLen x.toNat - 1 by omega)
          have e0 : (2 : Int) ^ 32 = 4294967296 := rfl
          omega
      · exact hz
  have HB : Hid (IB (Lib.bitLen x.toNat) x) := hib
  obtain ⟨hl0, hl1⟩ := hL
  have hl2 : ((Lib.bitLen x.toNat : Nat) : Int) ≤ 32 := by omega
  clear hib e
  go_enter Tryz.func210, Tryz.ntmps210
  go_wp2_with fail
  refine (Len32_any x _ (by omega) (by omega)).mono ?_
  rintro e w' ⟨rfl, rfl⟩
  go_wp2
  go_ret
  refine ⟨32 - Lib.bitLen x.toNat, ret_int (by omega), by omega, ?_, rfl⟩
  show x < 2 ^ (32 - (32 - Lib.bitLen x.toNat))
  rw [show 32 - (32 - Lib.bitLen x.toNat) = Lib.bitLen x.toNat by omega]
  exact HB.out.2.1
theorem divide_rows (gq gu b2 o2 k m vc ucap : Nat) (Q0 U vs : List Int) (w : World) (hk : k ≤ 1000000) (hm : m ≤ 1000000) (h80 : m + 2 < 80 ∨ k < 80) (hql : Q0.length = k) (hqu : U32 Q0) (hul : U.length = k + (m + 2)) (huu : U32 U) (hvl : vs.length = m + 2) (hV : U32 vs) (ht : gx vs (m + 1) ≠ 0)
    (hcap : ucap ≤ 100000000) (huc : k + (m + 2) ≤ ucap) (hQ : Row w gq 134 .u32 Q0) (hR : Row w gu 134 .u32 U) (hne : gq ≠ gu) (hY : Rd w (some ⟨b2, o2, none⟩) .u32 vs) (hn1 : b2 ≠ gq) (hn2 : b2 ≠ gu) (hhi : val (U.drop k) < val vs) :
    Calls Tryz.prog 212 #[.slice (some ⟨gq, 0, none⟩) k k, .slice (some ⟨gu, 0, none⟩) (k + (m + 2)) ucap, .slice (some ⟨b2, o2, none⟩) (m + 2) vc] w (DRPost gq gu k (m + 2) U vs w) := by
  have hd := divideRows_any gq gu b2 o2 k m vc ucap Q0 U vs w hk hm hql hqu hul huu hvl hV ht hcap huc hQ hR hne hY hn1 hn2 hhi
  clear hql hul hvl hhi
  by_cases hmm : m + 2 < 80
  · have h80I : (m : Int) + 2 < 80 := by omega
    clear h80 hmm
    go_enter Tryz.func212, Tryz.ntmps212
    go_wp2_with fail
    refine hd.mono ?_
    rintro e w' ⟨Q, R, rfl, h1, h2, h3, h4⟩
    go_wp2
    go_end0
    exact ⟨Q, R, rfl, h1, h2, h3, h4⟩
  · have h80I : ¬ (m : Int) + 2 < 80 := by omega
    have h80J : (k : Int) < 80 := by omega
    clear h80 hmm
    go_enter Tryz.func212, Tryz.ntmps212
    go_wp2_with fail
    refine hd.mono ?_
    rintro e w' ⟨Q, R, rfl, h1, h2, h3, h4⟩
    go_wp2
    go_end0
    exact ⟨Q, R, rfl, h1, h2, h3, h4⟩
def QPost (x y : Int) (n : Nat) (w : World) (e : Ending) (w' : World) : Prop :=
  ∃ qa qn qs ra rn rc rs, e = .returned (.tuple #[.slice qa qn qn, .slice ra rn rc]) ∧ QR w.heap.size w' qa qn qs ra rn rs x y n ∧ rn ≤ rc ∧ rc ≤ 100000000 ∧ Below w.heap.size w w'
theorem pw_lt_of {a b : Nat} (h : pw a < pw b) : a < b := by
  rcases Nat.lt_or_ge a b with hc | hc
  · exact hc
  · have := pw_mono hc; omega
theorem bnext3 {w a b c : World} (h1 : Below w.heap.size w a) (h2 : Below a.heap.size a b) (h3 : Below b.heap.size b c) : Below w.heap.size w c :=
  (h1.trans (h2.mono h1.size)).trans (h3.mono (Nat.le_trans h1.size h2.size))
structure SV (s k m n : Nat) (xs ys U V : List Int) : Prop where
  ul : U.length = k + (m + 2)
  vl : (V.take (m + 2)).length = m + 2
  vv : val (V.take (m + 2)) = 2 ^ s * val ys
  vt : gx (V.take (m + 2)) (m + 1) ≠ 0
  hi : val (U.drop k) < val (V.take (m + 2))
theorem sv_of {s k m n : Nat} {xs ys U V : List Int} (hs : s ≤ 31) (hk : k + (m + 2) = n + 1) (hU : U32 U) (hV : U32 V) (hX : U32 xs) (hY : U32 ys) (hul : U.length = n + 1) (hvl : V.length = m + 2 + 1) (hyl : ys.length = m + 2) (hxl : xs.length = n) (hyp : pw (m + 1) ≤ val ys)
    (hu : val U = 2 ^ s * val xs) (hv : val V = 2 ^ s * val ys) (htop : gx ys (m + 1) < 2 ^ (32 - s)) : SV s k m n xs ys U V := by
  have hP : (0 : Int) < 2 ^ s := Int.pow_pos (by decide)
  have hD : (0 : Int) < 2 ^ (32 - s) := Int.pow_pos (by decide)
  have hpm := pw_pos (m + 1)
  have hb := p2_split (show s ≤ 32 by omega)
  have hylt : val ys < pw (m + 1) * 2 ^ (32 - s) := by
    have e : val ys = val (ys.take (m + 1)) + pw (m + 1) * gx ys (m + 1) := by
      rw [← val_take_succ ys (m + 1) (by omega), List.take_of_length_le (by omega)]
    have h1 := val_lt (u32_take hY (m + 1))
    rw [List.length_take, Nat.min_eq_left (by omega)] at h1
    have h2 : pw (m + 1) * (gx ys (m + 1) + 1) ≤ pw (m + 1) * 2 ^ (32 - s) := Int.mul_le_mul_of_nonneg_left (by omega) (by omega)
    rw [Int.mul_add, Int.mul_one] at h2
    omega
  have hVlt : val V < pw (m + 2) := by
    rw [hv, pw_succ, ← hb]
    have h3 : 2 ^ s * val ys < 2 ^ s * (pw (m + 1) * 2 ^ (32 - s)) := Int.mul_lt_mul_of_pos_left hylt hP
    have h4 : (2 : Int) ^ s * (pw (m + 1) * 2 ^ (32 - s)) = 2 ^ s * 2 ^ (32 - s) * pw (m + 1) := by rw [Int.mul_assoc, Int.mul_comm (pw (m + 1))]
    omega
  obtain ⟨t1, t2⟩ := val_take_all hV (by omega) hVlt
  have hvv : val (V.take (m + 2)) = 2 ^ s * val ys := by rw [t1, hv]
  have hge : pw (m + 1) ≤ 2 ^ s * val ys := by
    have : 1 * val ys ≤ 2 ^ s * val ys := Int.mul_le_mul_of_nonneg_right (by omega) (by omega)
    omega
  have hvl' : (V.take (m + 2)).length = m + 2 := by simp; omega
  refine ⟨by omega, hvl', hvv, ?_, ?_⟩
  · intro h0
    have e : val (V.take (m + 2)) = val ((V.take (m + 2)).take (m + 1)) + pw (m + 1) * gx (V.take (m + 2)) (m + 1) := by
      rw [← val_take_succ _ (m + 1) (by omega), List.take_of_length_le (Nat.le_of_eq hvl')]
    have h1 := val_lt (u32_take (u32_take hV (m + 2)) (m + 1))
    rw [List.length_take, hvl', Nat.min_eq_left (by omega)] at h1
    rw [h0, Int.mul_zero, Int.add_zero] at e
    omega
  · rw [hvv]
    have e := val_drop_take U k (by omega)
    have h1 := val_nonneg (u32_take hU k)
    have h2 := val_lt hX
    rw [hxl, show n = k + (m + 1) by omega, pw_add] at h2
    have h3 : 2 ^ s * val xs < 2 ^ s * (pw k * pw (m + 1)) := Int.mul_lt_mul_of_pos_left h2 hP
    have h4 : (2 : Int) ^ s * (pw k * pw (m + 1)) = pw k * (2 ^ s * pw (m + 1)) := Int.mul_left_comm ..
    have h5 : pw k * val (U.drop k) < pw k * (2 ^ s * pw (m + 1)) := by omega
    have h6 := Int.lt_of_mul_lt_mul_left h5 (Int.le_of_lt (pw_pos k))
    have h7 : 2 ^ s * pw (m + 1) ≤ 2 ^ s * val ys := Int.mul_le_mul_of_nonneg_left hyp (Int.le_of_lt hP)
    omega
theorem back_of {s : Nat} {z r rem : Int} (h : 2 ^ s * r = 2 ^ s * z - rem) (h0 : 0 ≤ rem) (h1 : rem < 2 ^ s) : r = z := by
  have hP : (0 : Int) < 2 ^ s := Int.pow_pos (by decide)
  rcases Int.lt_trichotomy r z with hc | hc | hc
  · have : 2 ^ s * (r + 1) ≤ 2 ^ s * z := Int.mul_le_mul_of_nonneg_left (by omega) (Int.le_of_lt hP)
    rw [Int.mul_add, Int.mul_one] at this
    omega
  · exact hc
  · have : 2 ^ s * (z + 1) ≤ 2 ^ s * r := Int.mul_le_mul_of_nonneg_left (by omega) (Int.le_of_lt hP)
    rw [Int.mul_add, Int.mul_one] at this
    omega
set_option maxRecDepth 100000 in
theorem quotient_many (p q : Option Addr) (n nc m mc : Nat) (xs ys : List Int) (w : World) (hA : AI w p n nc xs) (hB : AI w q (m + 2) mc ys) (hn : n ≤ 100000) (h80 : m + 2 < 80 ∨ n + 1 < 80 + (m + 2)) (ht : gx ys (m + 1) ≠ 0) (hle : val ys ≤ val xs) :
    Calls Tryz.prog 170 #[.slice p n nc, .slice q (m + 2) mc] w (QPost (val xs) (val ys) n w) := by
  have hic : ¬ icmp (val xs) (val ys) < 0 := by
    rw [icmp, if_neg (by omega)]; split <;> decide
  have hyl := hB.len
  have hxl := hA.len
  have hyt : tlen ys = m + 2 := tlen_eq ys (m + 2) (gx_past ys (m + 2) (by omega)) (.inr (by simpa using ht))
  have hyp : pw (m + 1) ≤ val ys := by
    have := val_pos_of_top hB.u (by omega)
    rwa [hyt] at this
  have hnm : m + 2 ≤ n := by
    have h1 := val_lt hA.u
    rw [hxl] at h1
    have := pw_lt_of (show pw (m + 1) < pw n by omega)
    omega
  have HY : Hid (ys.length = m + 2 ∧ xs.length = n ∧ pw (m + 1) ≤ val ys) := ⟨hyl, hxl, hyp⟩
  have h1n : ((m : Int) + 2 == 1) = false := beq_eq_false_iff_ne.2 (by omega)
  obtain ⟨y0, y1⟩ := hB.u (m + 1)
  have htp : 0 < gx ys (m + 1) := by omega
  clear hyl hxl hyt hyp
  go_enter Tryz.func170, Tryz.ntmps170
  go_wp2_with fail
  refine (compare_any p q n nc (m + 2) mc xs ys _ hA.len hB.len hA.cap hA.bnd hB.cap hB.bnd hA.rd hA.u hB.rd hB.u).mono ?_
  rintro e w1 ⟨rfl, hb1⟩
  have hA1 := hA.below hb1
  have hB1 := hB.below hb1
  obtain ⟨b, off, rfl, hcell⟩ := hB1.rd (by have := HY.out; omega)
  have hc1 := hcell (m + 1) (by have := HY.out; omega)
  clear hcell
  go_wp2_with fail
  refine (lz32_any (gx ys (m + 1)) _ htp y1).mono ?_
  rintro e w1' ⟨s, rfl, hs, HS, rfl⟩
  obtain ⟨k, hk⟩ : ∃ k, k + (m + 2) = n + 1 := ⟨n - (m + 1), by omega⟩
  have hmk := mk_u32 k (by omega)
  have ec : ((k : Nat) : Int) = (n : Int) + 1 - ((m : Int) + 2) := by omega
  rw [ec] at hmk
  have HK : Hid (k + (m + 2) = n + 1) := hk
  clear ec hk
  have hsl : (m : Int) + 2 ≤ (m : Int) + 2 + 1 := by omega
  have hnmI : (m : Int) + 2 ≤ (n : Int) + 1 := by omega
  go_wp2_with fail
  go_region_with (first
      | (go_at_call_of 211 (Value.slice p n nc); refine (shiftUp_any p n nc s xs _ HY.out.2.1 (by omega) hs hA1.rd.drew hA.u).mono ?_; rintro e w2 ⟨U, rfl, u1, u2, u3, u4, hb2⟩; have HU : Hid (U.length = n + 1) := u1; clear u1)
      | (go_at_call 211; refine (shiftUp_any (some ⟨b, off, none⟩) (m + 2) mc s ys _ HY.out.1 (by omega) hs (hB1.rd.drew.below hb2) hB.u).mono ?_; rintro e w3 ⟨V, rfl, v1, v2, v3, v4, hb3⟩; have HV : Hid (V.length = m + 2 + 1) := v1; clear v1))
  go_wp2_with fail
  have hW1 := undrew hb2
  have hSV := sv_of hs HK.out u2 v2 hA.u hB.u HU.out HV.out HY.out.1 HY.out.2.1 HY.out.2.2 u3.out v3.out HS.out
  have hUr := u4.below hb3 u4.lt
  have s1 := hW1.size
  have s2 := hb3.size
  have s3 := u4.lt
  have s4 := v4.lt
  have e1 : w1.drew.heap.size = w1.heap.size := rfl
  rw [e1] at s3
  have hdv := divide_rows w3.heap.size w1.heap.size w2.heap.size 0 k m (m + 2 + 1) (n + 1) (zeros k) U (V.take (m + 2)) (w3.alloc (.cells (ca .u32 (zeros k)) 134)) (by have := HK.out; omega) (by omega) (by have := HK.out; omega) (length_zeros k) (u32_zeros k) hSV.ul u2 hSV.vl (u32_take v2 _) hSV.vt (by omega) (by have := HK.out; omega) (Row.new w3 _ _ _) (hUr.alloc _) (by omega) ((v4.rd_take (m + 2)).alloc _) (by omega) (by omega) hSV.hi
  rw [HK.out] at hdv
  refine hdv.mono ?_
  clear hdv
  rintro e w4 ⟨Q, R, rfl, hDR, hrq, hrr, hgr⟩
  have hb4 : Below w.heap.size w (w3.alloc (.cells (ca .u32 (zeros k)) 134)) := (bnext3 hb1 hW1 hb3).alloc (by have := hb1.size; omega) _
  have hb5 : Below w.heap.size w w4 := hb4.trans (hgr.below (by have := hb1.size; omega) hb1.size (by simp; have := hb1.size; omega))
  have HE : Hid (SV s k m n xs ys U V ∧ DR U (V.take (m + 2)) Q R k (m + 2) 0 ∧ Row w4 w3.heap.size 134 .u32 Q ∧ Row w4 w1.heap.size 134 .u32 R ∧ Below w.heap.size w w4 ∧ w.heap.size ≤ w1.heap.size ∧ w1.heap.size < w3.heap.size ∧ val U = 2 ^ s * val xs) := ⟨hSV, hDR, hrq, hrr, hb5, hb1.size, by omega, u3.out⟩
  have HV2 : Hid (U32 V) := v2
  clear hSV hDR hrq hrr hgr hb4 hb5 hUr u4 v4 hb2 hb3 hW1 s1 s2 s3 s4 e1 u2 v2 u3 v3 HU HV
  go_wp2_with fail
  obtain ⟨hSV, hDR, hrq, hrr, hb5, f1, f2, hu⟩ := HE.out
  have hRl := hDR.rl
  have hk := HK.out
  have hm0 : mid R 0 (R.take (m + 2)) = R := by
    have := mid_self R 0 (m + 2) (by omega)
    rwa [List.drop_zero] at this
  refine (shiftDown_any w1.heap.size 0 (n + 1) (m + 2) s R (R.take (m + 2)) w4 (by omega) (by omega) (by omega) hs (by simp; omega) (by rw [hm0]; exact hrr) (u32_take hDR.ru _)).mono ?_
  rintro e w5 ⟨R', rfl, r1, r2, r3, r4, r5⟩
  have HF : Hid (R'.length = m + 2 ∧ U32 R' ∧ 2 ^ s * val R' = val (R.take (m + 2)) - gx (R.take (m + 2)) 0 % 2 ^ s ∧ Row w5 w1.heap.size 134 .u32 (mid R 0 R') ∧ Row w5 w3.heap.size 134 .u32 Q ∧ Below w.heap.size w w5) :=
    ⟨r1, r2, r3, r4, hrq.kept r5 (fun e => by have := Option.some.inj e; omega), below_grown hb5 r5 hb5.size f1⟩
  clear hSV hDR hrq hrr hb5 f1 f2 hu hRl hk hm0 r1 r2 r3 r4 r5
  go_wp2
  go_ret2
  obtain ⟨hSV, hDR, hrq, hrr, hb5, f1, f2, hu⟩ := HE.out
  obtain ⟨r1, r2, r3, r4, r5, r6⟩ := HF.out
  have hk := HK.out
  have hRl := hDR.rl
  have hP : (0 : Int) < 2 ^ s := Int.pow_pos (by decide)
  have hhi := hDR.hi
  rw [List.drop_zero] at hhi
  have hvlt := val_lt (u32_take (xs := V) (by exact HV2.out) (m + 2))
  rw [hSV.vl] at hvlt
  obtain ⟨t1, t2⟩ := val_take_all hDR.ru (by omega) (show val R < pw (m + 2) by omega)
  have heq := hDR.eq
  rw [pw_zero, Int.one_mul, List.drop_zero, hSV.vv, hu] at heq
  have hz : val R = 2 ^ s * (val xs - val Q * val ys) := by
    rw [Int.mul_sub]
    have : val Q * (2 ^ s * val ys) = 2 ^ s * (val Q * val ys) := Int.mul_left_comm ..
    omega
  rw [t1, hz] at r3
  have hback := back_of r3 (Int.emod_nonneg _ (by omega)) (Int.emod_lt_of_pos _ hP)
  have hzlt : val xs - val Q * val ys < val ys := by
    rw [hz, hSV.vv] at hhi
    exact Int.lt_of_mul_lt_mul_left hhi (Int.le_of_lt hP)
  have hpart := mid_part R R' 0 (by omega)
  have hrd := r4.rd 0 (m + 2) (by rw [mid_length _ _ _ (by omega)]; omega)
  rw [← r1, hpart] at hrd
  refine ⟨some ⟨w3.heap.size, 0, none⟩, k, Q, some ⟨w1.heap.size, 0, none⟩, m + 2, n + 1, R', rfl, ⟨hDR.ql, r5.rd_all, hDR.qu, from_new (by omega), r1, hrd, r2, from_new f1, by rw [hback]; omega, by rw [hback]; exact hzlt, by omega, by omega, ⟨w1.heap.size, mid R 0 R', rfl, r4, by have := hpart; rw [List.drop_zero, r1] at this; exact this, u32_append (u32_append (u32_take hDR.ru _) r2) (u32_drop hDR.ru _)⟩, r5.fz 0, r4.fz 0⟩, by omega, by omega, r6⟩
end Go.Proofs.YtkbgeggflhfleaaGreatDoor
