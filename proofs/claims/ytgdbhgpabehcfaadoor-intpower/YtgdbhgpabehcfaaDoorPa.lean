/-
  math/bits.Len off the shelf; limbs.power.
-/
import Derived.Test.YtgdbhgpabehcfaaDoorKa
import Derived.Test.YtgdbhgpabehcfaaDoorIb
namespace Go.Proofs.YtgdbhgpabehcfaaDoor
open Go.RowKit
open Go.Shelf
set_option linter.unusedVariables false
set_option linter.unusedSimpArgs false

def renLen : Go.Shelf.Ren := ⟨fun | 125 => 63 | 128 => 54 | 129 => 89 | n => n, fun | 3 => 3 | 4 => 4 | 5 => 5 | 9 => 9 | 46 => 94 | 51 => 56 | 53 => 78 | n => n, fun n => n⟩
theorem laysLen : Lays.n125 Tryd.prog renLen :=
  { mixed := by kernel_rfl
    f125 := by kernel_rfl
    f128 := by kernel_rfl
    f129 := by kernel_rfl
    t3 := by kernel_rfl
    a3 := fun _ => by kernel_rfl
    z3 := fun _ => by kernel_rfl
    v3 := fun _ => by kernel_rfl
    t4 := by kernel_rfl
    a4 := fun _ => by kernel_rfl
    z4 := fun _ => by kernel_rfl
    v4 := fun _ => by kernel_rfl
    t5 := by kernel_rfl
    a5 := fun _ => by kernel_rfl
    z5 := fun _ => by kernel_rfl
    v5 := fun _ => by kernel_rfl
    t9 := by kernel_rfl
    a9 := fun _ => by kernel_rfl
    z9 := fun _ => by kernel_rfl
    v9 := fun _ => by kernel_rfl
    t46 := by kernel_rfl
    a46 := fun _ => by kernel_rfl
    z46 := fun _ => by kernel_rfl
    v46 := fun _ => by kernel_rfl
    t51 := by kernel_rfl
    a51 := fun _ => by kernel_rfl
    z51 := fun _ => by kernel_rfl
    v51 := fun _ => by kernel_rfl
    t53 := by kernel_rfl
    a53 := fun _ => by kernel_rfl
    z53 := fun _ => by kernel_rfl
    v53 := fun _ => by kernel_rfl }
theorem Len_any (x : Int) (w : World) (h0 : 0 ≤ x) (h1 : x ≤ 18446744073709551615) :
    Calls Tryd.prog 63 #[.int .u64 x] w fun e w' => e = .returned (.int .i64 (Lib.bitLen x.toNat)) ∧ w' = w := Any.bits_Len laysLen x w h0 h1

/-- What power leaves. -/
def PwPost (V : Int) (w : World) (e : Ending) (w' : World) : Prop :=
  ∃ p m mc zs, e = .returned (.slice p m mc) ∧ Rd w' p .u32 zs ∧ U32 zs ∧ zs.length = m ∧ m ≤ mc ∧ mc ≤ 1099511627776 ∧ m ≤ 32769 ∧ val zs = V ∧ From w.heap.size p ∧ Below w.heap.size w w'
/-- A power of few bits has few limbs. -/
theorem few {zs : List Int} {X : Int} {k m e : Nat} (hU : U32 zs) (hv : val zs = X ^ m) (hX0 : 0 ≤ X) (hX : X < 2 ^ k) (hm : m ≤ e) (hk : k * e ≤ 1048576) : tlen zs ≤ 32769 := by
  rcases Nat.lt_or_ge (tlen zs) 32770 with h | h
  · omega
  · exfalso
    have h1 := val_pos_of_top hU (show 0 < tlen zs by omega)
    have h2 : pw 32769 ≤ pw (tlen zs - 1) := pw_mono (by omega)
    have h3 : X ^ m ≤ (2 ^ k) ^ m := by
      clear hv h1 hm
      induction m with
      | zero => simp
      | succ m ih =>
        rw [Int.pow_succ, Int.pow_succ]
        have a1 : (0 : Int) ≤ X ^ m := Int.pow_nonneg hX0
        exact Int.mul_le_mul ih (by omega) hX0 (Int.pow_nonneg (Int.pow_nonneg (by decide)))
    rw [← Int.pow_mul] at h3
    have h4 : k * m ≤ 1048576 := Nat.le_trans (Nat.mul_le_mul_left k hm) hk
    have h5 := p2_mono h4
    have h6 : pw 32769 = 2 ^ (32 * 32769) := by rw [pw, Int.pow_mul, show (2 : Int) ^ 32 = 4294967296 from rfl]
    rw [h6] at h2
    have h7 : (2 : Int) ^ 1048576 < 2 ^ (32 * 32769) := by
      rw [show 32 * 32769 = 1048576 + 32 from rfl, Int.pow_add]
      have : (0 : Int) < 2 ^ 1048576 := Int.pow_pos (by decide)
      omega
    rw [hv] at h1
    omega

theorem and1_i64 (i : Nat) (hi : i < 9223372036854775808) : bits BinOp.and IntKind.i64 (i : Int) 1 = ((i % 2 : Nat) : Int) := by
  have h2 : (2 : Int) ^ 63 = 9223372036854775808 := by decide
  have h := bits_mask .i64 63 (by decide) (fun n h0 h1 => by rw [h2] at h1; rw [IntKind.wrap_i64]; omega) 1 (by decide) (i : Int) (by omega) (by rw [h2]; omega)
  rw [show ((2 : Int) ^ 1 - 1) = 1 by decide] at h
  rw [h]
  omega
theorem bit_of (e t : Nat) (he : e ≤ 1048576) : bits BinOp.and IntKind.i64 ((e : Int) / 2 ^ t) 1 = ((e / 2 ^ t % 2 : Nat) : Int) := by
  rw [← and1_i64 _ (by have := Nat.div_le_self e (2 ^ t); omega)]
  simp
/-- One bit of the exponent. -/
theorem bit_step (e j : Nat) : e / 2 ^ j = 2 * (e / 2 ^ (j + 1)) + e / 2 ^ j % 2 := by
  rw [Nat.pow_succ, ← Nat.div_div_eq_div_mul]; omega

theorem top_bit {b e : Nat} (h1 : 1 ≤ b) (h : IB b e) : e / 2 ^ (b - 1) = 1 := by
  obtain ⟨h2, h3, h4⟩ := h
  obtain ⟨c, rfl⟩ : ∃ c, b = c + 1 := ⟨b - 1, by omega⟩
  rw [Nat.add_sub_cancel] at h4 ⊢
  have e1 : ((2 ^ c : Nat) : Int) = (2 : Int) ^ c := by simp
  rw [← e1] at h4
  rw [Int.pow_succ, ← e1] at h3
  have hp : 0 < 2 ^ c := Nat.pow_pos (by decide)
  refine Nat.div_eq_of_lt_le ?_ ?_ <;> omega

set_option maxRecDepth 100000 in
set_option maxHeartbeats 2000000 in
/-- limbs.power. -/
theorem power_any (q : Option Addr) (n nc k e : Nat) (xs : List Int) (w : World) (hA : AI w q n nc xs) (hn : n < 80) (hX : val xs < 2 ^ k) (he : 1 ≤ e) (he' : e ≤ 1048576) (hk : k * e ≤ 1048576) :
    Calls Tryd.prog 39 #[.slice q n nc, .int .i64 e] w (PwPost (val xs ^ e) w) := by
  have hl := hA.len
  go_enter Tryd.func39, Tryd.ntmps39
  go_wp2_with fail
  refine (clone_any q n nc xs _ hA.len (by omega) hA.rd).mono ?_
  rintro e w' ⟨rfl, rfl⟩
  have hbl := bitLenAux_ib 64 e (by omega)
  obtain ⟨b, hb⟩ : ∃ b, b = Lib.bitLen e := ⟨_, rfl⟩
  have hbl : IB b e := hb ▸ hbl
  have hb1 : 1 ≤ b := by
    rcases Nat.eq_zero_or_pos b with h | h
    · subst h; have := hbl.2.1; simp at this; omega
    · exact h
  have hb2 : b ≤ 21 := by
    rcases Nat.lt_or_ge b 22 with h | h
    · omega
    · have h1 := hbl.2.2
      have h2 := p2_mono (show 21 ≤ b - 1 by omega)
      rw [show (2 : Int) ^ 21 = 2097152 by decide] at h2
      omega
  have HB : Hid (e / 2 ^ (b - 1) = 1) := top_bit hb1 hbl
  clear hbl
  go_wp2_with (go_at_call 63; refine (Len_any (e : Int) _ (by omega) (by omega)).mono ?_; rw [Int.toNat_natCast, ← hb]; clear hb; rintro e w' ⟨rfl, rfl⟩)
  go_loopw [5, 6] (fun zv iv wr => ∃ (j : Nat) (p : Option Addr) (m mc : Nat) (ys : List Int), j ≤ 21 ∧ iv = .int .i64 ((j : Int) - 1) ∧ zv = .slice p m mc ∧ m ≤ 32769 ∧ m ≤ mc ∧ mc ≤ 1099511627776 ∧ Hid (ys.length = m ∧ U32 ys ∧ val ys = val xs ^ (e / 2 ^ j) ∧ Rd wr p .u32 ys ∧ From w.heap.size p ∧ Below w.heap.size w wr))
    (fun _ iv _ => (intOf iv + 1).toNat)
  case atStart =>
    have hR := Row.new w 56 .u32 xs
    refine ⟨b - 1, _, n, n, xs, by omega, ?_, rfl, by omega, Nat.le_refl _, by omega, hl, hA.u, by rw [HB.out, Int.pow_one], hR.rd_all, fun a ha => by cases ha; exact Nat.le_refl _, (Below.refl _ _).alloc (Nat.le_refl _) _⟩
    congr 1; omega
  case round =>
    obtain ⟨j, p, m, mc, ys, hj, rfl, rfl, hm, hmc, hmc', H⟩ := hrel
    by_cases h0 : j = 0
    · subst h0
      go_wp2
      go_ret
      obtain ⟨a1, a2, a3, a4, a5, a6⟩ := H.out
      rw [Nat.pow_zero, Nat.div_one] at a3
      exact ⟨p, m, mc, ys, rfl, a4, a2, a1, hmc, hmc', hm, a3, a5, a6⟩
    · obtain ⟨t, rfl⟩ : ∃ t, j = t + 1 := ⟨j - 1, by omega⟩
      have ej : ((t + 1 : Nat) : Int) - 1 = (t : Int) := by omega
      rw [ej]
      clear ej
      have hM := multiply_eq m (by omega)
      have hpr := product_eq m hM p p mc mc ys ys wr (by omega) H.out.1 H.out.1 hmc hmc' hmc hmc' H.out.2.2.2.1 H.out.2.1 H.out.2.2.2.1 H.out.2.1
      clear hM
      go_wp2_with fail
      refine hpr.mono ?_
      rintro e1 w1 ⟨R, rfl, r1, r2, r3, r4, r5⟩
      clear hpr
      have hrd : Rd w1 (some ⟨wr.heap.size, 0, none⟩) .u32 R := r4.rd_all
      have hv1 : val R = val xs ^ (2 * (e / 2 ^ (t + 1))) := by
        rw [r3, H.out.2.2.1, ← Int.pow_add, Nat.two_mul]
      have hle : 2 * (e / 2 ^ (t + 1)) ≤ e := by
        have := bit_step e t
        have := Nat.div_le_self e (2 ^ t)
        omega
      have hf := few r2 hv1 (val_nonneg hA.u) hX hle hk
      have htr := trim_any (some ⟨wr.heap.size, 0, none⟩) (m + m) (m + m) R w1 r1 (Nat.le_refl _) (by simp [maxLen]; omega) hrd
      have H1 : Hid (R.length = m + m ∧ U32 R ∧ val R = val xs ^ (2 * (e / 2 ^ (t + 1))) ∧ Rd w1 (some ⟨wr.heap.size, 0, none⟩) .u32 R ∧ Below wr.heap.size wr w1) := ⟨r1, r2, hv1, hrd, r5⟩
      clear r1 r2 r3 r4 r5 hv1 hle hrd
      go_wp2_with fail
      refine htr.mono ?_
      clear htr
      rintro e1 w2 ⟨rfl, rfl⟩
      have hbit := bit_of e t he'
      have hst := bit_step e t
      have H2 : Hid (e / 2 ^ t = 2 * (e / 2 ^ (t + 1)) + e / 2 ^ t % 2) := hst
      clear hst
      rcases Nat.mod_two_eq_zero_or_one (e / 2 ^ t) with hb | hb
      · rw [hb] at hbit
        have hq : (bits BinOp.and IntKind.i64 ((e : Int) / 2 ^ t) 1 == 1) = false := by rw [hbit]; rfl
        have H3 : Hid (e / 2 ^ t % 2 = 0) := hb
        clear hbit hb
        go_wp2
        obtain ⟨b1, b2, b3, b4, b5⟩ := H1.out
        obtain ⟨a1, a2, a3, a4, a5, a6⟩ := H.out
        refine ⟨⟨t, _, _, _, tr R, by omega, rfl, rfl, hf, by have := tlen_le R; omega, by omega, length_tr R, u32_tr b2, ?_, b4.tr, fun a ha => ?_, a6.trans (b5.mono a6.size)⟩, by simp [intOf]⟩
        · rw [val_tr, b3, H2.out, H3.out]; rfl
        · cases ha; exact a6.size
      · rw [hb] at hbit
        have hq : (bits BinOp.and IntKind.i64 ((e : Int) / 2 ^ t) 1 == 1) = true := by rw [hbit]; rfl
        have H3 : Hid (e / 2 ^ t % 2 = 1) := hb
        clear hbit hb
        have hA1 := hA.below (H.out.2.2.2.2.2.trans (H1.out.2.2.2.2.mono H.out.2.2.2.2.2.size))
        have hpr := product_small (some ⟨wr.heap.size, 0, none⟩) q (tlen R) (m + m) n nc (tr R) xs w1 (by omega) (by omega) (length_tr R) hl H1.out.2.2.2.1.tr (u32_tr H1.out.2.1) hA1.rd hA1.u (.inr hn)
        clear hA1
        go_wp2_with fail
        refine hpr.mono ?_
        rintro e1 w2 ⟨T, rfl, r1, r2, r3, r4, r5⟩
        clear hpr
        have hrd : Rd w2 (some ⟨w1.heap.size, 0, none⟩) .u32 T := r4.rd_all
        have hv1 : val T = val xs ^ (e / 2 ^ t) := by
          rw [r3, val_tr, H1.out.2.2.1, H2.out, H3.out, Int.pow_succ]
        have hf := few r2 hv1 (val_nonneg hA.u) hX (Nat.div_le_self e (2 ^ t)) hk
        have htr := trim_any (some ⟨w1.heap.size, 0, none⟩) (tlen R + n) (tlen R + n) T w2 r1 (Nat.le_refl _) (by simp [maxLen]; omega) hrd
        have H4 : Hid (T.length = tlen R + n ∧ U32 T ∧ val T = val xs ^ (e / 2 ^ t) ∧ Rd w2 (some ⟨w1.heap.size, 0, none⟩) .u32 T ∧ Below w1.heap.size w1 w2) := ⟨r1, r2, hv1, hrd, r5⟩
        clear r1 r2 r3 r4 r5 hv1 hrd
        go_wp2_with fail
        refine htr.mono ?_
        clear htr
        rintro e1 w2 ⟨rfl, rfl⟩
        go_wp2
        obtain ⟨b1, b2, b3, b4, b5⟩ := H1.out
        obtain ⟨c1, c2, c3, c4, c5⟩ := H4.out
        obtain ⟨a1, a2, a3, a4, a5, a6⟩ := H.out
        have hs1 := a6.size
        have hs2 := b5.size
        refine ⟨⟨t, _, _, _, tr T, by omega, rfl, rfl, hf, by have := tlen_le T; omega, by omega, length_tr T, u32_tr c2, ?_, c4.tr, fun a ha => ?_, (a6.trans (b5.mono hs1)).trans (c5.mono (by omega))⟩, by simp [intOf]⟩
        · rw [val_tr, c3]
        · cases ha; exact Nat.le_trans hs1 hs2
end Go.Proofs.YtgdbhgpabehcfaaDoor
