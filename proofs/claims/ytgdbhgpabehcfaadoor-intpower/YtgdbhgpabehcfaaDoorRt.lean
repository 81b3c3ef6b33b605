/-
  ashlarref1.Bits, and that it is limbs.Bits' number.
-/
import Derived.Test.YtgdbhgpabehcfaaDoorIb
namespace Go.Proofs.YtgdbhgpabehcfaaDoor
open Go.RowKit
set_option linter.unusedVariables false
set_option linter.unusedSimpArgs false

set_option maxHeartbeats 1000000 in
/-- ashlarref1.Bits. -/
theorem rBits_any (s : Bool) (p : Option Addr) (n nc : Nat) (ds : List Int) (w : World) (hl : ds.length = n) (hs : n ≤ 1000000) (ht : tlen ds = n) (hX : Rd w p .i64 ds) (hU : U16 ds) :
    Calls Tryd.prog 15 #[.agg #[.bool s, .slice p n nc]] w fun e w' => ∃ b : Nat, e = .returned (.int .i64 (b : Int)) ∧ Hid (IB b (vd ds)) ∧ Below w.heap.size w w' := by
  rcases Nat.eq_zero_or_pos n with h0 | h0
  · subst h0
    obtain rfl : ds = [] := List.eq_nil_of_length_eq_zero hl
    go_enter Tryd.func15, Tryd.ntmps15
    go_wp2
    go_ret
    exact ⟨0, rfl, ⟨by decide, by decide, .inl rfl⟩, (Below.refl _ _).alloc (Nat.le_refl _) _⟩
  · obtain ⟨j, rfl⟩ : ∃ j, n = j + 1 := ⟨n - 1, by omega⟩
    have HL : Hid (ds.length = j + 1 ∧ tlen ds = j + 1) := ⟨hl, ht⟩
    obtain ⟨b, off, rfl, hc⟩ := (hX.alloc (.cells #[.bool s, .slice p (j + 1) nc] 29)) (by omega)
    have hcj := hc j (by omega)
    obtain ⟨b0, b1⟩ := hU j
    clear hc hl ht
    have hz : (((j + 1 : Nat) : Int) == 0) = false := beq_eq_false_iff_ne.2 (by omega)
    have hz' : ((j : Int) + 1 == 0) = false := beq_eq_false_iff_ne.2 (by omega)
    go_enter Tryd.func15, Tryd.ntmps15
    go_wp2
    go_loop [4, 5] (fun kv tv => ∃ (k : Nat) (t : Int), kv = .int .i64 k ∧ tv = .int .i64 t ∧ 0 ≤ t ∧ t < 65536 ∧ k ≤ 16 ∧ Hid (t = gx ds j / 2 ^ k ∧ (k = 0 ∨ (2 : Int) ^ (k - 1) ≤ gx ds j))) (fun _ tv => (intOf tv).toNat)
    case atStart => exact ⟨0, gx ds j, rfl, rfl, b0, b1, by decide, by simp, .inl rfl⟩
    case round =>
      obtain ⟨k, t, rfl, rfl, t0, t1, hk, H⟩ := hrel
      have hp : (0 : Int) < 2 ^ k := Int.pow_pos (by decide)
      have hdm := Int.emod_add_mul_ediv (gx ds j) (2 ^ k)
      have hm0 := Int.emod_nonneg (gx ds j) (show (2 : Int) ^ k ≠ 0 by omega)
      have hm1 := Int.emod_lt_of_pos (gx ds j) hp
      have HD : Hid (gx ds j % 2 ^ k + 2 ^ k * (gx ds j / 2 ^ k) = gx ds j ∧ 0 ≤ gx ds j % 2 ^ k ∧ gx ds j % 2 ^ k < 2 ^ k ∧ (0 : Int) < 2 ^ k) := ⟨hdm, hm0, hm1, hp⟩
      clear hp hdm hm0 hm1
      by_cases ht : 0 < t
      · have q1 : t.tdiv 2 = t / 2 := Int.tdiv_eq_ediv_of_nonneg t0
        have hge : Hid ((2 : Int) ^ k ≤ gx ds j) := by
          obtain ⟨e1, e2, e3, e4⟩ := HD.out
          have e5 := H.out.1
          have : (2 : Int) ^ k * 1 ≤ 2 ^ k * (gx ds j / 2 ^ k) := Int.mul_le_mul_of_nonneg_left (by omega) (by omega)
          show _ ≤ _
          omega
        have hk15 : k + 1 ≤ 16 := by
          rcases Nat.lt_or_ge k 16 with h | h
          · omega
          · exfalso
            have h2 := p2_mono h
            have h3 := hge.out
            have h4 : (2 : Int) ^ 16 = 65536 := rfl
            omega
        go_wp2
        go_round
        case rel =>
          refine ⟨k + 1, t / 2, by go_num, rfl, by omega, by omega, hk15, ?_, .inr (by rw [Nat.add_sub_cancel]; exact hge.out)⟩
          rw [H.out.1, Int.ediv_ediv_of_nonneg (Int.le_of_lt HD.out.2.2.2), Int.pow_succ]
        case measure => simp [intOf]; omega
      · obtain rfl : t = 0 := by omega
        go_wp2
        go_ret
        refine ⟨16 * j + k, by go_num, ?_, (Below.refl _ _).alloc (Nat.le_refl _) _⟩
        have hL := HL.out
        have hib : IB k (gx ds (ds.length - 1)) := by
          rw [hL.1, Nat.add_sub_cancel]
          refine ⟨b0, ?_, H.out.2⟩
          obtain ⟨e1, e2, e3, e4⟩ := HD.out
          have e5 := H.out.1
          rw [← e5, Int.mul_zero] at e1
          omega
        have := digits_ib hU (by omega) (by omega) hib
        rw [hL.1, Nat.add_sub_cancel] at this
        exact this
theorem vd_val {s t : Bool} {ds xs : List Int} (h : rval s ds = ival t xs) (hd : U16 ds) (hx : U32 xs) : vd ds = val xs := by
  have h1 := vd_nonneg hd
  have h2 := val_nonneg hx
  cases s <;> cases t <;> simp [rval, ival] at h <;> omega
/-- Both tell the same. -/
theorem bits_same {xs ds : List Int} {b : Nat} (h : U32 xs) (hv : vd ds = val xs) (hb : IB b (vd ds)) : nbits xs = (b : Int) := by
  obtain ⟨c, hc, hI⟩ := nbits_ib h
  rw [hc, hb.uniq (hv ▸ hI)]
end Go.Proofs.YtgdbhgpabehcfaaDoor
