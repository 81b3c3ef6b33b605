/-
  modular.Rat, ashlarref11.Inverse, ashlarref11.Mod; ModRat's walk.
-/
import Derived.Test.YtkbgeggflhfleaaGreatDoorGgWfZbVgDeC4
import Derived.Test.YtkbgeggflhfleaaGreatDoorZcZdZs
import Derived.Test.YtkbgeggflhfleaaGreatDoorCuZjReRxRfRh
import Derived.Test.YtkbgeggflhfleaaGreatDoorRrRmRpYdRzCwYhRc
namespace Go.Proofs.YtkbgeggflhfleaaGreatDoor.Rs
open Go.RowKit Go.Proofs.YtkbgeggflhfleaaGreatDoor
set_option linter.unusedVariables false
set_option linter.unusedSimpArgs false
set_option maxHeartbeats 8000000
theorem rto_spec {m : Nat} (hp : Mr.Pr m) {z y : Int} (h : y % (m : Int) ≠ 0) : (m : Int) ∣ rto m z y * y - z := by
  obtain ⟨i1, i2, i3⟩ := inv_facts hp h
  have e : rto m z y = (z % (m : Int)) * rto m 1 y % (m : Int) := by
    unfold rto
    rw [if_neg h, if_neg h]
    have e1 : (1 : Int) % (m : Int) = 1 := Int.emod_eq_of_lt (by omega) (by have := hp.1; omega)
    rw [e1, Int.one_mul, Int.emod_emod]
  generalize rto m 1 y = I at *
  have h1 : (rto m z y * y - z) % (m : Int) = 0 := by
    rw [e, Int.sub_emod, Int.mul_emod, Int.emod_emod, ← Int.mul_emod, Int.mul_assoc, Int.mul_emod, Int.emod_emod]
    have h2 : I * y % (m : Int) = 1 := by
      rw [Int.mul_comm, Int.mul_emod, Int.emod_eq_of_lt (a := I) (by omega) i2]
      exact i3
    rw [h2, Int.mul_one, Int.emod_emod, Int.sub_self, Int.zero_emod]
  exact Int.dvd_of_emod_eq_zero h1
theorem rto_uniq {m : Nat} (hp : Mr.Pr m) {x z y : Int} (h : y % (m : Int) ≠ 0) (x0 : 0 ≤ x) (x1 : x < m) (hx : (m : Int) ∣ x * y - z) : x = rto m z y := by
  have hb := rto_bd hp.1 z y
  have hs := rto_spec hp (z := z) h
  have h1 : (m : Int) ∣ (x - rto m z y) * y := by
    have := Int.dvd_sub hx hs
    rw [Int.sub_mul]
    rwa [show x * y - z - (rto m z y * y - z) = x * y - rto m z y * y by omega] at this
  rcases hp.pri.2 _ _ h1 with h2 | h2
  · obtain ⟨c, hc⟩ := h2
    have h3 : c = 0 := by
      rcases Int.lt_trichotomy c 0 with h4 | h4 | h4
      · exfalso
        have : (m : Int) * c ≤ (m : Int) * (-1) := Int.mul_le_mul_of_nonneg_left (by omega) (by omega)
        omega
      · exact h4
      · exfalso
        have : (m : Int) * 1 ≤ (m : Int) * c := Int.mul_le_mul_of_nonneg_left (by omega) (by omega)
        omega
    rw [h3, Int.mul_zero] at hc
    omega
  · exact absurd (Int.emod_eq_zero_of_dvd h2) h
theorem rto_rat {m : Nat} (hp : Mr.Pr m) {N D : Int} {r : Rat} (hr : Rat.divInt N D = r) (hD : D % (m : Int) ≠ 0) : (r.den : Int) % (m : Int) ≠ 0 ∧ rto m N D = rto m r.num r.den := by
  have D0 : D ≠ 0 := fun h => hD (by rw [h]; exact Int.zero_emod _)
  have d0 : (r.den : Int) ≠ 0 := by have := r.den_nz; omega
  have hx : N * (r.den : Int) = r.num * D := by
    have h1 : Rat.divInt N D = Rat.divInt r.num r.den := by rw [hr, Rat.num_divInt_den]
    exact (Rat.divInt_eq_divInt_iff D0 d0).1 h1
  have hd : (r.den : Int) % (m : Int) ≠ 0 := fun h => by
    have h1 := Int.dvd_of_emod_eq_zero h
    have h2 : (m : Int) ∣ r.num * D := by rw [← hx]; exact Int.dvd_mul_of_dvd_right h1
    rcases hp.pri.2 _ _ h2 with h3 | h3
    · have h4 : m ∣ r.num.natAbs := Gs.natCast_dvd.1 h3
      have h5 : m ∣ r.den := Int.natCast_dvd_natCast.1 h1
      have h6 := Nat.dvd_gcd h4 h5
      rw [r.reduced] at h6
      have := Nat.le_of_dvd (by omega) h6
      have := hp.1
      omega
    · exact hD (Int.emod_eq_zero_of_dvd h3)
  refine ⟨hd, ?_⟩
  have hb := rto_bd hp.1 N D
  refine rto_uniq hp hd hb.1 hb.2 ?_
  have hs := rto_spec hp (z := N) hD
  have h1 : (m : Int) ∣ (rto m N D * (r.den : Int) - r.num) * D := by
    have h2 := Int.dvd_mul_of_dvd_left hs (c := (r.den : Int))
    have e : (rto m N D * D - N) * (r.den : Int) = (rto m N D * (r.den : Int) - r.num) * D := by
      rw [Int.sub_mul, Int.sub_mul, hx, Int.mul_assoc, Int.mul_assoc, Int.mul_comm D]
    rwa [e] at h2
  rcases hp.pri.2 _ _ h1 with h2 | h2
  · exact h2
  · exact absurd (Int.emod_eq_zero_of_dvd h2) hD
theorem ai_ni {B : Nat} {w : World} {s : Bool} {p : Option Addr} {n K : Nat} {xs : List Int} {z : Int} (h : NI B w s p n xs z) (hn : n ≤ K) (hK : K ≤ 1000) : EV w K z ⟨s, p, n, n⟩ :=
  NV.ev (B := B) ⟨xs, h, rfl, hn⟩ hK
set_option maxRecDepth 100000 in
theorem mRat_any {w : World} {K : Nat} {s t : Bool} {p q : Option Addr} {n nc mm mc : Nat} {r : Rat} (h : AQ w K s p n nc t q mm mc r) (hK : 1 ≤ K) (hK' : K < 150) (z : Int) (h0 : -9223372036854775808 ≤ z ∧ z ≤ 9223372036854775807) (hT : TzT w) :
    Calls Tryz.prog 13 #[.agg #[.bool s, .slice p n nc, .bool t, .slice q mm mc], .int .i64 z] w fun res w' => res = .returned (.tuple #[.int .i64 (if pz z = true then rto z.toNat r.num r.den else 0), .int .i64 (if pz z = true then erp z.toNat r.den else 1)]) ∧ Below w.heap.size w w' := by
  have hal := bel_al (o := .cells #[.bool s, .slice p n nc, .bool t, .slice q mm mc] 32) (Below.refl w.heap.size w)
  have hB0 : Bq (w.alloc (.cells #[.bool s, .slice p n nc, .bool t, .slice q mm mc] 32)) w.heap.size (.bool s) (.slice p n nc) (.bool t) (.slice q mm mc) := Bq.new _ _ _ _ _ rfl
  have hT1 : TzT (w.alloc (.cells #[.bool s, .slice p n nc, .bool t, .slice q mm mc] 32)) := TzB hT hal
  have HA : Hid (AQ (w.alloc (.cells #[.bool s, .slice p n nc, .bool t, .slice q mm mc] 32)) K s p n nc t q mm mc r) := h.below hal
  have hc := mPrime_any z _ h0 hT1
  clear h hT hT1
  cases hz : pz z with
  | false =>
    rw [hz] at hc
    clear hz hB0
    rw [if_neg (by decide), if_neg (by decide)]
    go_enter Tryz.func13, Tryz.ntmps13
    go_wp2_with fail
    go_fit hc
    rintro res w1 ⟨rfl, hw⟩
    subst w1
    have HB : Hid (Below w.heap.size w (w.alloc (.cells #[.bool s, .slice p n nc, .bool t, .slice q mm mc] 32))) := hal
    clear hal hc
    go_wp2
    go_ret2
    exact ⟨rfl, HB.out⟩
  | true =>
    rw [hz] at hc
    obtain ⟨m, rfl, m1, m2, hp⟩ := pz_true hz
    have HP : Hid (Mr.Pr m) := hp
    clear hz hp
    rw [if_pos rfl, if_pos rfl]
    rw [show ((m : Int)).toNat = m from rfl]
    have v0 : IntKind.u64.wrap (m : Int) = (m : Int) := by rw [IntKind.wrap_u64]; omega
    have hb := rto_bd m1 r.num r.den
    have v1 : IntKind.i64.wrap (rto m r.num r.den) = rto m r.num r.den := by rw [IntKind.wrap_i64]; omega
    obtain ⟨xs, ys, hA, hD, hn, hm, hr⟩ := HA.out
    have hEN : EV (w.alloc (.cells #[.bool s, .slice p n nc, .bool t, .slice q mm mc] 32)) K (ival s xs) ⟨s, p, n, nc⟩ := ⟨xs, hA, rfl, hn⟩
    have hED : EV (w.alloc (.cells #[.bool s, .slice p n nc, .bool t, .slice q mm mc] 32)) K (ival t ys) ⟨t, q, mm, mc⟩ := ⟨ys, hD, rfl, hm⟩
    have ho := of_ev hED (m : Int) (by omega) (by omega)
    have HE : Hid (EV (w.alloc (.cells #[.bool s, .slice p n nc, .bool t, .slice q mm mc] 32)) K (ival s xs) ⟨s, p, n, nc⟩ ∧ EV (w.alloc (.cells #[.bool s, .slice p n nc, .bool t, .slice q mm mc] 32)) K (ival t ys) ⟨t, q, mm, mc⟩ ∧ Rat.divInt (ival s xs) (ival t ys) = r) := ⟨hEN, hED, hr⟩
    clear hEN hED hA hD hn hm hr
    simp only at ho
    have y0 := Int.emod_nonneg (ival t ys) (show (m : Int) ≠ 0 by omega)
    have y1 := Int.emod_lt_of_pos (ival t ys) (show (0 : Int) < (m : Int) by omega)
    have hg0 : w.heap.size < (w.alloc (.cells #[.bool s, .slice p n nc, .bool t, .slice q mm mc] 32)).heap.size := hB0.lt
    go_enter Tryz.func13, Tryz.ntmps13
    go_wp2_with fail
    generalize w.alloc (.cells #[.bool s, .slice p n nc, .bool t, .slice q mm mc] 32) = W at *
    go_fit hc
    rintro res w1 ⟨rfl, hw⟩
    subst w1
    clear hc
    obtain ⟨c0, c1, c2, c3, -, -, -, -⟩ := id hB0
    go_wp2_with fail
    go_fit ho
    rintro res w1 ⟨rfl, hb1⟩
    clear ho c0 c1 c2 c3
    have HB1 : Hid (Below w.heap.size w w1 ∧ Below W.heap.size W w1) := ⟨bnext' hal hb1, hb1⟩
    obtain ⟨c0, c1, c2, c3, f0, f1, f2, f3⟩ := hB0.later hb1
    have hB1 := hB0.later hb1
    have hg1 : w.heap.size < w1.heap.size := hB1.lt
    clear hb1 hal hB0
    by_cases hz : ival t ys % (m : Int) = 0
    · rw [hz]
      clear hz y0 y1
      have hnm := qNorm_q (HA.out.below HB1.out.2) hK hK'
      go_wp2_with fail
      go_fit hnm
      rintro res w2 ⟨s2, p2, n2, t2, q2, m2', rfl, ⟨xs2, ys2, hNR, hn2, hm2'⟩, hb2⟩
      clear hnm c0 c1 c2 c3 f0 f1 f2 f3
      have hB2 := hB1.later hb2
      obtain ⟨c0, c1, c2, c3, f0, f1, f2, f3⟩ := id hB2
      have hB3 := Bq_set (u := .bool s2) (v := .slice p2 n2 n2) (x := .bool t2) (y := .slice q2 m2' m2') hB2
      have hr3 := ratio_any (ai_ni (hNR.num.set4 hg1 (.bool s2) (.slice p2 n2 n2) (.bool t2) (.slice q2 m2' m2')) hn2 (by omega)) (ai_ni (hNR.den.set4 hg1 (.bool s2) (.slice p2 n2 n2) (.bool t2) (.slice q2 m2' m2')) hm2' (by omega)) m m1 m2
      have HB3 : Hid (Below w.heap.size w ((((w2.setCell ⟨w.heap.size, 0, none⟩ (.bool s2)).setCell ⟨w.heap.size, 1, none⟩ (.slice p2 n2 n2)).setCell ⟨w.heap.size, 2, none⟩ (.bool t2)).setCell ⟨w.heap.size, 3, none⟩ (.slice q2 m2' m2'))) := bset4 (bnext' HB1.out.1 hb2) (Nat.le_refl _) _ _ _ _
      obtain ⟨k0, k1, k2, k3, -, -, -, -⟩ := hB3
      clear hb2 hB2 hB1 hNR
      simp only at hr3
      go_wp2_with fail
      go_fit hr3
      rintro res w4 ⟨rfl, hb4⟩
      have HB4 : Hid (Below w.heap.size w w4) := bnext' HB3.out hb4
      clear hr3 hb4 HB3 k0 k1 k2 k3 f0 f1 f2 f3
      go_wp2
      go_ret2
      exact ⟨rfl, HB4.out⟩
    · have d1 : (ival t ys % (m : Int) == 0) = false := by rw [beq_eq_false_iff_ne]; exact hz
      obtain ⟨hd, hq⟩ := rto_rat HP.out HE.out.2.2 hz
      have hq2 : erp m (ival t ys) = erp m (r.den : Int) := by unfold erp; rw [if_neg hz, if_neg hd]
      have hr3 := ratio_any (HE.out.1.below HB1.out.2) (HE.out.2.1.below HB1.out.2) m m1 m2
      rw [hq, hq2] at hr3
      clear hd hq hq2
      generalize ival t ys % (m : Int) = Y at *
      simp only at hr3
      go_wp2_with fail
      go_fit hr3
      rintro res w4 ⟨rfl, hb4⟩
      have HB4 : Hid (Below w.heap.size w w4) := bnext' HB1.out.1 hb4
      clear hr3 hb4 c0 c1 c2 c3 f0 f1 f2 f3 hB1
      go_wp2
      go_ret2
      exact ⟨rfl, HB4.out⟩
theorem rInv_any (A : Int) (m : Nat) (w : World) (m1 : 2 ≤ m) (m2 : m ≤ 2147483647) (a0 : 0 ≤ A) (a1 : A < m) :
    Calls Tryz.prog 33 #[.int .i64 A, .int .i64 m] w fun e w' => e = .returned (.int .i64 (A ^ (m - 2) % (m : Int))) ∧ w = w' := by
  have hm0 : ¬ (m : Int) = 0 := by omega
  have hm0' : ((m : Int) == 0) = false := by rw [beq_eq_false_iff_ne]; exact hm0
  have t0 : A.tmod (m : Int) = A := by rw [Int.tmod_eq_emod_of_nonneg a0]; exact Int.emod_eq_of_lt a0 a1
  have v0 : IntKind.i64.wrap A = A := by rw [IntKind.wrap_i64]; omega
  have n0 : ¬ A < 0 := by omega
  have e : (m : Int) - 2 = ((m - 2 : Nat) : Int) := by omega
  have v : IntKind.i64.wrap ((m - 2 : Nat) : Int) = ((m - 2 : Nat) : Int) := by rw [IntKind.wrap_i64]; omega
  have e64 : wrap64 ((m : Int) - 2) = ((m - 2 : Nat) : Int) := by unfold wrap64; omega
  go_enter Tryz.func33, Tryz.ntmps33
  go_wp2
  go_loop [0, 5, 6] (fun av zv nv => ∃ (z a : Int) (k : Nat), zv = .int .i64 z ∧ av = .int .i64 a ∧ nv = .int .i64 k ∧ 0 ≤ z ∧ z < m ∧ 0 ≤ a ∧ a < m ∧ k < 4294967296 ∧ Hid (z * a ^ k % (m : Int) = A ^ (m - 2) % (m : Int))) (fun _ _ nv => (intOf nv).toNat)
  case atStart => exact ⟨1, A, m - 2, by go_num, rfl, by go_num, by omega, by omega, a0, a1, by omega, by show _ = _; rw [Int.one_mul]⟩
  case round =>
    obtain ⟨z, a, k, rfl, rfl, rfl, z0, z1, x0, x1, hk, H⟩ := hrel
    clear t0 v0 n0 e v e64
    rcases Nat.eq_zero_or_pos k with h0 | h0
    · subst h0
      have HE : Hid (A ^ (m - 2) % (m : Int) = z) := by
        show _ = _
        rw [← H.out, Int.pow_zero, Int.mul_one, Int.emod_eq_of_lt z0 z1]
      clear H
      go_wp2
      go_ret
      exact ⟨by rw [HE.out]; rfl, rfl⟩
    · have hk0 : (0 : Int) < (k : Int) := by omega
      have t1 : (k : Int).tmod 2 = ((k % 2 : Nat) : Int) := by rw [Int.tmod_eq_emod_of_nonneg (by omega)]; omega
      have t2 : (k : Int).tdiv 2 = ((k / 2 : Nat) : Int) := by rw [Int.tdiv_eq_ediv_of_nonneg (by omega)]; omega
      have v1 : IntKind.i64.wrap ((k % 2 : Nat) : Int) = ((k % 2 : Nat) : Int) := by rw [IntKind.wrap_i64]; omega
      have v2 : IntKind.i64.wrap ((k / 2 : Nat) : Int) = ((k / 2 : Nat) : Int) := by rw [IntKind.wrap_i64]; omega
      have HA : Hid (∀ u : Int, (u * (a * a % (m : Int)) ^ (k / 2)) % (m : Int) = (u * a ^ (2 * (k / 2))) % (m : Int)) := fun u => by
        rw [Int.mul_emod, pow_emod, ← Int.mul_emod, Int.pow_mul, show a ^ 2 = a * a from by rw [Int.pow_succ, Int.pow_succ, Int.pow_zero, Int.one_mul]]
      obtain ⟨p0, p1⟩ := mul_bdp x0 x0 x1 x1 (show (m : Int) ≤ 2147483647 by omega)
      obtain ⟨g0, g1⟩ := mul_bdp z0 x0 z1 x1 (show (m : Int) ≤ 2147483647 by omega)
      have w1 : wrap64 (a * a) = a * a := by unfold wrap64; omega
      have w2 : wrap64 (z * a) = z * a := by unfold wrap64; omega
      have w3 : (a * a).tmod (m : Int) = a * a % (m : Int) := Int.tmod_eq_emod_of_nonneg p0
      have w4 : (z * a).tmod (m : Int) = z * a % (m : Int) := Int.tmod_eq_emod_of_nonneg g0
      have r0 := Int.emod_nonneg (a * a) hm0
      have r1 := Int.emod_lt_of_pos (a * a) (show (0 : Int) < m by omega)
      have s0 := Int.emod_nonneg (z * a) hm0
      have s1 := Int.emod_lt_of_pos (z * a) (show (0 : Int) < m by omega)
      have w5 : IntKind.i64.wrap (a * a % (m : Int)) = a * a % (m : Int) := by rw [IntKind.wrap_i64]; omega
      have w6 : IntKind.i64.wrap (z * a % (m : Int)) = z * a % (m : Int) := by rw [IntKind.wrap_i64]; omega
      rcases Nat.mod_two_eq_zero_or_one k with hp | hp
      · have c1 : ¬ ((k % 2 : Nat) : Int) = 1 := by omega
        have c2 : (((k % 2 : Nat) : Int) == 1) = false := by rw [beq_eq_false_iff_ne]; exact c1
        have HP : Hid (k = 2 * (k / 2)) := by show _ = _; omega
        go_wp2
        go_round
        case rel =>
          refine ⟨z, a * a % (m : Int), k / 2, rfl, rfl, by go_num, z0, z1, r0, r1, by omega, ?_⟩
          show _ = _
          rw [HA.out z, ← HP.out]
          exact H.out
        case measure => simp [intOf]; omega
      · have c1 : ((k % 2 : Nat) : Int) = 1 := by omega
        have HP : Hid (k = 2 * (k / 2) + 1) := by show _ = _; omega
        go_wp2
        go_round
        case rel =>
          refine ⟨z * a % (m : Int), a * a % (m : Int), k / 2, rfl, rfl, by go_num, s0, s1, r0, r1, by omega, ?_⟩
          show _ = _
          rw [HA.out, Int.mul_emod, Int.emod_emod, ← Int.mul_emod, Int.mul_assoc]
          rw [show a * a ^ (2 * (k / 2)) = a ^ k from by rw [show k = 2 * (k / 2) + 1 from HP.out, Int.pow_succ, Int.mul_comm]; congr 2; omega]
          exact H.out
        case measure => simp [intOf]; omega
theorem rMod_v {w : World} {N : Nat} {z : Int} {s : Bool} {p : Option Addr} {n : Nat} (h : RV w N z s p n) (m : Int) (h1 : 1 ≤ m) (h2 : m ≤ 2147483647) :
    Calls Tryz.prog 32 #[.agg #[.bool s, .slice p n n], .int .i64 m] w fun e w' => e = .returned (.int .i64 (z % m)) ∧ Below w.heap.size w w' := by
  obtain ⟨ds, g1, g2, g3⟩ := h
  have := rMod_any s p n n ds m w g1.len g1.sml g1.rd g1.u h1 h2
  rw [g2] at this
  exact this
theorem rModR_any {w : World} {K : Nat} {s t : Bool} {p q : Option Addr} {n mm : Nat} {r : Rat} (h : MQ w K s p n t q mm r) (m : Nat) (m1 : 2 ≤ m) (m2 : m ≤ 2147483647) :
    Calls Tryz.prog 14 #[.agg #[.bool s, .slice p n n, .bool t, .slice q mm mm], .int .i64 m] w fun res w' => res = .returned (.tuple #[.int .i64 (rto m r.num r.den), .int .i64 (erp m r.den)]) ∧ Below w.heap.size w w' := by
  have hal := bel_al (o := .cells #[.bool s, .slice p n n, .bool t, .slice q mm mm] 40) (Below.refl w.heap.size w)
  have hB0 : Bq (w.alloc (.cells #[.bool s, .slice p n n, .bool t, .slice q mm mm] 40)) w.heap.size (.bool s) (.slice p n n) (.bool t) (.slice q mm mm) := Bq.new _ _ _ _ _ rfl
  have ho := rMod_v (h.den.below hal) (m : Int) (by omega) (by omega)
  have HE : Hid (MQ w K s p n t q mm r) := h
  have y0 := Int.emod_nonneg (r.den : Int) (show (m : Int) ≠ 0 by omega)
  have y1 := Int.emod_lt_of_pos (r.den : Int) (show (0 : Int) < (m : Int) by omega)
  have hm0 : ¬ (m : Int) = 0 := by omega
  have hm0' : ((m : Int) == 0) = false := by rw [beq_eq_false_iff_ne]; exact hm0
  clear h
  go_enter Tryz.func14, Tryz.ntmps14
  go_wp2_with fail
  generalize w.alloc (.cells #[.bool s, .slice p n n, .bool t, .slice q mm mm] 40) = W at *
  go_fit ho
  rintro res w1 ⟨rfl, hb1⟩
  clear ho
  have HB1 : Hid (Below w.heap.size w w1) := bnext' hal hb1
  obtain ⟨c0, c1, -, -, -, -, -, -⟩ := hB0.later hb1
  clear hb1 hB0 hal
  by_cases hz : (r.den : Int) % (m : Int) = 0
  · have HR : Hid (rto m r.num r.den = 0 ∧ erp m r.den = 7) := ⟨if_pos hz, if_pos hz⟩
    rw [hz]
    clear hz y0 y1 c0 c1
    go_wp2
    go_ret2
    exact ⟨by rw [HR.out.1, HR.out.2]; rfl, HB1.out⟩
  · have d1 : ((r.den : Int) % (m : Int) == 0) = false := by rw [beq_eq_false_iff_ne]; exact hz
    have HR : Hid (rto m r.num r.den = (r.num % (m : Int)) * (((r.den : Int) % (m : Int)) ^ (m - 2) % (m : Int)) % (m : Int) ∧ erp m r.den = 0) := ⟨if_neg hz, if_neg hz⟩
    have ho2 := rMod_v (HE.out.num.below HB1.out) (m : Int) (by omega) (by omega)
    have z0 := Int.emod_nonneg r.num (show (m : Int) ≠ 0 by omega)
    have z1 := Int.emod_lt_of_pos r.num (show (0 : Int) < (m : Int) by omega)
    have i0 := Int.emod_nonneg (((r.den : Int) % (m : Int)) ^ (m - 2)) (show (m : Int) ≠ 0 by omega)
    have i1 := Int.emod_lt_of_pos (((r.den : Int) % (m : Int)) ^ (m - 2)) (show (0 : Int) < (m : Int) by omega)
    generalize (r.den : Int) % (m : Int) = Y at *
    go_wp2_with fail
    go_fit ho2
    rintro res w2 ⟨rfl, hb2⟩
    clear ho2 c0 c1
    generalize r.num % (m : Int) = Z at *
    have hin := rInv_any Y m w2 m1 m2 y0 y1
    go_wp2_with fail
    go_fit hin
    rintro res w3 ⟨rfl, hw⟩
    subst w3
    clear hin
    generalize Y ^ (m - 2) % (m : Int) = I at *
    have HB2 : Hid (Below w.heap.size w w2) := bnext' HB1.out hb2
    clear hb2
    obtain ⟨g0, g1⟩ := mul_bdp z0 i0 z1 i1 (show (m : Int) ≤ 2147483647 by omega)
    have w2' : wrap64 (Z * I) = Z * I := by unfold wrap64; omega
    have w4 : (Z * I).tmod (m : Int) = Z * I % (m : Int) := Int.tmod_eq_emod_of_nonneg g0
    go_wp2
    go_ret2
    exact ⟨by rw [HR.out.1, HR.out.2]; rfl, HB2.out⟩
end Go.Proofs.YtkbgeggflhfleaaGreatDoor.Rs
