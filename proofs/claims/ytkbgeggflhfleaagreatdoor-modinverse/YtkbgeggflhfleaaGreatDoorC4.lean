/-
  modular.ratio, modular.Inverse; ModInverse's walk.
-/
import Derived.Test.YtkbgeggflhfleaaGreatDoorC2
import Derived.Test.YtkbgeggflhfleaaGreatDoorZb
import Derived.Test.YtkbgeggflhfleaaGreatDoorVgDe
namespace Go.Proofs.YtkbgeggflhfleaaGreatDoor.Rs
open Go.RowKit Go.Proofs.YtkbgeggflhfleaaGreatDoor
set_option linter.unusedVariables false
set_option linter.unusedSimpArgs false
set_option maxHeartbeats 8000000
def rto (m : Nat) (z y : Int) : Int := if y % (m : Int) = 0 then 0 else (z % (m : Int)) * ((y % (m : Int)) ^ (m - 2) % (m : Int)) % (m : Int)
theorem rto_bd {m : Nat} (hm : 2 ≤ m) (z y : Int) : 0 ≤ rto m z y ∧ rto m z y < m := by
  unfold rto
  split
  · omega
  · exact ⟨Int.emod_nonneg _ (by omega), Int.emod_lt_of_pos _ (by omega)⟩
def erp (m : Nat) (y : Int) : Int := if y % (m : Int) = 0 then 7 else 0
theorem ratio_any {w : World} {K L : Nat} {z y : Int} {e f : Ent} (h : EV w K z e) (k : EV w L y f) (m : Nat) (hm : 2 ≤ m) (hm2 : m ≤ 2147483647) :
    Calls Tryz.prog 27 #[.int .u64 m, .agg #[.bool e.s, .slice e.p e.n e.c, .bool f.s, .slice f.p f.n f.c]] w fun r w' => r = .returned (.tuple #[.int .u64 (rto m z y), .int .i64 (erp m y)]) ∧ Below w.heap.size w w' := by
  obtain ⟨es, ep, en, ec⟩ := e
  obtain ⟨fs, fp, fn, fc⟩ := f
  have HE : Hid (EV w K z ⟨es, ep, en, ec⟩ ∧ EV w L y ⟨fs, fp, fn, fc⟩) := ⟨h, k⟩
  simp only
  clear h k
  have hal := bel_al (o := .cells #[.bool es, .slice ep en ec, .bool fs, .slice fp fn fc] 32) (Below.refl w.heap.size w)
  have hB0 : Bq (w.alloc (.cells #[.bool es, .slice ep en ec, .bool fs, .slice fp fn fc] 32)) w.heap.size (.bool es) (.slice ep en ec) (.bool fs) (.slice fp fn fc) := Bq.new _ _ _ _ _ rfl
  have ho := of_ev (HE.out.2.below hal) (m : Int) (by omega) (by omega)
  have y0 := Int.emod_nonneg y (show (m : Int) ≠ 0 by omega)
  have y1 := Int.emod_lt_of_pos y (show (0 : Int) < (m : Int) by omega)
  simp only at ho
  go_enter Tryz.func27, Tryz.ntmps27
  go_wp2_with fail
  generalize w.alloc (.cells #[.bool es, .slice ep en ec, .bool fs, .slice fp fn fc] 32) = W at *
  go_fit ho
  rintro r w1 ⟨rfl, hb1⟩
  clear ho
  have HB1 : Hid (Below w.heap.size w w1) := bnext' hal hb1
  obtain ⟨c0, c1, -, -, -, -, -, -⟩ := hB0.later hb1
  clear hb1 hB0 hal
  by_cases hz : y % (m : Int) = 0
  · have HR : Hid (rto m z y = 0 ∧ erp m y = 7) := ⟨if_pos hz, if_pos hz⟩
    rw [hz]
    clear hz y0 y1 c0 c1
    go_wp2
    go_ret2
    exact ⟨by rw [HR.out.1, HR.out.2]; rfl, HB1.out⟩
  · have d1 : ((y % (m : Int)) == 0) = false := by rw [beq_eq_false_iff_ne]; exact hz
    have HR : Hid (rto m z y = (z % (m : Int)) * ((y % (m : Int)) ^ (m - 2) % (m : Int)) % (m : Int) ∧ erp m y = 0) := ⟨if_neg hz, if_neg hz⟩
    have ho2 := of_ev (HE.out.1.below HB1.out) (m : Int) (by omega) (by omega)
    have z0 := Int.emod_nonneg z (show (m : Int) ≠ 0 by omega)
    have z1 := Int.emod_lt_of_pos z (show (0 : Int) < (m : Int) by omega)
    have i0 := Int.emod_nonneg ((y % (m : Int)) ^ (m - 2)) (show (m : Int) ≠ 0 by omega)
    have i1 := Int.emod_lt_of_pos ((y % (m : Int)) ^ (m - 2)) (show (0 : Int) < (m : Int) by omega)
    simp only at ho2
    generalize hY : y % (m : Int) = Y at *
    have HY := (show Hid _ from hY)
    clear hY
    go_wp2_with fail
    go_fit ho2
    rintro r w2 ⟨rfl, hb2⟩
    clear ho2 c0 c1
    generalize z % (m : Int) = Z at *
    have hin := inverse_any m Y w2 hm hm2 y0 y1
    go_wp2_with fail
    go_fit hin
    rintro r w3 ⟨rfl, hw⟩
    subst w3
    clear hin
    generalize Y ^ (m - 2) % (m : Int) = I at *
    have htm := times_any (m : Int) Z I w2 (by omega) (by omega) z0 z1 i0 i1
    go_wp2_with fail
    go_fit htm
    rintro r w3 ⟨rfl, hw⟩
    subst w3
    clear htm
    have HB2 : Hid (Below w.heap.size w w2) := bnext' HB1.out hb2
    clear hb2
    generalize Z * I % (m : Int) = V at *
    go_wp2
    go_ret2
    exact ⟨by rw [HR.out.1, HR.out.2]; rfl, HB2.out⟩
theorem inv_facts {m : Nat} {a : Int} (hp : Mr.Pr m) (h : a % (m : Int) ≠ 0) : 0 < rto m 1 a ∧ rto m 1 a < m ∧ (a % (m : Int)) * rto m 1 a % (m : Int) = 1 := by
  have hm : 2 ≤ m := hp.1
  have e1 : (1 : Int) % (m : Int) = 1 := Int.emod_eq_of_lt (by omega) (by omega)
  have e : rto m 1 a = (a % (m : Int)) ^ (m - 2) % (m : Int) := by
    unfold rto
    rw [if_neg h, e1, Int.one_mul, Int.emod_emod]
  have hf := Cp.fermat hp.pri (a := a % (m : Int)) (fun hd => h (by have := Int.emod_eq_zero_of_dvd hd; rwa [Int.emod_emod] at this))
  rw [← e] at hf
  have hb := rto_bd hm 1 a
  refine ⟨?_, hb.2, hf⟩
  rcases Int.lt_or_eq_of_le hb.1 with h1 | h1
  · exact h1
  · rw [← h1] at hf
    simp at hf
theorem tmod_zero {a : Int} {m : Nat} (h : a % (m : Int) = 0) : a.tmod (m : Int) = 0 := by
  rw [Int.tmod_eq_emod, h, if_pos (.inr (Int.dvd_of_emod_eq_zero h))]
  rfl
theorem tmod_not {a : Int} {m : Nat} (hm : 0 < m) (h : a % (m : Int) ≠ 0) : (a.tmod (m : Int) = a % (m : Int) ∧ 0 < a.tmod (m : Int)) ∨ (a.tmod (m : Int) + (m : Int) = a % (m : Int) ∧ a.tmod (m : Int) < 0) := by
  have h0 := Int.emod_nonneg a (show (m : Int) ≠ 0 by omega)
  have h1 := Int.emod_lt_of_pos a (show (0 : Int) < (m : Int) by omega)
  rw [Int.tmod_eq_emod]
  by_cases ha : 0 ≤ a
  · rw [if_pos (.inl ha)]
    left
    exact ⟨by omega, by omega⟩
  · rw [if_neg (fun hh => hh.elim ha (fun hd => h (Int.emod_eq_zero_of_dvd hd)))]
    right
    exact ⟨by simp, by simp; omega⟩
theorem mInverse_any (a z : Int) (w : World) (ha : -9223372036854775808 ≤ a ∧ a ≤ 9223372036854775807) (h0 : -9223372036854775808 ≤ z ∧ z ≤ 9223372036854775807) (hT : TzT w) :
    Calls Tryz.prog 11 #[.int .i64 a, .int .i64 z] w fun r w' => r = .returned (.tuple #[.int .i64 (if pz z = true then rto z.toNat 1 a else 0), .int .i64 (if pz z = true then erp z.toNat a else 1)]) ∧ Below w.heap.size w w' := by
  have hc := mPrime_any z w h0 hT
  cases hz : pz z with
  | false =>
    rw [hz] at hc
    clear hz
    rw [if_neg (by decide), if_neg (by decide)]
    go_enter Tryz.func11, Tryz.ntmps11
    go_wp2_with fail
    go_fit hc
    rintro r w1 ⟨rfl, hw⟩
    subst w1
    go_wp2
    go_ret2
    exact ⟨rfl, Below.refl _ _⟩
  | true =>
    rw [hz] at hc
    obtain ⟨m, rfl, m1, m2, -⟩ := pz_true hz
    clear hz
    rw [if_pos rfl, if_pos rfl]
    rw [show ((m : Int)).toNat = m from rfl]
    have v0 : IntKind.u64.wrap (m : Int) = (m : Int) := by rw [IntKind.wrap_u64]; omega
    have hb := rto_bd m1 1 a
    have v1 : IntKind.i64.wrap (rto m 1 a) = rto m 1 a := by rw [IntKind.wrap_i64]; omega
    go_enter Tryz.func11, Tryz.ntmps11
    go_wp2_with fail
    go_fit hc
    rintro r w1 ⟨rfl, hw⟩
    subst w1
    clear hc
    go_wp2_with fail
    go_fit (Of_e 1 w (by decide) (by decide))
    rintro r w1 ⟨e1, rfl, hE1, hb1⟩
    go_wp2_with fail
    go_fit (Of_e a w1 ha.1 ha.2)
    rintro r w2 ⟨e2, rfl, hE2, hb2⟩
    have hr := ratio_any ((hE1.below hb2).ev (by decide)) (hE2.ev (by decide)) m m1 m2
    have HB : Hid (Below w.heap.size w w2) := bnext' hb1 hb2
    clear hE1 hE2 hb1 hb2
    go_wp2_with fail
    go_fit hr
    rintro r w3 ⟨rfl, hb3⟩
    have HB3 : Hid (Below w.heap.size w w3) := bnext' HB.out hb3
    clear hr hb3
    go_wp2
    go_ret2
    exact ⟨rfl, HB3.out⟩
end Go.Proofs.YtkbgeggflhfleaaGreatDoor.Rs
namespace Go.Proofs.YtkbgeggflhfleaaGreatDoor
open Go.RowKit
theorem TzB {w w1 : World} (h : Rs.TzT w) (hb : Below w.heap.size w w1) : Rs.TzT w1 := Rs.tz_of ((Rs.tz_to h).keep fun g hg => hb.block g ((Rs.tz_to h).lt hg))
theorem ModInverse_walk {w : World} {a z : Int} (ha : -9223372036854775808 ≤ a ∧ a ≤ 9223372036854775807) (h0 : -9223372036854775808 ≤ z ∧ z ≤ 9223372036854775807) (hT : Rs.TzT w) :
    Calls Tryz.prog 4 #[.int .i64 a, .int .i64 z] w fun r w' => r = .returned (.bool true) ∧ Below w.heap.size w w' := by
  have HT : Hid (Rs.TzT w) := hT
  clear hT
  go_enter Tryz.func4, Tryz.ntmps4
  go_wp2_with fail
  go_fit (begun14_any w HT.out)
  rintro e w1 ⟨rfl, hb1⟩
  have hi := Rs.mInverse_any a z w1 ha h0 (TzB HT.out hb1)
  go_wp2_with fail
  go_fit hi
  rintro r w2 ⟨rfl, hb2⟩
  clear hi
  have hr := Rs.rPrime_any z w2 h0
  have HB : Hid (Below w.heap.size w w2) := bnext' hb1 hb2
  clear hb1 hb2
  cases hz : Rs.pz z with
  | false =>
    rw [hz] at hr
    rw [if_neg (by decide), if_neg (by decide)]
    clear hz
    go_wp2_with fail
    go_fit hr
    rintro r w3 ⟨rfl, hw⟩
    subst w3
    clear hr
    go_wp2
    go_ret
    exact ⟨rfl, HB.out⟩
  | true =>
    rw [hz] at hr
    rw [if_pos rfl, if_pos rfl]
    obtain ⟨m, rfl, m1, m2, hp⟩ := Rs.pz_true hz
    rw [show ((m : Int)).toNat = m from rfl]
    clear hz
    have hm0 : ¬ (m : Int) = 0 := by omega
    have hm0' : ((m : Int) == 0) = false := by rw [beq_eq_false_iff_ne]; exact hm0
    by_cases hc : a % (m : Int) = 0
    · have t0 := Rs.tmod_zero hc
      have e1 : Rs.rto m 1 a = 0 := if_pos hc
      have e2 : Rs.erp m a = 7 := if_pos hc
      rw [e1, e2]
      clear hc e1 e2
      go_wp2_with fail
      go_fit hr
      rintro r w3 ⟨rfl, hw⟩
      subst w3
      clear hr
      go_wp2
      go_ret
      exact ⟨rfl, HB.out⟩
    · have e2 : Rs.erp m a = 0 := if_neg hc
      obtain ⟨i1, i2, i3⟩ := Rs.inv_facts hp hc
      have hq := Rs.tmod_not (m := m) (by omega) hc
      have q0 := Int.emod_nonneg a (show (m : Int) ≠ 0 by omega)
      have q1 := Int.emod_lt_of_pos a (show (0 : Int) < (m : Int) by omega)
      rw [e2]
      clear e2 hp hc
      generalize Rs.rto m 1 a = I at *
      generalize a % (m : Int) = R at *
      have p0 : 0 ≤ R * I := Int.mul_nonneg q0 (by omega)
      have p1 : R * I ≤ 2147483647 * 2147483647 := Int.mul_le_mul (by omega) (by omega) (by omega) (by decide)
      have HP : Hid ((R * I).tmod (m : Int) = 1) := by
        show _ = _
        rw [Int.tmod_eq_emod_of_nonneg p0]
        exact i3
      clear i3
      generalize hq0 : a.tmod (m : Int) = T at *
      rcases hq with ⟨h1, h2⟩ | ⟨h1, h2⟩
      · have d1 : (T == 0) = false := by rw [beq_eq_false_iff_ne]; omega
        have d2 : ¬ T < 0 := by omega
        have d3 : ¬ T = 0 := by omega
        have v1 : IntKind.i64.wrap T = T := by rw [IntKind.wrap_i64]; omega
        have v2 : IntKind.i64.wrap (T * I) = T * I := by rw [h1, IntKind.wrap_i64]; omega
        have v4 : wrap64 (T * I) = T * I := by rw [h1]; unfold wrap64; omega
        have hp1 : (T * I).tmod (m : Int) = 1 := by rw [h1]; exact HP.out
        clear h1 HP p0 p1
        go_wp2_with fail
        go_fit hr
        rintro r w3 ⟨rfl, hw⟩
        subst w3
        clear hr
        go_wp2
        go_ret
        exact ⟨rfl, HB.out⟩
      · have d1 : (T == 0) = false := by rw [beq_eq_false_iff_ne]; omega
        have d3 : ¬ T = 0 := by omega
        have v1 : IntKind.i64.wrap T = T := by rw [IntKind.wrap_i64]; omega
        have v3 : IntKind.i64.wrap (T + (m : Int)) = R := by rw [h1, IntKind.wrap_i64]; omega
        have v2 : IntKind.i64.wrap (R * I) = R * I := by rw [IntKind.wrap_i64]; omega
        have v4 : wrap64 (R * I) = R * I := by unfold wrap64; omega
        have v5 : wrap64 (T + (m : Int)) = R := by rw [h1]; unfold wrap64; omega
        have hp1 : (R * I).tmod (m : Int) = 1 := HP.out
        clear h1 HP p0 p1
        go_wp2_with fail
        go_fit hr
        rintro r w3 ⟨rfl, hw⟩
        subst w3
        clear hr
        go_wp2
        go_ret
        exact ⟨rfl, HB.out⟩
end Go.Proofs.YtkbgeggflhfleaaGreatDoor
