/-
  limbs.Quo.
-/
import Derived.Test.YtmjokfcojilidaaGreatDoorWlBxBbCvNj
import Derived.Test.YtmjokfcojilidaaGreatDoorUbUcUdOwRa
import Derived.Test.YtmjokfcojilidaaGreatDoorWhPnWk
namespace Go.Proofs.YtmjokfcojilidaaGreatDoor
open Go.RowKit
set_option linter.unusedVariables false
set_option linter.unusedSimpArgs false

/-- What Quo answers. -/
def QuoPost (w : World) (a b : Int) (n m : Nat) (e : Ending) (w' : World) : Prop :=
  ∃ s1 p1 n1 qs s2 p2 n2 rs Q R, e = .returned (.tuple #[.agg #[.bool s1, .slice p1 n1 n1], .agg #[.bool s2, .slice p2 n2 n2], .int .i64 0]) ∧ NI w.heap.size w' s1 p1 n1 qs Q ∧ NI w.heap.size w' s2 p2 n2 rs R ∧
    Q * b + R = a ∧ 0 ≤ R ∧ R < (b.natAbs : Int) ∧ n1 ≤ n + 3 ∧ n2 ≤ n + m + 1 ∧ Below w.heap.size w w'

theorem quo_plus (s t : Bool) (xs ys qs rs : List Int) (h : val qs * val ys + val rs = val xs) (hs : s = false ∨ val rs = 0) : ival (s != t) qs * ival t ys + ival false rs = ival s xs := by
  rcases hs with rfl | hr
  · cases t <;> simp [ival, Int.neg_mul, Int.mul_neg] <;> omega
  · rw [hr] at h
    cases s <;> cases t <;> simp [ival, Int.neg_mul, Int.mul_neg, hr] <;> omega
theorem quo_minus (t : Bool) (xs ys qs rs qs' rs' : List Int) (h : val qs * val ys + val rs = val xs) (h1 : val qs' = val qs + 1) (h2 : val rs' = val ys - val rs) : ival (!t) qs' * ival t ys + ival false rs' = ival true xs := by
  cases t <;> simp [ival, Int.neg_mul, Int.mul_neg, h1, h2, Int.add_mul] <;> omega
theorem abs_ival (t : Bool) {ys : List Int} (h : U32 ys) : ((ival t ys).natAbs : Int) = val ys := by
  have := val_nonneg h
  cases t <;> simp [ival] <;> omega

theorem quo_plus_f (t : Bool) (xs ys qs rs : List Int) (h : val qs * val ys + val rs = val xs) : ival t qs * ival t ys + ival false rs = ival false xs := by
  simpa using quo_plus false t xs ys qs rs h (.inl rfl)
theorem quo_plus_t (t : Bool) (xs ys qs rs : List Int) (h : val qs * val ys + val rs = val xs) (hr : val rs = 0) : ival (!t) qs * ival t ys + ival false rs = ival true xs := by
  simpa using quo_plus true t xs ys qs rs h (.inr hr)

set_option maxHeartbeats 1000000 in
/-- limbs.Quo: by zero. -/
theorem Quo_zero (s t : Bool) (p q : Option Addr) (n nc m mc : Nat) (xs ys : List Int) (w : World) (hA : AI w p n nc xs) (hB : AI w q m mc ys) (h0 : val ys = 0) :
    Calls Tryz.prog 158 #[.agg #[.bool s, .slice p n nc], .agg #[.bool t, .slice q m mc]] w fun e w' => e = .returned (.tuple #[.agg #[.bool false, .slice none 0 0], .agg #[.bool false, .slice none 0 0], .int .i64 2]) ∧ Below w.heap.size w w' := by
  have ht : tlen ys = 0 := (tlen_zero_iff hB.u).2 h0
  go_enter Tryz.func158, Tryz.ntmps158
  go_wp2
  go_quiet (first
    | (go_at_call_of 97 (Value.slice p n nc); exact Calls.quiet_of_same (flip_same (trim_any p n nc xs _ hA.len hA.cap hA.bnd ((((hA.rd.alloc _).alloc _).alloc _).alloc _))))
    | (go_at_call_of 97 (Value.slice q m mc); exact Calls.quiet_of_same (flip_same (trim_any q m mc ys _ hB.len hB.cap hB.bnd ((((hB.rd.alloc _).alloc _).alloc _).alloc _)))))
  go_wp2
  refine bodyPost_ret (v := .tuple #[.agg #[.bool false, .slice none 0 0], .agg #[.bool false, .slice none 0 0], .int .i64 2]) (by simp [results, Tryz.results158, go_sem]) rfl ⟨rfl, ?_⟩
  have hX := boxes4 w (.bool s) (.slice p n nc) (.bool t) (.slice q m mc) 24 nq
  exact (((hX.below.setCell (by simp; omega) _).setCell (by simp; omega) _).setCell (by simp; omega) _).setCell (by simp; omega) _

set_option maxHeartbeats 2000000 in
/-- limbs.Quo, out of a contract of quotient. -/
theorem Quo_of (s t : Bool) (p q : Option Addr) (n nc m mc : Nat) (xs ys : List Int) (w : World) (hA : AI w p n nc xs) (hB : AI w q m mc ys) (h0 : val ys ≠ 0)
    (hQ : ∀ W, AI W p (tlen xs) nc (tr xs) → AI W q (tlen ys) mc (tr ys) → Calls Tryz.prog 185 #[.slice p (tlen xs) nc, .slice q (tlen ys) mc] W fun e w' => ∃ qa qn qs ra rn rs, e = .returned (.tuple #[.slice qa qn qn, .slice ra rn rn]) ∧ QR W.heap.size w' qa qn qs ra rn rs (val (tr xs)) (val (tr ys)) (tlen xs) ∧ Below W.heap.size W w') :
    Calls Tryz.prog 158 #[.agg #[.bool s, .slice p n nc], .agg #[.bool t, .slice q m mc]] w (QuoPost w (ival s xs) (ival t ys) n m) := by
  have tx := tlen_le xs
  have ty := tlen_le ys
  have lx := hA.len
  have ly := hB.len
  have bx := hA.sml
  have by' := hB.sml
  have ht : tlen ys ≠ 0 := fun e => h0 ((tlen_zero_iff hB.u).1 e)
  have ht' : (((tlen ys : Nat) : Int) == 0) = false := beq_eq_false_iff_ne.2 (by omega)
  go_enter Tryz.func158, Tryz.ntmps158
  go_wp2
  go_quiet (first
    | (go_at_call_of 97 (Value.slice p n nc); exact Calls.quiet_of_same (flip_same (trim_any p n nc xs _ hA.len hA.cap hA.bnd ((((hA.rd.alloc _).alloc _).alloc _).alloc _))))
    | (go_at_call_of 97 (Value.slice q m mc); exact Calls.quiet_of_same (flip_same (trim_any q m mc ys _ hB.len hB.cap hB.bnd ((((hB.rd.alloc _).alloc _).alloc _).alloc _)))))
  go_wp2_with fail
  have hX0 := boxes4 w (.bool s) (.slice p n nc) (.bool t) (.slice q m mc) 24 nq
  generalize (((((w.alloc (Obj.cells #[Value.bool s, Value.slice p n nc] 24)).alloc (Obj.cells #[Value.bool t, Value.slice q m mc] 24)).alloc (Obj.cells #[Value.bool false, Value.slice none 0 0] 24)).alloc (Obj.cells #[Value.bool false, Value.slice none 0 0] 24)).drewN nq) = W0 at *
  refine (hQ W0 (hA.below hX0.below).tr (hB.below hX0.below).tr).mono ?_
  rintro e W ⟨qa, qn, qs, ra, rn, rs, rfl, hq, hb0⟩
  have hX := hX0.later hb0
  have hsz0 := hX0.size
  have hq' := hq
  have hB' := hB.below hX.below
  have qb := hq.qb
  have rb := hq.rb
  have k0 := hX.ca0
  have k1 := hX.ca1
  have k2 := hX.cb0
  have k3 := hX.cb1
  have q1 := hq.eq
  have q2 := hq.lt
  rw [val_tr, val_tr] at q1
  rw [val_tr] at q2
  have HQ : Hid (val qs * val ys + val rs = val xs) := q1
  clear q1 hQ
  have hcase : (s = true ∧ tlen rs ≠ 0) ∨ (s = false ∨ val rs = 0) := by
    cases s
    · exact .inr (.inl rfl)
    · by_cases h : tlen rs = 0
      · exact .inr (.inr ((tlen_zero_iff hq.ru).1 h))
      · exact .inl ⟨rfl, h⟩
  rcases hcase with ⟨rfl, hr⟩ | hr
  · have hr' : 0 < ((tlen rs : Nat) : Int) := by omega
    have hrp : 0 < val rs := by
      have := val_nonneg hq.ru
      have h2 : val rs ≠ 0 := fun e => hr ((tlen_zero_iff hq.ru).2 e)
      omega
    go_wp2_with fail
    refine (trim_any ra rn rn rs _ hq.rl (Nat.le_refl _) (by unfold maxLen; omega) hq.rrd).mono ?_
    rintro e w' ⟨rfl, rfl⟩
    go_wp2_with fail
    refine (sum_any qa (some ⟨W.heap.size, 0, none⟩) qn qn 1 1 qs [1] _ hq.ql rfl (by omega) (by decide) (hq.qrd.alloc _) hq.qu (Row.new W 79 .u32 [1]).rd_all (u32_one (by decide))).mono ?_
    rintro e w2 ⟨M, zs, rfl, m1, m2, m3, s1, s2, s3, s4, hb2⟩
    have hX2 := hX.later (((Below.refl _ _).alloc (Nat.le_refl _) (.cells (ca .u32 [1]) 79)).trans (hb2.mono (by simp)))
    have hrr := hq.rrd.below (((Below.refl _ _).alloc (Nat.le_refl _) (.cells (ca .u32 [1]) 79)).trans (hb2.mono (by simp)))
    have hBt := (hB.below hX2.below).tr
    clear k0 k1 k2 k3
    have k0 := hX2.ca0
    have k1 := hX2.ca1
    have k2 := hX2.cb0
    have k3 := hX2.cb1
    go_wp2_with fail
    refine (difference_any q ra (tlen ys) mc rn rn (tr ys) rs _ (length_tr ys) hq.rl (Nat.le_refl _) (by unfold maxLen; omega) (by omega) hBt.rd hBt.u hrr hq.ru (by rw [val_tr]; omega)).mono ?_
    rintro e w5 ⟨ds, rfl, d1, d2, d3, d4, hb5⟩
    have hX5 := hX2.later hb5
    rw [val_tr] at d3
    rw [val_one] at s3
    clear k0 k1 k2 k3
    have k0 := hX5.ca0
    have k1 := hX5.ca1
    have k2 := hX5.cb0
    have k3 := hX5.cb1
    have hsW := hb0.size
    have hsW2 := hb2.size
    rw [World.size_alloc] at hsW2
    have s4' := s4.below hb5 s4.lt
    rw [World.size_alloc] at s4'
    go_wp2_with fail
    refine (number_any (!t) (some ⟨W.heap.size + 1, 0, none⟩) (M) (M) (zs) _ (s1) (Nat.le_refl _) (by unfold maxLen; omega) (s4'.rd_all)).mono ?_
    rintro e w3 ⟨rfl, hb3⟩
    have hX3 := hX5.later hb3
    clear k0 k1 k2 k3
    have k0 := hX3.ca0
    have k1 := hX3.ca1
    have k2 := hX3.cb0
    have k3 := hX3.cb1
    go_wp2_with fail
    refine (number_any false (some ⟨w2.heap.size, 0, none⟩) (tlen ys) (tlen ys) (ds) _ (d1) (Nat.le_refl _) (by unfold maxLen; omega) ((d4.rd_all).below hb3)).mono ?_
    rintro e w4 ⟨rfl, hb4⟩
    have hX4 := hX3.later hb4
    have z0 := hX4.cr0
    have z1 := hX4.cr1
    have z2 := hX4.cs0
    have z3 := hX4.cs1
    have z4 := hX4.fr0
    have z5 := hX4.fr1
    have z6 := hX4.fs0
    have z7 := hX4.fs1
    have n1 := ((((((ni_number (B := W0.heap.size) (!t) (s4'.rd_all) (s2) (from_new (by omega)) (s4'.fz 0)).below hb3).below hb4).set (a := ⟨w.heap.size + 1 + 1, 0, none⟩) (by simp; omega) (.bool (nsg (!t) (zs)))).set (a := ⟨w.heap.size + 1 + 1, 1, none⟩) (by simp; omega) (.slice (nad (some ⟨W.heap.size + 1, 0, none⟩) (zs)) (tlen (zs)) (tlen (zs)))).set (a := ⟨w.heap.size + 1 + 1 + 1, 0, none⟩) (by simp; omega) (.bool (nsg false (ds)))).set (a := ⟨w.heap.size + 1 + 1 + 1, 1, none⟩) (by simp; omega) (.slice (nad (some ⟨w2.heap.size, 0, none⟩) (ds)) (tlen (ds)) (tlen (ds)))
    have n2 := (((((ni_number (B := W0.heap.size) false ((d4.rd_all).below hb3) (d2) (from_new (by omega)) ((d4.fz 0).below hb3)).below hb4).set (a := ⟨w.heap.size + 1 + 1, 0, none⟩) (by simp; omega) (.bool (nsg (!t) (zs)))).set (a := ⟨w.heap.size + 1 + 1, 1, none⟩) (by simp; omega) (.slice (nad (some ⟨W.heap.size + 1, 0, none⟩) (zs)) (tlen (zs)) (tlen (zs)))).set (a := ⟨w.heap.size + 1 + 1 + 1, 0, none⟩) (by simp; omega) (.bool (nsg false (ds)))).set (a := ⟨w.heap.size + 1 + 1 + 1, 1, none⟩) (by simp; omega) (.slice (nad (some ⟨w2.heap.size, 0, none⟩) (ds)) (tlen (ds)) (tlen (ds)))
    have tq := tlen_le (zs)
    have tr' := tlen_le (ds)
    have lq := s1
    have lr := d1
    go_wp2
    refine bodyPost_ret (v := .tuple #[.agg #[.bool (nsg (!t) (zs)), .slice (nad (some ⟨W.heap.size + 1, 0, none⟩) (zs)) (tlen (zs)) (tlen (zs))], .agg #[.bool (nsg false (ds)), .slice (nad (some ⟨w2.heap.size, 0, none⟩) (ds)) (tlen (ds)) (tlen (ds))], .int .i64 0]) (by simp [results, Tryz.results158, go_sem, z0, z1, z2, z3]) rfl ?_
    refine ⟨_, _, _, tr (zs), _, _, _, tr (ds), _, _, rfl, n1.mono (by omega), n2.mono (by omega), quo_minus t xs ys qs rs zs ds HQ.out s3 d3, ?_, ?_, by omega, by omega, ?_⟩
    · exact val_nonneg (d2)
    · rw [abs_ival t hB.u]; show val (ds) < _; omega
    · exact (((hX4.below.setCell (by simp; omega) _).setCell (by simp; omega) _).setCell (by simp; omega) _).setCell (by simp; omega) _
  · cases s
    · go_wp2_with fail
      refine (number_any t (qa) (qn) (qn) (qs) _ (hq.ql) (Nat.le_refl _) (by unfold maxLen; omega) (hq.qrd)).mono ?_
      rintro e w3 ⟨rfl, hb3⟩
      have hX3 := hX.later hb3
      clear k0 k1 k2 k3
      have k0 := hX3.ca0
      have k1 := hX3.ca1
      have k2 := hX3.cb0
      have k3 := hX3.cb1
      go_wp2_with fail
      refine (number_any false (ra) (rn) (rn) (rs) _ (hq.rl) (Nat.le_refl _) (by unfold maxLen; omega) ((hq.rrd).below hb3)).mono ?_
      rintro e w4 ⟨rfl, hb4⟩
      have hX4 := hX3.later hb4
      have z0 := hX4.cr0
      have z1 := hX4.cr1
      have z2 := hX4.cs0
      have z3 := hX4.cs1
      have z4 := hX4.fr0
      have z5 := hX4.fr1
      have z6 := hX4.fs0
      have z7 := hX4.fs1
      have n1 := ((((((ni_number (B := W0.heap.size) t (hq.qrd) (hq.qu) (hq.qf) (hq.qz)).below hb3).below hb4).set (a := ⟨w.heap.size + 1 + 1, 0, none⟩) (by simp; omega) (.bool (nsg t (qs)))).set (a := ⟨w.heap.size + 1 + 1, 1, none⟩) (by simp; omega) (.slice (nad (qa) (qs)) (tlen (qs)) (tlen (qs)))).set (a := ⟨w.heap.size + 1 + 1 + 1, 0, none⟩) (by simp; omega) (.bool (nsg false (rs)))).set (a := ⟨w.heap.size + 1 + 1 + 1, 1, none⟩) (by simp; omega) (.slice (nad (ra) (rs)) (tlen (rs)) (tlen (rs)))
      have n2 := (((((ni_number (B := W0.heap.size) false ((hq.rrd).below hb3) (hq.ru) (hq.rf) (hq.rz.below hb3)).below hb4).set (a := ⟨w.heap.size + 1 + 1, 0, none⟩) (by simp; omega) (.bool (nsg t (qs)))).set (a := ⟨w.heap.size + 1 + 1, 1, none⟩) (by simp; omega) (.slice (nad (qa) (qs)) (tlen (qs)) (tlen (qs)))).set (a := ⟨w.heap.size + 1 + 1 + 1, 0, none⟩) (by simp; omega) (.bool (nsg false (rs)))).set (a := ⟨w.heap.size + 1 + 1 + 1, 1, none⟩) (by simp; omega) (.slice (nad (ra) (rs)) (tlen (rs)) (tlen (rs)))
      have tq := tlen_le (qs)
      have tr' := tlen_le (rs)
      have lq := hq.ql
      have lr := hq.rl
      go_wp2
      refine bodyPost_ret (v := .tuple #[.agg #[.bool (nsg t (qs)), .slice (nad (qa) (qs)) (tlen (qs)) (tlen (qs))], .agg #[.bool (nsg false (rs)), .slice (nad (ra) (rs)) (tlen (rs)) (tlen (rs))], .int .i64 0]) (by simp [results, Tryz.results158, go_sem, z0, z1, z2, z3]) rfl ?_
      refine ⟨_, _, _, tr (qs), _, _, _, tr (rs), _, _, rfl, n1.mono (by omega), n2.mono (by omega), quo_plus_f t xs ys qs rs HQ.out, ?_, ?_, by omega, by omega, ?_⟩
      · exact val_nonneg (hq.ru)
      · rw [abs_ival t hB.u]; show val (rs) < _; omega
      · exact (((hX4.below.setCell (by simp; omega) _).setCell (by simp; omega) _).setCell (by simp; omega) _).setCell (by simp; omega) _
    · have hr0 : val rs = 0 := by rcases hr with h | h; cases h; exact h
      have htr : tlen rs = 0 := (tlen_zero_iff hq.ru).2 hr0
      have HR : Hid (tlen rs = 0 ∧ val rs = 0) := ⟨htr, hr0⟩
      have hn0 : ¬ 0 < ((tlen rs : Nat) : Int) := by omega
      clear htr hr0 hr
      go_wp2_with fail
      refine (trim_any ra rn rn rs _ hq.rl (Nat.le_refl _) (by unfold maxLen; omega) hq.rrd).mono ?_
      rintro e w' ⟨rfl, rfl⟩
      go_wp2_with fail
      refine (number_any (!t) (qa) (qn) (qn) (qs) _ (hq.ql) (Nat.le_refl _) (by unfold maxLen; omega) (hq.qrd)).mono ?_
      rintro e w3 ⟨rfl, hb3⟩
      have hX3 := hX.later hb3
      clear k0 k1 k2 k3
      have k0 := hX3.ca0
      have k1 := hX3.ca1
      have k2 := hX3.cb0
      have k3 := hX3.cb1
      go_wp2_with fail
      refine (number_any false (ra) (rn) (rn) (rs) _ (hq.rl) (Nat.le_refl _) (by unfold maxLen; omega) ((hq.rrd).below hb3)).mono ?_
      rintro e w4 ⟨rfl, hb4⟩
      have hX4 := hX3.later hb4
      have z0 := hX4.cr0
      have z1 := hX4.cr1
      have z2 := hX4.cs0
      have z3 := hX4.cs1
      have z4 := hX4.fr0
      have z5 := hX4.fr1
      have z6 := hX4.fs0
      have z7 := hX4.fs1
      have n1 := ((((((ni_number (B := W0.heap.size) (!t) (hq.qrd) (hq.qu) (hq.qf) (hq.qz)).below hb3).below hb4).set (a := ⟨w.heap.size + 1 + 1, 0, none⟩) (by simp; omega) (.bool (nsg (!t) (qs)))).set (a := ⟨w.heap.size + 1 + 1, 1, none⟩) (by simp; omega) (.slice (nad (qa) (qs)) (tlen (qs)) (tlen (qs)))).set (a := ⟨w.heap.size + 1 + 1 + 1, 0, none⟩) (by simp; omega) (.bool (nsg false (rs)))).set (a := ⟨w.heap.size + 1 + 1 + 1, 1, none⟩) (by simp; omega) (.slice (nad (ra) (rs)) (tlen (rs)) (tlen (rs)))
      have n2 := (((((ni_number (B := W0.heap.size) false ((hq.rrd).below hb3) (hq.ru) (hq.rf) (hq.rz.below hb3)).below hb4).set (a := ⟨w.heap.size + 1 + 1, 0, none⟩) (by simp; omega) (.bool (nsg (!t) (qs)))).set (a := ⟨w.heap.size + 1 + 1, 1, none⟩) (by simp; omega) (.slice (nad (qa) (qs)) (tlen (qs)) (tlen (qs)))).set (a := ⟨w.heap.size + 1 + 1 + 1, 0, none⟩) (by simp; omega) (.bool (nsg false (rs)))).set (a := ⟨w.heap.size + 1 + 1 + 1, 1, none⟩) (by simp; omega) (.slice (nad (ra) (rs)) (tlen (rs)) (tlen (rs)))
      have tq := tlen_le (qs)
      have tr' := tlen_le (rs)
      have lq := hq.ql
      have lr := hq.rl
      go_wp2
      refine bodyPost_ret (v := .tuple #[.agg #[.bool (nsg (!t) (qs)), .slice (nad (qa) (qs)) (tlen (qs)) (tlen (qs))], .agg #[.bool (nsg false (rs)), .slice (nad (ra) (rs)) (tlen (rs)) (tlen (rs))], .int .i64 0]) (by simp [results, Tryz.results158, go_sem, z0, z1, z2, z3]) rfl ?_
      refine ⟨_, _, _, tr (qs), _, _, _, tr (rs), _, _, rfl, n1.mono (by omega), n2.mono (by omega), quo_plus_t t xs ys qs rs HQ.out HR.out.2, ?_, ?_, by omega, by omega, ?_⟩
      · exact val_nonneg (hq.ru)
      · rw [abs_ival t hB.u]; show val (rs) < _; omega
      · exact (((hX4.below.setCell (by simp; omega) _).setCell (by simp; omega) _).setCell (by simp; omega) _).setCell (by simp; omega) _
end Go.Proofs.YtmjokfcojilidaaGreatDoor
/-
  What begun needs: quotients by one limb.
-/
namespace Go.Proofs.YtmjokfcojilidaaGreatDoor
open Go.RowKit
set_option linter.unusedVariables false
set_option linter.unusedSimpArgs false

theorem tr_one {ys : List Int} (hU : U32 ys) (h : tlen ys = 1) : tr ys = [val ys] := by
  have hl := length_tr ys
  rw [h] at hl
  match he : tr ys, hl with
  | [d], _ =>
    have := val_tr ys
    rw [he, val_one] at this
    rw [this]

/-- limbs.Quo by a size of one limb. -/
theorem Quo_one (s t : Bool) (p q : Option Addr) (n nc m mc : Nat) (xs ys : List Int) (w : World) (hA : AI w p n nc xs) (hB : AI w q m mc ys) (h1 : tlen ys = 1) :
    Calls Tryz.prog 158 #[.agg #[.bool s, .slice p n nc], .agg #[.bool t, .slice q m mc]] w (QuoPost w (ival s xs) (ival t ys) n m) := by
  have h0 : val ys ≠ 0 := fun e => by have := (tlen_zero_iff hB.u).2 e; omega
  refine Quo_of s t p q n nc m mc xs ys w hA hB h0 (fun W hA' hB' => ?_)
  rcases Int.lt_or_le (val (tr xs)) (val (tr ys)) with h | h
  · exact quotient_lt p q _ nc _ mc (tr xs) (tr ys) W hA' hB' h
  · have ht := tr_one hB.u h1
    have hp := val_nonneg hB.u
    rw [h1] at hB' ⊢
    rw [ht] at hB' h ⊢
    rw [val_one] at h
    exact quotient_one p q _ nc mc (tr xs) (val ys) W hA' hB' (by omega) h

theorem ival_neg {s : Bool} {xs : List Int} {z : Int} (hU : U32 xs) (h : ival s xs = z) (hz : z < 0) : s = true ∧ val xs = -z := by
  have := val_nonneg hU
  cases s
  · simp only [ival, Bool.false_eq_true, if_false] at h; omega
  · simp only [ival, if_true] at h; exact ⟨rfl, by omega⟩
theorem ival_pos {s : Bool} {xs : List Int} {z : Int} (hU : U32 xs) (h : ival s xs = z) (hz : 0 < z) : s = false ∧ val xs = z := by
  have := val_nonneg hU
  cases s
  · simp only [ival, Bool.false_eq_true, if_false] at h; exact ⟨rfl, h⟩
  · simp only [ival, if_true] at h; omega
theorem tlen_small {xs : List Int} (hU : U32 xs) (h0 : 0 < val xs) (h1 : val xs < 4294967296) : tlen xs = 1 := by
  rcases Nat.lt_trichotomy (tlen xs) 1 with h | h | h
  · have := (tlen_zero_iff hU).1 (by omega); omega
  · exact h
  · have h2 := val_pos_of_top hU (by omega)
    have h3 : pw 1 ≤ pw (tlen xs - 1) := pw_mono (by omega)
    have h4 : pw 1 = 4294967296 := rfl
    omega

end Go.Proofs.YtmjokfcojilidaaGreatDoor
/-
  Plain facts on digits to the base 65536 and on numbers in normal form: no program in sight.
-/
namespace Go.Proofs.YtmjokfcojilidaaGreatDoor
open Go.RowKit
set_option linter.unusedVariables false
set_option linter.unusedSimpArgs false

/-- Limbs in normal form with a sign, of the number z. -/
structure NN (s : Bool) (xs : List Int) (z : Int) : Prop where
  u : U32 xs
  nrm : tlen xs = xs.length
  sg : xs.length = 0 → s = false
  v : ival s xs = z
theorem NI.nn {B : Nat} {w : World} {s : Bool} {p : Option Addr} {n : Nat} {xs : List Int} {z : Int} (h : NI B w s p n xs z) : NN s xs z := ⟨h.u, by rw [h.nrm, h.len], fun e => h.sg (by rw [← h.len, e]), h.v⟩
theorem tr_self {xs : List Int} (h : tlen xs = xs.length) : tr xs = xs := by rw [tr, h, List.take_length]
theorem nn_same {s t : Bool} {xs ys : List Int} {z : Int} (h : NN s xs z) (k : NN t ys z) : s = t ∧ xs = ys := by
  have key : ∀ {s t : Bool} {xs ys : List Int}, NN s xs z → NN t ys z → val xs = val ys → s = t → s = t ∧ xs = ys := fun h k hv hs => by
    have := tr_eq h.u k.u hv
    rw [tr_self h.nrm, tr_self k.nrm] at this
    exact ⟨hs, this⟩
  have hx := val_nonneg h.u
  have hy := val_nonneg k.u
  have h1 := h.v
  have h2 := k.v
  rcases Int.lt_trichotomy z 0 with hz | hz | hz
  · obtain ⟨a, b⟩ := ival_neg h.u h1 hz
    obtain ⟨c, d⟩ := ival_neg k.u h2 hz
    exact key h k (by rw [b, d]) (by rw [a, c])
  · have e1 : val xs = 0 := by cases s <;> simp [ival] at h1 <;> omega
    have e2 : val ys = 0 := by cases t <;> simp [ival] at h2 <;> omega
    have f1 := h.sg (by rw [← h.nrm]; exact (tlen_zero_iff h.u).2 e1)
    have f2 := k.sg (by rw [← k.nrm]; exact (tlen_zero_iff k.u).2 e2)
    exact key h k (by rw [e1, e2]) (by rw [f1, f2])
  · obtain ⟨a, b⟩ := ival_pos h.u h1 hz
    obtain ⟨c, d⟩ := ival_pos k.u h2 hz
    exact key h k (by rw [b, d]) (by rw [a, c])

/-- The base of digits to the k. -/
def pd (k : Nat) : Int := 65536 ^ k
theorem pd_zero : pd 0 = 1 := rfl
theorem pd_succ (k : Nat) : pd (k + 1) = 65536 * pd k := by unfold pd; rw [Int.pow_succ, Int.mul_comm]
theorem pd_pos (k : Nat) : 0 < pd k := Int.pow_pos (by decide)
theorem pd_add (a b : Nat) : pd (a + b) = pd a * pd b := Int.pow_add ..
theorem pd_mono {a b : Nat} (h : a ≤ b) : pd a ≤ pd b := by
  obtain ⟨c, rfl⟩ := Nat.exists_eq_add_of_le h
  rw [pd_add]
  have h1 := pd_pos a
  have h2 := pd_pos c
  have : pd a * 1 ≤ pd a * pd c := Int.mul_le_mul_of_nonneg_left (by omega) (by omega)
  omega
theorem pd_two (k : Nat) : pd (2 * k) = pw k := by
  induction k with
  | zero => rfl
  | succ k ih => rw [show 2 * (k + 1) = 2 * k + 1 + 1 by omega, pd_succ, pd_succ, pw_succ, ih]; omega
theorem vd_append (a b : List Int) : vd (a ++ b) = vd a + pd a.length * vd b := by
  induction a with
  | nil => simp [vd, pd_zero]
  | cons x r ih =>
    simp only [List.cons_append, vd, List.length_cons, pd_succ, ih, Int.mul_add, Int.mul_assoc]
    omega
theorem vd_one (x : Int) : vd [x] = x := by simp [vd]
theorem vd_take_succ (xs : List Int) (k : Nat) : vd (xs.take (k + 1)) = vd (xs.take k) + pd k * gx xs k := by
  by_cases h : k < xs.length
  · rw [take_snoc xs k h, vd_append, vd_one, List.length_take, Nat.min_eq_left (by omega)]
  · rw [gx_past xs k (by omega) k (Nat.le_refl _), List.take_of_length_le (by omega), List.take_of_length_le (by omega)]; simp
theorem u16_nil : U16 [] := fun j => by rw [gx_nil]; decide
theorem u16_take {xs : List Int} (h : U16 xs) (k : Nat) : U16 (xs.take k) := fun j => by
  by_cases hj : j < k
  · rw [gx_take xs k j hj]; exact h j
  · rw [gx_past (xs.take k) k (by simp; omega) j (by omega)]; decide
theorem u16_drop {xs : List Int} (h : U16 xs) (k : Nat) : U16 (xs.drop k) := fun j => by rw [gx_drop]; exact h _
theorem u16_append {a b : List Int} (ha : U16 a) (hb : U16 b) : U16 (a ++ b) := fun j => by
  by_cases hj : j < a.length
  · rw [gx_append_left a b j hj]; exact ha j
  · rw [gx_append_right a b j (by omega)]; exact hb _
theorem u16_one {x : Int} (h : 0 ≤ x ∧ x < 65536) : U16 [x] := u16_cons h u16_nil
theorem u16_tail {x : Int} {r : List Int} (h : U16 (x :: r)) : (0 ≤ x ∧ x < 65536) ∧ U16 r :=
  ⟨by have := h 0; rwa [gx_zero] at this, fun j => by have := h (j + 1); rwa [gx_succ] at this⟩
theorem vd_nonneg {xs : List Int} (h : U16 xs) : 0 ≤ vd xs := by
  induction xs with
  | nil => simp [vd]
  | cons x r ih => obtain ⟨h1, h2⟩ := u16_tail h; have := ih h2; simp only [vd]; omega
theorem vd_lt {xs : List Int} (h : U16 xs) : vd xs < pd xs.length := by
  induction xs with
  | nil => simp [vd, pd_zero]
  | cons x r ih => obtain ⟨h1, h2⟩ := u16_tail h; have := ih h2; simp only [vd, List.length_cons, pd_succ]; omega
theorem vd_drop_take (xs : List Int) (k : Nat) (h : k ≤ xs.length) : vd xs = vd (xs.take k) + pd k * vd (xs.drop k) := by
  have := vd_append (xs.take k) (xs.drop k)
  rwa [List.take_append_drop, List.length_take, Nat.min_eq_left h] at this
theorem vd_at (a : List Int) (j : Nat) (h : j < a.length) : vd a = vd (a.take j) + pd j * gx a j + pd (j + 1) * vd (a.drop (j + 1)) := by
  rw [vd_drop_take a (j + 1) (by omega), vd_take_succ a j]
/-- The highest digit in which two numbers differ decides. -/
theorem vd_lt_at {a b : List Int} (ha : U16 a) (hb : U16 b) (j : Nat) (h1 : j < a.length) (h2 : j < b.length) (hd : a.drop (j + 1) = b.drop (j + 1)) (h : gx a j < gx b j) : vd a < vd b := by
  rw [vd_at a j h1, vd_at b j h2, hd]
  have l1 := vd_lt (u16_take ha j)
  have l2 := vd_nonneg (u16_take hb j)
  rw [List.length_take, Nat.min_eq_left (by omega)] at l1
  have l3 : pd j * gx a j ≤ pd j * (gx b j - 1) := Int.mul_le_mul_of_nonneg_left (by omega) (Int.le_of_lt (pd_pos j))
  rw [Int.mul_sub, Int.mul_one] at l3
  omega
theorem vd_pos_of_top {xs : List Int} (h : U16 xs) (ht : 0 < tlen xs) : pd (tlen xs - 1) ≤ vd xs := by
  have hl := tlen_le xs
  have ht' := tlen_top xs ht
  have hg := h (tlen xs - 1)
  rw [vd_at xs (tlen xs - 1) (by omega)]
  have h1 := vd_nonneg (u16_take h (tlen xs - 1))
  have h2 := vd_nonneg (u16_drop h (tlen xs - 1 + 1))
  have h3 := pd_pos (tlen xs - 1)
  have h4 : pd (tlen xs - 1) * 1 ≤ pd (tlen xs - 1) * gx xs (tlen xs - 1) := Int.mul_le_mul_of_nonneg_left (by omega) (by omega)
  have h5 := Int.mul_nonneg (Int.le_of_lt (pd_pos (tlen xs - 1 + 1))) h2
  omega
theorem vd_lt_tlen {xs : List Int} (h : U16 xs) : vd xs < pd (tlen xs) := by
  have := vd_lt (u16_tr h)
  rwa [vd_tr, length_tr] at this
theorem tlen_zero_iff16 {xs : List Int} (h : U16 xs) : tlen xs = 0 ↔ vd xs = 0 := by
  constructor
  · intro h0
    rw [← vd_tr, tr, h0]; rfl
  · intro h0
    rcases Nat.eq_zero_or_pos (tlen xs) with ht | ht
    · exact ht
    · have := vd_pos_of_top h ht; have := pd_pos (tlen xs - 1); omega
theorem vd_lt_len {a b : List Int} (ha : U16 a) (hb : U16 b) (h : tlen a < tlen b) : vd a < vd b := by
  have h1 := vd_lt_tlen ha
  have h2 := vd_pos_of_top hb (by omega)
  have h3 : pd (tlen a) ≤ pd (tlen b - 1) := pd_mono (by omega)
  omega

/-- Digits as limbs: so many. -/
def jn (ds : List Int) (n : Nat) : List Int := (List.range n).map fun j => gx ds (2 * j) + 65536 * gx ds (2 * j + 1)
theorem length_jn (ds : List Int) (n : Nat) : (jn ds n).length = n := by simp [jn]
theorem jn_succ (ds : List Int) (n : Nat) : jn ds (n + 1) = jn ds n ++ [gx ds (2 * n) + 65536 * gx ds (2 * n + 1)] := by simp [jn, List.range_succ]
theorem u32_jn {ds : List Int} (h : U16 ds) (n : Nat) : U32 (jn ds n) := by
  induction n with
  | zero => exact u32_nil
  | succ n ih => rw [jn_succ]; exact u32_append ih (u32_one (by have := h (2 * n); have := h (2 * n + 1); omega))
theorem val_jn (ds : List Int) (n : Nat) : val (jn ds n) = vd (ds.take (2 * n)) := by
  induction n with
  | zero => rfl
  | succ n ih =>
    rw [jn_succ, val_append, ih, length_jn, val_one, show 2 * (n + 1) = 2 * n + 1 + 1 by omega, vd_take_succ, vd_take_succ, pd_succ, pd_two, Int.mul_add]
    have : pw n * (65536 * gx ds (2 * n + 1)) = 65536 * pw n * gx ds (2 * n + 1) := by rw [← Int.mul_assoc, Int.mul_comm (pw n) 65536]
    omega
theorem gx_jn (ds : List Int) (n j : Nat) (h : j < n) : gx (jn ds n) j = gx ds (2 * j) + 65536 * gx ds (2 * j + 1) := by
  rw [gx_mem _ _ (by rw [length_jn]; exact h)]; simp [jn]
theorem nn_jn {s : Bool} {ds : List Int} {m : Nat} {z : Int} (hU : U16 ds) (hn : tlen ds = ds.length) (hs : ds.length = 0 → s = false) (hv : rval s ds = z) (hm : m = (ds.length + 1) / 2) : NN s (jn ds m) z := by
  refine ⟨u32_jn hU m, ?_, fun h => hs (by rw [length_jn] at h; omega), ?_⟩
  · rw [length_jn]
    rcases Nat.eq_zero_or_pos m with h0 | h0
    · rw [h0]; rfl
    · refine tlen_eq _ _ (fun j hj => gx_past _ m (by rw [length_jn]; omega) j hj) (.inr ?_)
      rw [gx_jn ds m (m - 1) (by omega)]
      have ht := tlen_top ds (by omega)
      rw [hn] at ht
      have h1 := hU (2 * (m - 1))
      have h2 := hU (2 * (m - 1) + 1)
      by_cases he : ds.length - 1 = 2 * (m - 1)
      · rw [he] at ht; omega
      · rw [show ds.length - 1 = 2 * (m - 1) + 1 by omega] at ht; omega
  · rw [ival, val_jn, List.take_of_length_le (by omega)]; exact hv
/-- One number, one list of digits of its length. -/
theorem vd_inj {a b : List Int} (ha : U16 a) (hb : U16 b) (hl : a.length = b.length) (h : vd a = vd b) : a = b := by
  induction a generalizing b with
  | nil => cases b with
    | nil => rfl
    | cons y s => simp at hl
  | cons x r ih => cases b with
    | nil => simp at hl
    | cons y s =>
      obtain ⟨h1, h2⟩ := u16_tail ha
      obtain ⟨h3, h4⟩ := u16_tail hb
      simp only [vd] at h
      simp only [List.length_cons] at hl
      rw [ih h2 h4 (by omega) (by omega), show x = y by omega]
theorem vd_zero (n : Nat) : vd (zeros n) = 0 := by
  have := vd_append_zeros [] (zeros n) (gx_zeros n)
  simpa [vd] using this
theorem u16_zeros (n : Nat) : U16 (zeros n) := fun j => by rw [gx_zeros]; decide
theorem cut16 (P t : Int) : P * (t % 65536) + 65536 * P * (t / 65536) = P * t := by
  have h := Int.emod_add_mul_ediv t 65536
  have e : 65536 * P * (t / 65536) = P * (65536 * (t / 65536)) := by
    rw [Int.mul_comm 65536 P, Int.mul_assoc]
  rw [e, ← Int.mul_add, h]
theorem vd_set (R : List Int) (j : Nat) (v : Int) (h : j < R.length) : vd (R.set j v) = vd R + pd j * (v - gx R j) := by
  rw [vd_at R j h, vd_at (R.set j v) j (by rw [List.length_set]; exact h), gx_set_eq R j v h, List.take_set_of_le (Nat.le_refl _), List.drop_set_of_lt (by omega), Int.mul_sub]
  omega
theorem u16_set {R : List Int} (h : U16 R) (j : Nat) {v : Int} (hv : 0 ≤ v ∧ v < 65536) : U16 (R.set j v) := fun k => by
  by_cases hk : j = k
  · subst hk
    by_cases hl : j < R.length
    · rw [gx_set_eq R j v hl]; exact hv
    · rw [gx_past (R.set j v) R.length (by simp) j (by omega)]; decide
  · rw [gx_set_ne R j k v hk]; exact h k
end Go.Proofs.YtmjokfcojilidaaGreatDoor
