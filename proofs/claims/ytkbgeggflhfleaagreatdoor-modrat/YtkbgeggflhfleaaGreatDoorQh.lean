/-
  limbs.Quo, out of a contract of quotient whose rest may have spare room.
-/
import Derived.Test.YtkbgeggflhfleaaGreatDoorQg
import Derived.Test.YtkbgeggflhfleaaGreatDoorWlBxBbCvNjUbUcUdOwRaWmBe
namespace Go.Proofs.YtkbgeggflhfleaaGreatDoor
open Go.RowKit
set_option linter.unusedVariables false
set_option linter.unusedSimpArgs false
set_option maxHeartbeats 8000000
theorem Quo_gen (s t : Bool) (p q : Option Addr) (n nc m mc : Nat) (xs ys : List Int) (w : World) (hA : AI w p n nc xs) (hB : AI w q m mc ys) (h0 : val ys ≠ 0)
    (hQ : ∀ W, AI W p (tlen xs) nc (tr xs) → AI W q (tlen ys) mc (tr ys) → Calls Tryz.prog 170 #[.slice p (tlen xs) nc, .slice q (tlen ys) mc] W (QPost (val (tr xs)) (val (tr ys)) (tlen xs) W)) :
    Calls Tryz.prog 122 #[.agg #[.bool s, .slice p n nc], .agg #[.bool t, .slice q m mc]] w (QuoPost w (ival s xs) (ival t ys) n m) := by
  have tx := tlen_le xs
  have ty := tlen_le ys
  have lx := hA.len
  have ly := hB.len
  have bx := hA.sml
  have by' := hB.sml
  have ht : tlen ys ≠ 0 := fun e => h0 ((tlen_zero_iff hB.u).1 e)
  have ht' : (((tlen ys : Nat) : Int) == 0) = false := beq_eq_false_iff_ne.2 (by omega)
  go_enter Tryz.func122, Tryz.ntmps122
  go_wp2
  go_quiet (first
    | (go_at_call_of 116 (Value.slice p n nc); exact Calls.quiet_of_same (flip_same (trim_any p n nc xs _ hA.len hA.cap hA.bnd ((((hA.rd.alloc _).alloc _).alloc _).alloc _))))
    | (go_at_call_of 116 (Value.slice q m mc); exact Calls.quiet_of_same (flip_same (trim_any q m mc ys _ hB.len hB.cap hB.bnd ((((hB.rd.alloc _).alloc _).alloc _).alloc _)))))
  go_wp2_with fail
  have hX0 := boxes4 w (.bool s) (.slice p n nc) (.bool t) (.slice q m mc) 30 nq
  generalize (((((w.alloc (Obj.cells #[Value.bool s, Value.slice p n nc] 30)).alloc (Obj.cells #[Value.bool t, Value.slice q m mc] 30)).alloc (Obj.cells #[Value.bool false, Value.slice none 0 0] 30)).alloc (Obj.cells #[Value.bool false, Value.slice none 0 0] 30)).drewN nq) = W0 at *
  refine (hQ W0 (hA.below hX0.below).tr (hB.below hX0.below).tr).mono ?_
  rintro e W ⟨qa, qn, qs, ra, rn, rc, rs, rfl, hq, hrc, hrc2, hb0⟩
  have hX := hX0.later hb0
  have hsz0 := hX0.size
  have hq' := hq
  have hB' := hB.below hX.below
  have qb := hq.qb
  have rb := hq.rb
  have k0 := hX.ca0
  have k1 := hX.ca1
  have k2 := hX.cb0
  have k3 := hX.cb1
  have q1 := hq.eq
  have q2 := hq.lt
  rw [val_tr, val_tr] at q1
  rw [val_tr] at q2
  have HQ : Hid (val qs * val ys + val rs = val xs) := q1
  clear q1 hQ
  have hcase : (s = true ∧ tlen rs ≠ 0) ∨ (s = false ∨ val rs = 0) := by
    cases s
    · exact .inr (.inl rfl)
    · by_cases h : tlen rs = 0
      · exact .inr (.inr ((tlen_zero_iff hq.ru).1 h))
      · exact .inl ⟨rfl, h⟩
  rcases hcase with ⟨rfl, hr⟩ | hr
  · have hr' : 0 < ((tlen rs : Nat) : Int) := by omega
    have hrp : 0 < val rs := by
      have := val_nonneg hq.ru
      have h2 : val rs ≠ 0 := fun e => hr ((tlen_zero_iff hq.ru).2 e)
      omega
    go_wp2_with fail
    refine (trim_any ra rn rc rs _ hq.rl hrc (by unfold maxLen; omega) hq.rrd).mono ?_
    rintro e w' ⟨rfl, rfl⟩
    go_wp2_with fail
    refine (sum_any qa (some ⟨W.heap.size, 0, none⟩) qn qn 1 1 qs [1] _ hq.ql rfl (by omega) (by decide) (hq.qrd.alloc _) hq.qu (Row.new W 134 .u32 [1]).rd_all (u32_one (by decide))).mono ?_
    rintro e w2 ⟨M, zs, rfl, m1, m2, m3, s1, s2, s3, s4, hb2⟩
    have hX2 := hX.later (((Below.refl _ _).alloc (Nat.le_refl _) (.cells (ca .u32 [1]) 134)).trans (hb2.mono (by simp)))
    have hrr := hq.rrd.below (((Below.refl _ _).alloc (Nat.le_refl _) (.cells (ca .u32 [1]) 134)).trans (hb2.mono (by simp)))
    have hBt := (hB.below hX2.below).tr
    clear k0 k1 k2 k3
    have k0 := hX2.ca0
    have k1 := hX2.ca1
    have k2 := hX2.cb0
    have k3 := hX2.cb1
    go_wp2_with fail
    refine (difference_any q ra (tlen ys) mc rn rc (tr ys) rs _ (length_tr ys) hq.rl hrc (by unfold maxLen; omega) (by omega) hBt.rd hBt.u hrr hq.ru (by rw [val_tr]; omega)).mono ?_
    rintro e w5 ⟨ds, rfl, d1, d2, d3, d4, hb5⟩
    have hX5 := hX2.later hb5
    rw [val_tr] at d3
    rw [val_one] at s3
    clear k0 k1 k2 k3
    have k0 := hX5.ca0
    have k1 := hX5.ca1
    have k2 := hX5.cb0
    have k3 := hX5.cb1
    have hsW := hb0.size
    have hsW2 := hb2.size
    rw [World.size_alloc] at hsW2
    have s4' := s4.below hb5 s4.lt
    rw [World.size_alloc] at s4'
    go_wp2_with fail
    refine (number_any (!t) (some ⟨W.heap.size + 1, 0, none⟩) (M) (M) (zs) _ (s1) (Nat.le_refl _) (by unfold maxLen; omega) (s4'.rd_all)).mono ?_
    rintro e w3 ⟨rfl, hb3⟩
    have hX3 := hX5.later hb3
    clear k0 k1 k2 k3
    have k0 := hX3.ca0
    have k1 := hX3.ca1
    have k2 := hX3.cb0
    have k3 := hX3.cb1
    go_wp2_with fail
    refine (number_any false (some ⟨w2.heap.size, 0, none⟩) (tlen ys) (tlen ys) (ds) _ (d1) (Nat.le_refl _) (by unfold maxLen; omega) ((d4.rd_all).below hb3)).mono ?_
    rintro e w4 ⟨rfl, hb4⟩
    have hX4 := hX3.later hb4
    have z0 := hX4.cr0
    have z1 := hX4.cr1
    have z2 := hX4.cs0
    have z3 := hX4.cs1
    have z4 := hX4.fr0
    have z5 := hX4.fr1
    have z6 := hX4.fs0
    have z7 := hX4.fs1
    have n1 := ((((((ni_number (B := W0.heap.size) (!t) (s4'.rd_all) (s2) (from_new (by omega)) (s4'.fz 0)).below hb3).below hb4).set (a := ⟨w.heap.size + 1 + 1, 0, none⟩) (by simp; omega) (.bool (nsg (!t) (zs)))).set (a := ⟨w.heap.size + 1 + 1, 1, none⟩) (by simp; omega) (.slice (nad (some ⟨W.heap.size + 1, 0, none⟩) (zs)) (tlen (zs)) (tlen (zs)))).set (a := ⟨w.heap.size + 1 + 1 + 1, 0, none⟩) (by simp; omega) (.bool (nsg false (ds)))).set (a := ⟨w.heap.size + 1 + 1 + 1, 1, none⟩) (by simp; omega) (.slice (nad (some ⟨w2.heap.size, 0, none⟩) (ds)) (tlen (ds)) (tlen (ds)))
    have n2 := (((((ni_number (B := W0.heap.size) false ((d4.rd_all).below hb3) (d2) (from_new (by omega)) ((d4.fz 0).below hb3)).below hb4).set (a := ⟨w.heap.size + 1 + 1, 0, none⟩) (by simp; omega) (.bool (nsg (!t) (zs)))).set (a := ⟨w.heap.size + 1 + 1, 1, none⟩) (by simp; omega) (.slice (nad (some ⟨W.heap.size + 1, 0, none⟩) (zs)) (tlen (zs)) (tlen (zs)))).set (a := ⟨w.heap.size + 1 + 1 + 1, 0, none⟩) (by simp; omega) (.bool (nsg false (ds)))).set (a := ⟨w.heap.size + 1 + 1 + 1, 1, none⟩) (by simp; omega) (.slice (nad (some ⟨w2.heap.size, 0, none⟩) (ds)) (tlen (ds)) (tlen (ds)))
    have tq := tlen_le (zs)
    have tr' := tlen_le (ds)
    have lq := s1
    have lr := d1
    go_wp2
    refine bodyPost_ret (v := .tuple #[.agg #[.bool (nsg (!t) (zs)), .slice (nad (some ⟨W.heap.size + 1, 0, none⟩) (zs)) (tlen (zs)) (tlen (zs))], .agg #[.bool (nsg false (ds)), .slice (nad (some ⟨w2.heap.size, 0, none⟩) (ds)) (tlen (ds)) (tlen (ds))], .int .i64 0]) (by simp [results, Tryz.results122, go_sem, z0, z1, z2, z3]) rfl ?_
    refine ⟨_, _, _, tr (zs), _, _, _, tr (ds), _, _, rfl, n1.mono (by omega), n2.mono (by omega), quo_minus t xs ys qs rs zs ds HQ.out s3 d3, ?_, ?_, by omega, by omega, ?_⟩
    · exact val_nonneg (d2)
    · rw [abs_ival t hB.u]; show val (ds) < _; omega
    · exact (((hX4.below.setCell (by simp; omega) _).setCell (by simp; omega) _).setCell (by simp; omega) _).setCell (by simp; omega) _
  · cases s
    · go_wp2_with fail
      refine (number_any t (qa) (qn) (qn) (qs) _ (hq.ql) (Nat.le_refl _) (by unfold maxLen; omega) (hq.qrd)).mono ?_
      rintro e w3 ⟨rfl, hb3⟩
      have hX3 := hX.later hb3
      clear k0 k1 k2 k3
      have k0 := hX3.ca0
      have k1 := hX3.ca1
      have k2 := hX3.cb0
      have k3 := hX3.cb1
      go_wp2_with fail
      refine (number_any false (ra) (rn) (rc) (rs) _ (hq.rl) hrc (by unfold maxLen; omega) ((hq.rrd).below hb3)).mono ?_
      rintro e w4 ⟨rfl, hb4⟩
      have hX4 := hX3.later hb4
      have z0 := hX4.cr0
      have z1 := hX4.cr1
      have z2 := hX4.cs0
      have z3 := hX4.cs1
      have z4 := hX4.fr0
      have z5 := hX4.fr1
      have z6 := hX4.fs0
      have z7 := hX4.fs1
      have n1 := ((((((ni_number (B := W0.heap.size) t (hq.qrd) (hq.qu) (hq.qf) (hq.qz)).below hb3).below hb4).set (a := ⟨w.heap.size + 1 + 1, 0, none⟩) (by simp; omega) (.bool (nsg t (qs)))).set (a := ⟨w.heap.size + 1 + 1, 1, none⟩) (by simp; omega) (.slice (nad (qa) (qs)) (tlen (qs)) (tlen (qs)))).set (a := ⟨w.heap.size + 1 + 1 + 1, 0, none⟩) (by simp; omega) (.bool (nsg false (rs)))).set (a := ⟨w.heap.size + 1 + 1 + 1, 1, none⟩) (by simp; omega) (.slice (nad (ra) (rs)) (tlen (rs)) (tlen (rs)))
      have n2 := (((((ni_number (B := W0.heap.size) false ((hq.rrd).below hb3) (hq.ru) (hq.rf) (hq.rz.below hb3)).below hb4).set (a := ⟨w.heap.size + 1 + 1, 0, none⟩) (by simp; omega) (.bool (nsg t (qs)))).set (a := ⟨w.heap.size + 1 + 1, 1, none⟩) (by simp; omega) (.slice (nad (qa) (qs)) (tlen (qs)) (tlen (qs)))).set (a := ⟨w.heap.size + 1 + 1 + 1, 0, none⟩) (by simp; omega) (.bool (nsg false (rs)))).set (a := ⟨w.heap.size + 1 + 1 + 1, 1, none⟩) (by simp; omega) (.slice (nad (ra) (rs)) (tlen (rs)) (tlen (rs)))
      have tq := tlen_le (qs)
      have tr' := tlen_le (rs)
      have lq := hq.ql
      have lr := hq.rl
      go_wp2
      refine bodyPost_ret (v := .tuple #[.agg #[.bool (nsg t (qs)), .slice (nad (qa) (qs)) (tlen (qs)) (tlen (qs))], .agg #[.bool (nsg false (rs)), .slice (nad (ra) (rs)) (tlen (rs)) (tlen (rs))], .int .i64 0]) (by simp [results, Tryz.results122, go_sem, z0, z1, z2, z3]) rfl ?_
      refine ⟨_, _, _, tr (qs), _, _, _, tr (rs), _, _, rfl, n1.mono (by omega), n2.mono (by omega), quo_plus_f t xs ys qs rs HQ.out, ?_, ?_, by omega, by omega, ?_⟩
      · exact val_nonneg (hq.ru)
      · rw [abs_ival t hB.u]; show val (rs) < _; omega
      · exact (((hX4.below.setCell (by simp; omega) _).setCell (by simp; omega) _).setCell (by simp; omega) _).setCell (by simp; omega) _
    · have hr0 : val rs = 0 := by rcases hr with h | h; cases h; exact h
      have htr : tlen rs = 0 := (tlen_zero_iff hq.ru).2 hr0
      have HR : Hid (tlen rs = 0 ∧ val rs = 0) := ⟨htr, hr0⟩
      have hn0 : ¬ 0 < ((tlen rs : Nat) : Int) := by omega
      clear htr hr0 hr
      go_wp2_with fail
      refine (trim_any ra rn rc rs _ hq.rl hrc (by unfold maxLen; omega) hq.rrd).mono ?_
      rintro e w' ⟨rfl, rfl⟩
      go_wp2_with fail
      refine (number_any (!t) (qa) (qn) (qn) (qs) _ (hq.ql) (Nat.le_refl _) (by unfold maxLen; omega) (hq.qrd)).mono ?_
      rintro e w3 ⟨rfl, hb3⟩
      have hX3 := hX.later hb3
      clear k0 k1 k2 k3
      have k0 := hX3.ca0
      have k1 := hX3.ca1
      have k2 := hX3.cb0
      have k3 := hX3.cb1
      go_wp2_with fail
      refine (number_any false (ra) (rn) (rc) (rs) _ (hq.rl) hrc (by unfold maxLen; omega) ((hq.rrd).below hb3)).mono ?_
      rintro e w4 ⟨rfl, hb4⟩
      have hX4 := hX3.later hb4
      have z0 := hX4.cr0
      have z1 := hX4.cr1
      have z2 := hX4.cs0
      have z3 := hX4.cs1
      have z4 := hX4.fr0
      have z5 := hX4.fr1
      have z6 := hX4.fs0
      have z7 := hX4.fs1
      have n1 := ((((((ni_number (B := W0.heap.size) (!t) (hq.qrd) (hq.qu) (hq.qf) (hq.qz)).below hb3).below hb4).set (a := ⟨w.heap.size + 1 + 1, 0, none⟩) (by simp; omega) (.bool (nsg (!t) (qs)))).set (a := ⟨w.heap.size + 1 + 1, 1, none⟩) (by simp; omega) (.slice (nad (qa) (qs)) (tlen (qs)) (tlen (qs)))).set (a := ⟨w.heap.size + 1 + 1 + 1, 0, none⟩) (by simp; omega) (.bool (nsg false (rs)))).set (a := ⟨w.heap.size + 1 + 1 + 1, 1, none⟩) (by simp; omega) (.slice (nad (ra) (rs)) (tlen (rs)) (tlen (rs)))
      have n2 := (((((ni_number (B := W0.heap.size) false ((hq.rrd).below hb3) (hq.ru) (hq.rf) (hq.rz.below hb3)).below hb4).set (a := ⟨w.heap.size + 1 + 1, 0, none⟩) (by simp; omega) (.bool (nsg (!t) (qs)))).set (a := ⟨w.heap.size + 1 + 1, 1, none⟩) (by simp; omega) (.slice (nad (qa) (qs)) (tlen (qs)) (tlen (qs)))).set (a := ⟨w.heap.size + 1 + 1 + 1, 0, none⟩) (by simp; omega) (.bool (nsg false (rs)))).set (a := ⟨w.heap.size + 1 + 1 + 1, 1, none⟩) (by simp; omega) (.slice (nad (ra) (rs)) (tlen (rs)) (tlen (rs)))
      have tq := tlen_le (qs)
      have tr' := tlen_le (rs)
      have lq := hq.ql
      have lr := hq.rl
      go_wp2
      refine bodyPost_ret (v := .tuple #[.agg #[.bool (nsg (!t) (qs)), .slice (nad (qa) (qs)) (tlen (qs)) (tlen (qs))], .agg #[.bool (nsg false (rs)), .slice (nad (ra) (rs)) (tlen (rs)) (tlen (rs))], .int .i64 0]) (by simp [results, Tryz.results122, go_sem, z0, z1, z2, z3]) rfl ?_
      refine ⟨_, _, _, tr (qs), _, _, _, tr (rs), _, _, rfl, n1.mono (by omega), n2.mono (by omega), quo_plus_t t xs ys qs rs HQ.out HR.out.2, ?_, ?_, by omega, by omega, ?_⟩
      · exact val_nonneg (hq.ru)
      · rw [abs_ival t hB.u]; show val (rs) < _; omega
      · exact (((hX4.below.setCell (by simp; omega) _).setCell (by simp; omega) _).setCell (by simp; omega) _).setCell (by simp; omega) _
theorem quotient_any (p q : Option Addr) (n nc m mc : Nat) (xs ys : List Int) (w : World) (hA : AI w p n nc xs) (hB : AI w q m mc ys) (hn : n ≤ 100000) (h80 : m < 80 ∨ n + 1 < 80 + m) (ht : tlen ys = m) (h0 : 0 < m) :
    Calls Tryz.prog 170 #[.slice p n nc, .slice q m mc] w (QPost (val xs) (val ys) n w) := by
  rcases Int.lt_or_le (val xs) (val ys) with hlt | hle
  · refine (quotient_lt p q n nc m mc xs ys w hA hB hlt).mono ?_
    rintro e w' ⟨qa, qn, qs, ra, rn, rs, rfl, h1, h2⟩
    exact ⟨qa, qn, qs, ra, rn, rn, rs, rfl, h1, Nat.le_refl _, by have := h1.rb; omega, h2⟩
  · rcases (show m = 1 ∨ 2 ≤ m by omega) with h | h
    · subst h
      have htr := tr_one hB.u ht
      have hyl := hB.len
      have hy : ys = [val ys] := by
        rw [← htr, tr, ht, List.take_of_length_le (by omega)]
      have hpos : 0 < val ys := by
        have h1 := val_pos_of_top hB.u (by omega)
        rw [ht] at h1
        have := pw_pos (1 - 1)
        omega
      have hB' := hB
      rw [hy] at hB'
      refine (quotient_one p q n nc mc xs (val ys) w hA hB' hpos hle).mono ?_
      rintro e w' ⟨qa, qn, qs, ra, rn, rs, rfl, h1, h2⟩
      rw [← hy] at h1
      exact ⟨qa, qn, qs, ra, rn, rn, rs, rfl, h1, Nat.le_refl _, by have := h1.rb; omega, h2⟩
    · obtain ⟨j, rfl⟩ : ∃ j, m = j + 2 := ⟨m - 2, by omega⟩
      refine quotient_many p q n nc j mc xs ys w hA hB hn h80 ?_ hle
      have h1 := tlen_top ys (by omega)
      rw [ht] at h1
      simpa using h1
theorem Quo_mid (s t : Bool) (p q : Option Addr) (n nc m mc : Nat) (xs ys : List Int) (w : World) (hA : AI w p n nc xs) (hB : AI w q m mc ys) (h80 : n < 159) (h0 : val ys ≠ 0) :
    Calls Tryz.prog 122 #[.agg #[.bool s, .slice p n nc], .agg #[.bool t, .slice q m mc]] w (QuoPost w (ival s xs) (ival t ys) n m) := by
  refine Quo_gen s t p q n nc m mc xs ys w hA hB h0 (fun W hx hy => quotient_any p q (tlen xs) nc (tlen ys) mc (tr xs) (tr ys) W hx hy (by have := tlen_le xs; have := hA.len; omega) (by have := tlen_le xs; have := hA.len; omega) (tlen_tr ys) ?_)
  rcases Nat.eq_zero_or_pos (tlen ys) with h | h
  · exact absurd ((tlen_zero_iff hB.u).1 h) h0
  · exact h
end Go.Proofs.YtkbgeggflhfleaaGreatDoor
