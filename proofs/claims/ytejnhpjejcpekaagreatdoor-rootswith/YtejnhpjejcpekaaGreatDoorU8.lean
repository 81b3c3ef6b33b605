/-
  ashlarref3.Exact by a line, of greater numbers.
-/
import Derived.Test.YtejnhpjejcpekaaGreatDoorCuOaOfJpDhFr
namespace Go.Proofs.YtejnhpjejcpekaaGreatDoor
open Go.RowKit
set_option linter.unusedVariables false
set_option linter.unusedSimpArgs false
set_option maxHeartbeats 8000000
structure RY (w wr : World) (xs ys : List Int) (n m k j : Nat) (pq pr : Option Addr) (nq nr : Nat) (eq er : List Ent) (qz rz : List Int) : Prop where
  q : PR wr 100 pq nq nq eq qz
  r : PR wr 100 pr nr nr er rz
  qn : tlen qz = nq
  rn : tlen rz = nr
  e : ∀ t, gx xs t = gx (mulp qz ys) t + gx rz t
  qb : ∀ t, ((gx qz t).natAbs : Int) < pw (16 + 3 * j)
  rb : ∀ t, ((gx rz t).natAbs : Int) < pw (16 + 3 * j)
  le : nr + j ≤ n
  ql : nq ≤ k
  bw : Below w.heap.size w wr
theorem RY.later {w wr w' : World} {xs ys : List Int} {n m k j : Nat} {pq pr : Option Addr} {nq nr : Nat} {eq er : List Ent} {qz rz : List Int} (h : RY w wr xs ys n m k j pq pr nq nr eq er qz rz) (hb : Below wr.heap.size wr w') : RY w w' xs ys n m k j pq pr nq nr eq er qz rz :=
  ⟨h.q.below hb, h.r.below hb, h.qn, h.rn, h.e, h.qb, h.rb, h.le, h.ql, bnext' h.bw hb⟩
theorem RY.gset {w wr : World} {xs ys : List Int} {n m k j : Nat} {pq pr : Option Addr} {nq nr : Nat} {eq er : List Ent} {qz rz : List Int} (h : RY w wr xs ys n m k j pq pr nq nr eq er qz rz) {g o : Nat} {u v : Value} (hw : w.heap.size ≤ g) (hq : (0 < nq → Off g pq) ∧ ∀ j, j < nq → 0 < (ge eq j).n → Off g (ge eq j).p) (hr : (0 < nr → Off g pr) ∧ ∀ j, j < nr → 0 < (ge er j).n → Off g (ge er j).p) : RY w ((wr.setCell ⟨g, o, none⟩ u).setCell ⟨g, o + 1, none⟩ v) xs ys n m k j pq pr nq nr eq er qz rz :=
  ⟨h.q.gset hq.1 hq.2, h.r.gset hr.1 hr.2, h.qn, h.rn, h.e, h.qb, h.rb, h.le, h.ql, Bel_st (Bel_st h.bw hw) hw⟩
theorem ry_step {xs ys qz rz : List Int} {m nr j n k nq : Nat} {c : Int} (hl : ys.length = m + 1) (hyb : ∀ t, ((gx ys t).natAbs : Int) < pw 2) (hrn : tlen rz = nr) (hm : m + 1 ≤ nr) (hc : c * gx ys m = gx rz (nr - 1)) (hc0 : c ≠ 0) (e : ∀ t, gx xs t = gx (mulp qz ys) t + gx rz t) (qb : ∀ t, ((gx qz t).natAbs : Int) < pw (16 + 3 * j)) (rb : ∀ t, ((gx rz t).natAbs : Int) < pw (16 + 3 * j)) (hcb : (c.natAbs : Int) < pw (16 + 3 * j)) (hql : nq ≤ k) (hqn : tlen qz = nq) (hnk : nr - (m + 1) < k) :
    (∀ t, gx xs t = gx (mulp (tr (pz (· + ·) qz (mono (nr - (m + 1)) c))) ys) t + gx (tr (pz (· - ·) rz (mulp (mono (nr - (m + 1)) c) ys))) t) ∧ (∀ t, ((gx (tr (pz (· + ·) qz (mono (nr - (m + 1)) c))) t).natAbs : Int) < pw (16 + 3 * (j + 1))) ∧ (∀ t, ((gx (tr (pz (· - ·) rz (mulp (mono (nr - (m + 1)) c) ys))) t).natAbs : Int) < pw (16 + 3 * (j + 1))) ∧ tlen (tr (pz (· - ·) rz (mulp (mono (nr - (m + 1)) c) ys))) < nr ∧ tlen (tr (pz (· + ·) qz (mono (nr - (m + 1)) c))) ≤ k := by
  have hp := pw_pos (16 + 3 * j)
  have hps : pw (16 + 3 * (j + 1)) = pw (16 + 3 * j + 2) * 4294967296 := by rw [show 16 + 3 * (j + 1) = (16 + 3 * j + 2) + 1 by omega, pw_succ, Int.mul_comm]
  have hpm : pw (16 + 3 * j) ≤ pw (16 + 3 * j + 2) := pw_mono (by omega)
  have hmt := mono_nrm (d := nr - (m + 1)) hc0
  have hmul : ∀ t, gx (mulp (mono (nr - (m + 1)) c) ys) t = if nr - (m + 1) ≤ t then c * gx ys (t - (nr - (m + 1))) else 0 := fun t => by
    rw [gx_mulp]
    have h1 : ∀ i, i ≤ nr - (m + 1) → ps (mono (nr - (m + 1)) c) ys i t = 0 := fun i => by
      induction i with
      | zero => intro _; rfl
      | succ i ih => intro hi; rw [ps_none _ ys i t (by rw [gx_mono, if_neg (by omega)]), ih (by omega)]
    have h2 := ps_more (mono (nr - (m + 1)) c) ys t (nr - (m + 1) + 1) (fun i hi => by rw [gx_mono, if_neg (by omega)]) (t + 1)
    have h3 := ps_late (mono (nr - (m + 1)) c) ys t (nr - (m + 1) + 1)
    rw [← h3, show t + 1 + (nr - (m + 1) + 1) = nr - (m + 1) + 1 + (t + 1) by omega, h2, ps, h1 _ (Nat.le_refl _), Int.zero_add, gx_mono, if_pos rfl]
  refine ⟨fun t => ?_, fun t => ?_, fun t => ?_, ?_, ?_⟩
  · have h1 := mulp_lin1 (a := tr (pz (· + ·) qz (mono (nr - (m + 1)) c))) (b := qz) (c := mono (nr - (m + 1)) c) (ys := ys) (fun j => by rw [gx_tr, gx_pz0 _ rfl]) t
    rw [h1, gx_tr, gx_pz0 _ rfl, e t]
    omega
  · rw [gx_tr, gx_pz0 _ rfl, gx_mono, hps]
    have h1 := qb t
    split <;> omega
  · rw [gx_tr, gx_pz0 _ rfl, hmul, hps]
    have h1 := rb t
    have h2 : ((c * gx ys (t - (nr - (m + 1)))).natAbs : Int) < pw (16 + 3 * j + 2) := term_lt hcb (hyb _)
    split <;> omega
  · rcases Nat.lt_or_ge (tlen (tr (pz (· - ·) rz (mulp (mono (nr - (m + 1)) c) ys)))) nr with h | h
    · exact h
    · exfalso
      have h0 : 0 < tlen (tr (pz (· - ·) rz (mulp (mono (nr - (m + 1)) c) ys))) := by omega
      have h1 := tlen_top _ h0
      generalize hT : tlen (tr (pz (· - ·) rz (mulp (mono (nr - (m + 1)) c) ys))) = T at *
      rw [gx_tr, gx_pz0 _ rfl, hmul, if_pos (by omega)] at h1
      rcases Nat.lt_or_ge nr T with h2 | h2
      · rw [tlen_zero rz (T - 1) (by omega), gx_past ys (m + 1) (by omega) _ (by omega)] at h1
        simp at h1
      · obtain rfl : T = nr := by omega
        rw [show T - 1 - (T - (m + 1)) = m by omega, hc] at h1
        omega
  · rw [tlen_tr]
    rcases Nat.lt_or_ge k (tlen (pz (· + ·) qz (mono (nr - (m + 1)) c))) with h | h
    · exfalso
      have h1 := tlen_top (pz (· + ·) qz (mono (nr - (m + 1)) c)) (by omega)
      rw [gx_pz0 _ rfl, tlen_zero qz _ (by omega), gx_mono, if_neg (by omega)] at h1
      exact h1 rfl
    · exact h
set_option maxRecDepth 100000 in
theorem rpExactL_any {w : World} {p q : Option Addr} {n m m1 : Nat} {es fs : List Ent} {xs ys : List Int} (h : PR w 32 p n n es xs) (k : PR w 4 q m1 m1 fs ys) (hx : tlen xs = n) (hy : tlen ys = m1) (hm1 : m1 = m + 1) (hn : n ≤ 9) (hm9 : m1 ≤ 9) (hxb : ∀ t, ((gx xs t).natAbs : Int) < pw 16) (hyb : ∀ t, ((gx ys t).natAbs : Int) < pw 2) :
    Calls Tryz.prog 51 #[.slice p n n, .slice q m1 m1] w (RxP xs ys w) := by
  have hyt : gx ys m ≠ 0 := by
    have := tlen_top ys (by omega)
    rwa [hy, show m1 - 1 = m by omega] at this
  have HX : Hid (PR w 32 p n n es xs ∧ PR w 4 q m1 m1 fs ys ∧ tlen xs = n ∧ ys.length = m + 1 ∧ (∀ t, ((gx xs t).natAbs : Int) < pw 16) ∧ (∀ t, ((gx ys t).natAbs : Int) < pw 2) ∧ gx ys m ≠ 0 ∧ m1 = m + 1) := ⟨h, k, hx, by rw [k.zl]; exact hm1, hxb, hyb, hyt, hm1⟩
  have i0 : ((m1 : Int) == 0) = false := by rw [beq_eq_false_iff_ne]; omega
  have i1 : ¬ (m1 : Int) = 0 := by omega
  have hm11 : 1 ≤ m1 := by omega
  have HI : Hid (RY w w xs ys n m 9 0 none p 0 n [] es [] xs) := by
    refine ⟨⟨rfl, rfl, Nat.le_refl _, Nat.zero_le _, PL.nil, fun j hj => by omega⟩, ⟨h.el, h.zl, h.cap, h.bnd, h.pl, fun j hj => (h.ev j hj).wide (by decide)⟩, rfl, hx, fun t => ?_, fun t => by simpa [gx] using pw_pos _, hxb, Nat.le_refl _, Nat.zero_le _, Below.refl _ _⟩
    have h9 : gx (mulp [] ys) t = 0 := by
      rw [gx_mulp]
      have e : ∀ i, ps [] ys i t = 0 := fun i => by
        induction i with
        | zero => rfl
        | succ i ih => rw [ps_none [] ys i t (by simp [gx]), ih]
      exact e _
    rw [h9, Int.zero_add]
  clear h k hx hy hxb hyb hyt hm1
  go_enter Tryz.func51, Tryz.ntmps51
  go_wp2_with fail
  go_loopw [6, 7, 8, 9, 10] (fun qv rv _ _ _ wr => ∃ (j : Nat) (pq pr : Option Addr) (nq nr : Nat) (eq er : List Ent) (qz rz : List Int), qv = .slice pq nq nq ∧ rv = .slice pr nr nr ∧ nr ≤ 9 ∧ j ≤ 9 ∧ Hid (RY w wr xs ys n m 9 j pq pr nq nr eq er qz rz)) (fun _ rv _ _ _ _ => slLen rv)
  case atStart => exact ⟨0, none, p, 0, n, [], es, [], xs, rfl, rfl, hn, by decide, HI.out⟩
  case round =>
    clear HI
    obtain ⟨j, pq, pr, nq, nr, eq, er, qz, rz, rfl, rfl, hnr, hj, HR⟩ := hrel
    have hd1 := rpDeg_any pr nr nr wr (by omega)
    go_wp2_with fail
    refine hd1.mono ?_
    rintro r v1 ⟨rfl, hc1⟩
    have hd2 := rpDeg_any q m1 m1 v1 (by omega)
    clear hd1
    go_wp2_with fail
    refine hd2.mono ?_
    rintro r v2 ⟨rfl, hc2⟩
    clear hd2
    have H2 : Hid (RY w v2 xs ys n m 9 j pq pr nq nr eq er qz rz) := HR.out.later (bnext' hc1 hc2)
    clear HR hc1 hc2
    have hnq : nq ≤ 9 := H2.out.ql
    rcases Nat.lt_or_ge nr m1 with hlt | hge
    · have i2 : ¬ (m1 : Int) - 1 ≤ (nr : Int) - 1 := by omega
      have HG : Hid (RxP xs ys w (.returned (.tuple #[.slice pq nq nq, .bool ((nr : Int) == 0)])) v2) := by
        refine ⟨?_, H2.out.bw⟩
        rcases Nat.eq_zero_or_pos nr with h0 | h0
        · refine .inl ⟨pq, nq, eq, qz, by rw [h0]; rfl, H2.out.q, H2.out.qn, H2.out.ql, fun t => ?_⟩
          have h1 := H2.out.e t
          rw [tlen_zero rz t (by rw [H2.out.rn]; omega), Int.add_zero] at h1
          exact h1
        · refine .inr ⟨pq, nq, nq, by rw [show ((nr : Int) == 0) = false by rw [beq_eq_false_iff_ne]; omega], fun hd => ?_⟩
          obtain ⟨pp, hp⟩ := rest_dvd H2.out.e hd
          rcases mult_top HX.out.2.2.2.1 HX.out.2.2.2.2.2.2.1 hp with h1 | ⟨a, -, h1, -⟩
          · have := H2.out.rn; omega
          · have := H2.out.rn; have := HX.out.2.2.2.2.2.2.2; omega
      clear H2
      go_wp2
      go_ret2
      exact HG.out
    · have i2 : (m1 : Int) - 1 ≤ (nr : Int) - 1 := by omega
      have hle1 := rpLead_any H2.out.r (by omega) (by decide)
      go_wp2_with fail
      refine hle1.mono ?_
      rintro r v3 ⟨u3, rfl, hu3, hc3⟩
      clear hle1
      have H3 : Hid (RY w v3 xs ys n m 9 j pq pr nq nr eq er qz rz) := H2.out.later hc3
      have hle2 := rpLead_any (HX.out.2.1.below H3.out.bw) (by omega) (by decide)
      clear H2
      go_wp2_with fail
      refine hle2.mono ?_
      rintro r v4 ⟨u4, rfl, hu4, hc4⟩
      clear hle2
      have hy4 : RE v4 4 (gx ys m) u4 := by
        have h1 := hu4
        rwa [show m1 - 1 = m by have := HX.out.2.2.2.2.2.2.2; omega] at h1
      have hr4 := hu3.below hc4
      have H4 : Hid (RY w v4 xs ys n m 9 j pq pr nq nr eq er qz rz) := H3.out.later hc4
      clear H3 hu3 hu4 hc3 hc4
      have hem : Hid (gx ys m ∣ gx rz (nr - 1) ∨ ¬ gx ys m ∣ gx rz (nr - 1)) := Classical.em _
      rcases hem.out with hdv | hdv
      · have hqu := rQuo_goes hr4 hy4 HX.out.2.2.2.2.2.2.1 hdv (by decide) (by decide)
        clear hem
        go_wp2_with fail
        refine hqu.mono ?_
        rintro r v5 ⟨u5, p5, rfl, hu5, hF5, hc5⟩
        clear hqu hr4 hy4
        have H5 : Hid (RY w v5 xs ys n m 9 j pq pr nq nr eq er qz rz) := H4.out.later hc5
        clear H4
        go_wp2_with fail
        have hal : Below v5.heap.size v5 ((v5.alloc (.cells #[.bool u5.s, .slice u5.p u5.n u5.c] 34)).alloc (.cells #[.bool false, .slice p5 0 0] 34)) := bel_al (bel_al (Below.refl _ _))
        have hX8 : Bx ((v5.alloc (.cells #[.bool u5.s, .slice u5.p u5.n u5.c] 34)).alloc (.cells #[.bool false, .slice p5 0 0] 34)) v5.heap.size (.bool u5.s) (.slice u5.p u5.n u5.c) := (Bx.new _ _ _ rfl).alloc _
        have H6 := (show Hid _ from H5.out.later hal)
        have hu6 := hu5.below hal
        have hult := (lasts_RE 100).lt hu5
        generalize ((v5.alloc (.cells #[.bool u5.s, .slice u5.p u5.n u5.c] 34)).alloc (.cells #[.bool false, .slice p5 0 0] 34)) = W5 at *
        generalize v5.heap.size = g8 at *
        have hsg := rSign_e (re_none W5 p5)
        refine hsg.mono ?_
        rintro r v6 ⟨rfl, hc6⟩
        have his0 : isgn 0 = 0 := by decide
        rw [his0]
        have hX9 := hX8.later hc6
        have hu7 := hu6.below hc6
        have H7 := (show Hid _ from H6.out.later hc6)
        clear hsg hal hX8 hu6 H6 H5 hu5 hc5 hc6 his0 hF5
        have hd1 := rpDeg_any pr nr nr v6 (by omega)
        go_wp2_with fail
        refine hd1.mono ?_
        rintro r v7 ⟨rfl, hc7⟩
        have hd2 := rpDeg_any q m1 m1 v7 (by omega)
        clear hd1
        go_wp2_with fail
        refine hd2.mono ?_
        rintro r v8 ⟨rfl, hc8⟩
        clear hd2
        have hB8 := bnext' hc7 hc8
        obtain ⟨kd, hkd⟩ : ∃ kd, kd = nr - m1 := ⟨_, rfl⟩
        obtain ⟨kt, hkt⟩ : ∃ kt, kt = kd + 1 := ⟨_, rfl⟩
        have j1 : (nr : Int) - 1 - ((m1 : Int) - 1) + 1 = (kt : Int) := by omega
        have j2 : (kt : Int) - 1 = (kd : Int) := by omega
        have j3 : (kd : Int) < (kt : Int) := by omega
        have j4 : (0 : Int) ≤ (kd : Int) := by omega
        have v1' : IntKind.i64.wrap (kd : Int) = (kd : Int) := by rw [IntKind.wrap_i64]; omega
        have v2' : IntKind.i64.wrap (kt : Int) = (kt : Int) := by rw [IntKind.wrap_i64]; omega
        have hkt9 : kt ≤ 9 := by omega
        have HK : Hid (kd = nr - m1 ∧ kt = kd + 1) := ⟨hkd, hkt⟩
        have hmk := mk_rpoly kt (by omega)
        have hX10 := hX9.later hB8
        have hu8 := hu7.below hB8
        have H8 := (show Hid _ from H7.out.later hB8)
        have hg8 : g8 < v8.heap.size := block_lt_of_cell hX10.c0
        have hgq := H8.out.q.lt' (Nat.le_refl _)
        have hgr := H8.out.r.lt' (Nat.le_refl _)
        have hgw : w.heap.size ≤ v8.heap.size := H8.out.bw.size
        clear hkd hkt hX9 hu7 H7 hB8 hc7 hc8
        go_upto_region 10 with fail
        clear hmk
        have hR0 := Row2.new v8 34 (ezs kt)
        have halm : Below v8.heap.size v8 (v8.alloc (.cells (ca2 (ezs kt)) 34)) := bel_al (Below.refl _ _)
        have hX11 := hX10.later halm
        have hu9 := hu8.below halm
        have H9 := (show Hid _ from H8.out.later halm)
        generalize v8.alloc (.cells (ca2 (ezs kt)) 34) = W8 at *
        generalize v8.heap.size = gt at *
        obtain ⟨b0, b1, -, -⟩ := id hX11
        obtain ⟨x0, x1⟩ := hR0.cell kd (by rw [length_ezs]; omega)
        have f0 := hR0.frozen (kd * 2)
        have f1 := hR0.frozen (kd * 2 + 1)
        obtain ⟨cq, hcq⟩ : ∃ cq, cq = gx rz (nr - 1) / gx ys m := ⟨_, rfl⟩
        rw [← hcq] at hu9
        have HT : Hid (PR ((W8.setCell ⟨gt, kd * 2, none⟩ (.bool u5.s)).setCell ⟨gt, kd * 2 + 1, none⟩ (.slice u5.p u5.n u5.c)) 100 (some ⟨gt, 0, none⟩) kt kt ((ezs kt).set kd u5) (mono kd cq) ∧ RY w ((W8.setCell ⟨gt, kd * 2, none⟩ (.bool u5.s)).setCell ⟨gt, kd * 2 + 1, none⟩ (.slice u5.p u5.n u5.c)) xs ys n m 9 j pq pr nq nr eq er qz rz ∧ cq = gx rz (nr - 1) / gx ys m) := by
          have hkk := HK.out
          have hoff : 0 < u5.n → Off gt u5.p := fun h0 a ha e => by have := hult h0 a ha; omega
          refine ⟨⟨by rw [List.length_set, length_ezs], by rw [length_mono]; exact hkk.2.symm, Nat.le_refl _, by unfold maxLen; omega, (hR0.set kd u5 (by rw [length_ezs]; omega)).pl, fun t ht => ?_⟩, ?_, hcq⟩
          · rw [gx_mono]
            by_cases he : t = kd
            · subst he
              rw [if_pos rfl, ge_set_same _ _ _ (by rw [length_ezs]; omega)]
              exact hu9.set2 hoff
            · rw [if_neg he, ge_set_other _ _ _ _ he, ge_ezs]
              exact (RF.ez 0 _ 100).1
          · exact H9.out.gset (by omega) hgq hgr
        clear hX10 hX11 hu8 hu9 H8 H9 hR0 halm hult hcq hgq hgr
        go_wp2_with fail
        clear x0 x1 f0 f1 b0 b1
        generalize (W8.setCell ⟨gt, kd * 2, none⟩ (.bool u5.s)).setCell ⟨gt, kd * 2 + 1, none⟩ (.slice u5.p u5.n u5.c) = W9 at *
        have hcb : (cq.natAbs : Int) < pw (16 + 3 * j) := by
          rw [HT.out.2.2]
          have h1 := Int.natAbs_ediv_le_natAbs (gx rz (nr - 1)) (gx ys m)
          have h2 := HT.out.2.1.rb (nr - 1)
          omega
        have hj8 : j ≤ 8 := by have := HT.out.2.1.le; omega
        have HC : Hid (cq * gx ys m = gx rz (nr - 1) ∧ cq ≠ 0 ∧ (cq.natAbs : Int) < pw (16 + 3 * j)) := by
          have h1 : cq * gx ys m = gx rz (nr - 1) := by rw [HT.out.2.2]; exact Int.ediv_mul_cancel hdv
          refine ⟨h1, fun h0 => ?_, hcb⟩
          rw [h0, Int.zero_mul] at h1
          have h2 := tlen_top rz (by rw [HT.out.2.1.rn]; omega)
          rw [HT.out.2.1.rn] at h2
          exact h2 h1.symm
        clear hcb hdv
        have had := rpAdd_any HT.out.2.1.q HT.out.1 (by omega) (by omega) (by decide) (by decide) (by decide) (by decide)
        refine had.mono ?_
        rintro r x1 ⟨pq2, nq2, eq2, rfl, hq2, -, hqt, hd1⟩
        clear had
        have hmu := rpMul_any (K := 49) (L := 2) (HT.out.1.below hd1) (HX.out.2.1.below (bnext' HT.out.2.1.bw hd1)) (by rw [mono_nrm HC.out.2.1, length_mono]) (by rw [HX.out.2.1.zl, HX.out.2.2.2.2.2.2.2]; exact tlen_eq _ _ (fun i hi => gx_past ys (m + 1) (by rw [HX.out.2.2.2.1]; exact Nat.le_refl _) i hi) (.inr (by rw [Nat.add_sub_cancel]; exact HX.out.2.2.2.2.2.2.1))) (by omega) (by omega) (by decide) (by decide) (fun i => by
          rw [gx_mono]
          split
          · exact Int.lt_of_lt_of_le HC.out.2.2 (pw_mono (by omega))
          · simpa using pw_pos 49) HX.out.2.2.2.2.2.1 (by decide)
        go_wp2_with fail
        refine hmu.mono ?_
        rintro r x2 ⟨pm, nm, em, rfl, hm2, -, hmt, hd2⟩
        clear hmu
        have hnm : nm ≤ 20 := by
          have h1 := hm2.zl
          unfold mulp at h1
          split at h1
          · simp at h1; omega
          · rw [length_mulz, length_mono, HX.out.2.2.2.1] at h1
            have := HK.out.2; have := HX.out.2.2.2.2.2.2.2; omega
        have hsu := rpSub_any (HT.out.2.1.r.below (bnext' hd1 hd2)) hm2 (by omega) (by omega) (by decide) (by decide) (by decide)
        go_wp2_with fail
        refine hsu.mono ?_
        rintro r x3 ⟨pr2, nr2, er2, rfl, hr2, -, hrt, hd3⟩
        clear hsu
        obtain ⟨k1, k2, k3, k4, k5⟩ := ry_step (nq := nq) (k := 9) (n := n) HX.out.2.2.2.1 HX.out.2.2.2.2.2.1 HT.out.2.1.rn (by have := HX.out.2.2.2.2.2.2.2; omega) HC.out.1 HC.out.2.1 HT.out.2.1.e HT.out.2.1.qb HT.out.2.1.rb HC.out.2.2 HT.out.2.1.ql HT.out.2.1.qn (by omega)
        have hkm : nr - (m + 1) = kd := by have := HK.out.1; have := HX.out.2.2.2.2.2.2.2; omega
        rw [hkm] at k1 k2 k3 k4 k5
        have hnr2 : nr2 < nr := by rw [← hrt]; exact k4
        have HN : Hid (RY w x3 xs ys n m 9 (j + 1) pq2 pr2 nq2 nr2 eq2 er2 (tr (pz (· + ·) qz (mono kd cq))) (tr (pz (· - ·) rz (mulp (mono kd cq) ys)))) := by
          have hw50 : pw (16 + 3 * (j + 1)) ≤ pw 50 := pw_mono (by omega)
          exact ⟨((hq2.below hd2).below hd3).fit (M := 50) (fun t => Int.lt_of_lt_of_le (k2 t) hw50), hr2.fit (M := 50) (fun t => Int.lt_of_lt_of_le (k3 t) hw50), hqt, hrt, k1, k2, k3, by have := HT.out.2.1.le; omega, by rw [← hqt]; exact k5, bnext' (bnext' (bnext' HT.out.2.1.bw hd1) hd2) hd3⟩
        clear hq2 hm2 hr2 hqt hmt hrt hd1 hd2 hd3 k1 k2 k3 k4 k5 HT HC
        go_wp2
        refine ⟨⟨j + 1, pq2, pr2, nq2, nr2, eq2, er2, _, _, rfl, rfl, by omega, by omega, HN.out⟩, ?_⟩
        simp [slLen]
        omega
      · have hqu := rQuo_left hr4 hy4 HX.out.2.2.2.2.2.2.1 hdv (by decide) (by decide)
        clear hem
        go_wp2_with fail
        refine hqu.mono ?_
        rintro r v5 ⟨u5, u6, rfl, ⟨N, z, hu6, hz⟩, hc5⟩
        clear hqu hr4 hy4
        go_wp2_with fail
        have hal : Below v5.heap.size v5 ((v5.alloc (.cells #[.bool u5.s, .slice u5.p u5.n u5.c] 34)).alloc (.cells #[.bool u6.s, .slice u6.p u6.n u6.c] 34)) := bel_al (bel_al (Below.refl _ _))
        have HNG : Hid (¬ Dvd xs ys) := fun hd => by
          obtain ⟨pp, hp⟩ := rest_dvd H4.out.e hd
          rcases mult_top HX.out.2.2.2.1 HX.out.2.2.2.2.2.2.1 hp with h1 | ⟨a, -, h1, h2⟩
          · have := H4.out.rn; omega
          · refine hdv ?_
            rw [show nr - 1 = m + a by have := H4.out.rn; omega, h2]
            exact ⟨gx pp a, Int.mul_comm _ _⟩
        have HBW : Hid (Below w.heap.size w ((v5.alloc (.cells #[.bool u5.s, .slice u5.p u5.n u5.c] 34)).alloc (.cells #[.bool u6.s, .slice u6.p u6.n u6.c] 34))) := bnext' (bnext' H4.out.bw hc5) hal
        have hsg := rSign_e (hu6.below hal)
        generalize ((v5.alloc (.cells #[.bool u5.s, .slice u5.p u5.n u5.c] 34)).alloc (.cells #[.bool u6.s, .slice u6.p u6.n u6.c] 34)) = W5 at *
        refine hsg.mono ?_
        rintro r v6 ⟨rfl, hc6⟩
        have hi : isgn z = 1 ∨ isgn z = -1 := by
          rcases (show 0 < z ∨ z < 0 by omega) with h1 | h1
          · exact .inl (isgn_pos h1)
          · exact .inr (isgn_neg h1)
        have HF : Hid (RxP xs ys w (.returned (.tuple #[.slice none (0 : Nat) (0 : Nat), .bool false])) v6) := ⟨.inr ⟨none, 0, 0, rfl, HNG.out⟩, bnext' HBW.out hc6⟩
        clear hsg hal hu6 hz hdv H4 HNG HBW hc5 hc6
        rcases hi with hi | hi
        all_goals
          rw [hi]
          go_wp2
          go_ret2
          exact HF.out
end Go.Proofs.YtejnhpjejcpekaaGreatDoor
