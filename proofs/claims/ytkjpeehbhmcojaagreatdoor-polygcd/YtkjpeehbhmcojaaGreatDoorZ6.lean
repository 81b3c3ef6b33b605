/-
  ashlarref3.Pseudo of two multiples: the walk.
-/
import Derived.Test.YtkjpeehbhmcojaaGreatDoorZ3Z4Z5
namespace Go.Proofs.YtkjpeehbhmcojaaGreatDoor
open Go.RowKit
set_option linter.unusedVariables false
set_option linter.unusedSimpArgs false
set_option maxHeartbeats 8000000
theorem RE.offr {w : World} {N : Nat} {z : Int} {e : Ent} (h : RE w N z e) {g : Nat} {t : TypeId} {es : List Ent} (hg : Row2 w g t es) : 0 < e.n → Off g e.p := by
  obtain ⟨⟨ds, h1, rfl, h3⟩, h4⟩ := h
  intro h0 a ha hb
  obtain ⟨b, o, hp, hc⟩ := h1.rd (by rw [h1.len]; exact h0)
  rw [hp] at ha
  cases ha
  simp only at hb
  subst hb
  have hc0 := hc 0 (by rw [h1.len]; exact h0)
  rw [cell_of_row w b (o + 0) _ t (0, 0) hg] at hc0
  rcases Nat.lt_or_ge ((o + 0) / 2) es.length with h5 | h5
  · obtain ⟨h6, h7⟩ := flat_get es ((o + 0) / 2) h5
    simp only [ca2, List.getElem?_toArray] at hc0
    rcases Nat.mod_two_eq_zero_or_one (o + 0) with h8 | h8
    · rw [show o + 0 = (o + 0) / 2 * 2 by omega, h6] at hc0; cases hc0
    · rw [show o + 0 = (o + 0) / 2 * 2 + 1 by omega, h7] at hc0; cases hc0
  · rw [Array.getElem?_eq_none (by rw [size_ca2]; omega)] at hc0
    cases hc0
def PsP (H al be : List Int) (n m s u : Nat) (w : World) (r : Ending) (w' : World) : Prop :=
  ∃ (pq pr : Option Addr) (nq nr : Nat) (er : List Ent) (rz : List Int) (rho : Nat → Int) (ka : Int), r = .returned (.tuple #[.slice pq nq nq, .slice pr nr nr]) ∧ PR w' 170 pr nr nr er rz ∧ tlen rz = nr ∧ nr < m ∧ nr ≤ n ∧ Md.Rm H (gx al) (gx be) rz rho ka ∧ (∀ t, (rho t).natAbs ≤ 2 ^ (s + (n + 1 - m) * (u + 1))) ∧ Below w.heap.size w w'
set_option maxRecDepth 100000 in
theorem rpPseudo_any {w : World} {H al be av bv : List Int} {p q : Option Addr} {n m g mb s u : Nat} {es fs : List Ent} (h : PR w 170 p n n es av) (k : PR w 170 q m m fs bv) (ha : tlen av = n) (hbt : tlen bv = m) (hn : n ≤ 12) (hm : m ≤ 12) (K : PK3 H al be bv g mb m u) (hA : ∀ t, gx av t = Md.cvf (gx al) (gx H) t) (hs : ∀ t, (gx al t).natAbs ≤ 2 ^ s) (hX : Xb s u (n + 1 - m) ≤ 2700) :
    Calls Tryz.prog 45 #[.slice p n n, .slice q m m] w (PsP H al be n m s u w) := by
  have hm1 : 1 ≤ m := by have := K.em; omega
  have HX : Hid (PR w 170 q m m fs bv ∧ PK3 H al be bv g mb m u ∧ Xb s u (n + 1 - m) ≤ 2700) := ⟨k, K, hX⟩
  have HI : Hid (PX w w H al be n s u 0 0 none p 0 n [] es [] av (gx al) 1) := by
    refine ⟨⟨rfl, rfl, Nat.le_refl _, Nat.zero_le _, PL.nil, fun j hj => by omega⟩, h, rfl, ha, Md.Rm.start hA, fun t => by rw [Nat.zero_mul, Nat.add_zero]; exact hs t, Nat.pow_pos (by decide), fun t => by simp [gx], by omega, Nat.zero_le _, Below.refl _ _⟩
  clear h k ha hbt K hA hs hX
  have hd1 := rpDeg_any p n n w (by omega)
  go_enter Tryz.func45, Tryz.ntmps45
  go_wp2_with fail
  go_fit hd1
  rintro r w1 ⟨rfl, hb1⟩
  have hd2 := rpDeg_any q m m w1 (by omega)
  clear hd1
  go_wp2_with fail
  go_fit hd2
  rintro r w2 ⟨rfl, hb2⟩
  clear hd2
  obtain ⟨e0, he0⟩ : ∃ e0 : Int, e0 = (n : Int) - (m : Int) + 1 := ⟨_, rfl⟩
  have v1 : IntKind.i64.wrap ((n : Int) - 1 - ((m : Int) - 1) + 1) = e0 := by rw [IntKind.wrap_i64]; omega
  have v2 : IntKind.i64.wrap ((n : Int) - 1 - ((m : Int) - 1)) = (n : Int) - 1 - ((m : Int) - 1) := by rw [IntKind.wrap_i64]; omega
  have HE := (show Hid _ from he0)
  have hle := rpLead_any (HX.out.1.below (bnext' hb1 hb2)) (by omega) (by decide)
  have HB2 : Hid (Below w.heap.size w w2) := bnext' hb1 hb2
  clear hb1 hb2 he0
  go_wp2_with fail
  go_fit hle
  rintro r w3 ⟨ul, rfl, hul, hb3⟩
  clear hle
  go_wp2_with fail
  have hal := bel_al (o := .cells #[.bool ul.s, .slice ul.p ul.n ul.c] 50) (Below.refl w3.heap.size w3)
  have hXl : Bx (w3.alloc (.cells #[.bool ul.s, .slice ul.p ul.n ul.c] 50)) w3.heap.size (.bool ul.s) (.slice ul.p ul.n ul.c) := Bx.new _ _ _ rfl
  have HI3 := (show Hid _ from HI.out.later (bnext' (bnext' HB2.out hb3) hal))
  have hul3 := hul.below hal
  have HBW : Hid (Below w.heap.size w (w3.alloc (.cells #[.bool ul.s, .slice ul.p ul.n ul.c] 50))) := bnext' (bnext' HB2.out hb3) hal
  clear HI hul hb3 hal HB2
  generalize w3.alloc (.cells #[.bool ul.s, .slice ul.p ul.n ul.c] 50) = W3 at *
  generalize w3.heap.size = gl at *
  have HL : Hid (Bx W3 gl (.bool ul.s) (.slice ul.p ul.n ul.c) ∧ RE W3 170 (gx bv (m - 1)) ul) := ⟨hXl, hul3⟩
  clear hXl hul3 v1 v2
  go_loopw [6, 7, 8, 10] (fun qv rv ev _ wr => ∃ (i : Nat) (x : Int) (pq pr : Option Addr) (nq nr : Nat) (eq er : List Ent) (qz rz : List Int) (rho : Nat → Int) (ka : Int), qv = .slice pq nq nq ∧ rv = .slice pr nr nr ∧ ev = .int .i64 x ∧ nr ≤ 12 ∧ i ≤ 12 ∧ nq ≤ 12 ∧ -30 ≤ x ∧ x ≤ 30 ∧ Hid (PX w wr H al be n s u i 0 pq pr nq nr eq er qz rz rho ka ∧ Below W3.heap.size W3 wr ∧ x = e0 - (i : Int) ∧ (0 < i → i ≤ n + 1 - m))) (fun _ rv _ _ _ => slLen rv)
  case atStart => exact ⟨0, e0, none, p, 0, n, [], es, [], av, gx al, 1, rfl, rfl, rfl, hn, by decide, by decide, by have := HE.out; omega, by have := HE.out; omega, HI3.out, Below.refl _ _, by omega, fun h9 => absurd h9 (by decide)⟩
  case round =>
    clear HI3
    obtain ⟨i, x, pq, pr, nq, nr, eq, er, qz, rz, rho, ka, rfl, rfl, rfl, hnr, hi, hnq, hx1, hx2, HR⟩ := hrel
    have hd1 := rpDeg_any pr nr nr wr (by omega)
    go_wp2_with fail
    go_fit hd1
    rintro r v1 ⟨rfl, hc1⟩
    have hd2 := rpDeg_any q m m v1 (by omega)
    clear hd1
    go_wp2_with fail
    go_fit hd2
    rintro r v2 ⟨rfl, hc2⟩
    clear hd2
    have H2 : Hid (PX w v2 H al be n s u i 0 pq pr nq nr eq er qz rz rho ka ∧ Below W3.heap.size W3 v2 ∧ x = e0 - (i : Int)) := ⟨HR.out.1.later (bnext' hc1 hc2), bnext' HR.out.2.1 (bnext' hc1 hc2), HR.out.2.2.1⟩
    have HL2 : Hid (0 < i → i ≤ n + 1 - m) := HR.out.2.2.2
    clear HR hc1 hc2
    rcases Nat.lt_or_ge nr m with hlt | hge
    · have i2 : ¬ (m : Int) - 1 ≤ (nr : Int) - 1 := by omega
      go_wp2_with fail
      have hdec : decide (m ≤ nr) = false := decide_eq_false (by omega)
      try rw [hdec]
      clear hdec
      go_loopw [6, 7, 8] (fun qv rv ev wr => ∃ (j : Nat) (y : Int) (pq pr : Option Addr) (nq nr : Nat) (eq er : List Ent) (qz rz : List Int) (rho : Nat → Int) (ka : Int), qv = .slice pq nq nq ∧ rv = .slice pr nr nr ∧ ev = .int .i64 y ∧ nr < m ∧ nr ≤ 12 ∧ nq ≤ 12 ∧ -30 ≤ y ∧ y ≤ 30 ∧ Hid (PX w wr H al be n s u i j pq pr nq nr eq er qz rz rho ka ∧ Below W3.heap.size W3 wr ∧ y = e0 - (i : Int) - (j : Int) ∧ (0 < j → 0 ≤ y))) (fun _ _ ev _ => (intOf ev).toNat)
      case atStart => exact ⟨0, x, pq, pr, nq, nr, eq, er, qz, rz, rho, ka, rfl, rfl, rfl, hlt, hnr, hnq, hx1, hx2, H2.out.1, H2.out.2.1, by have := H2.out.2.2; omega, fun h9 => absurd h9 (by decide)⟩
      case round =>
        clear H2 hx1 hx2 hnr hnq hlt i2
        obtain ⟨j, y, pq, pr, nq, nr, eq, er, qz, rz, rho, ka, rfl, rfl, rfl, hlt, hnr, hnq, hy1, hy2, HR⟩ := hrel
        rcases Int.lt_or_le 0 y with hy | hy
        · obtain ⟨q0, q1, -, -⟩ := HL.out.1.later HR.out.2.1
          have hsc := rpScale_any HR.out.1.q (HL.out.2.below HR.out.2.1) (by omega) (by decide) (by decide)
          go_wp2_with fail
          go_fit hsc
          rintro r y1 ⟨pa, na, ea, rfl, ha1, -, hat, hd1⟩
          clear hsc q0 q1
          obtain ⟨q0, q1, -, -⟩ := HL.out.1.later (bnext' HR.out.2.1 hd1)
          have hsc := rpScale_any (HR.out.1.r.below hd1) (HL.out.2.below (bnext' HR.out.2.1 hd1)) (by omega) (by decide) (by decide)
          go_wp2_with fail
          go_fit hsc
          rintro r y2 ⟨pb2, nb2, eb2, rfl, hb2, -, hbt2, hd2⟩
          clear hsc q0 q1
          have hB2 : Below wr.heap.size wr y2 := bnext' hd1 hd2
          obtain ⟨k1, rho2, ka2, hnew⟩ := HR.out.1.mult HX.out.2.1 (Nat.le_trans (xb_mono (by
            have h1 := HR.out.2.2.1
            have h2 := HE.out
            omega)) HX.out.2.2) hB2 (ha1.below hd2) hb2 hat hbt2
          have hql2 := hnew.ql
          have HNW : Hid (PX w y2 H al be n s u i (j + 1) pa pb2 na nb2 ea eb2 _ _ rho2 ka2 ∧ Below W3.heap.size W3 y2 ∧ y - 1 = e0 - (i : Int) - ((j + 1 : Nat) : Int) ∧ (0 < j + 1 → 0 ≤ y - 1)) := ⟨hnew, bnext' HR.out.2.1 hB2, by have := HR.out.2.2.1; omega, fun _ => by omega⟩
          have v9 : IntKind.i64.wrap (y - 1) = y - 1 := by rw [IntKind.wrap_i64]; omega
          clear ha1 hat hb2 hbt2 hd1 hd2 hB2 hnew HR
          go_wp2
          go_round
          case rel => exact ⟨j + 1, y - 1, pa, pb2, na, nb2, ea, eb2, _, _, rho2, ka2, rfl, rfl, rfl, by omega, by omega, hql2, by omega, by omega, HNW.out⟩
          case measure => simp [intOf]; omega
        · have hy' : ¬ 0 < y := by omega
          have HF : Hid (PsP H al be n m s u w (.returned (.tuple #[.slice pq nq nq, .slice pr nr nr])) wr) := by
            refine ⟨pq, pr, nq, nr, er, rz, rho, ka, rfl, HR.out.1.r, HR.out.1.rn, hlt, by have := HR.out.1.le; omega, HR.out.1.rm, fun t => ?_, HR.out.1.bw⟩
            refine Nat.le_trans (HR.out.1.rb t) (Nat.pow_le_pow_right (by decide) ?_)
            have hle := HR.out.1.le
            rcases Nat.eq_zero_or_pos i with h0 | h0
            · rw [h0, Nat.zero_mul]; omega
            · have h2 := HL2.out h0
              have := Nat.mul_le_mul_right (u + 1) h2
              omega
          clear HR hy
          go_wp2
          go_ret2
          exact HF.out
    · have i2 : (m : Int) - 1 ≤ (nr : Int) - 1 := by omega
      have hd1 := rpDeg_any pr nr nr v2 (by omega)
      go_wp2_with fail
      go_fit hd1
      rintro r v3 ⟨rfl, hc3⟩
      have hd2 := rpDeg_any q m m v3 (by omega)
      clear hd1
      go_wp2_with fail
      go_fit hd2
      rintro r v4 ⟨rfl, hc4⟩
      clear hd2
      have H4 : Hid (PX w v4 H al be n s u i 0 pq pr nq nr eq er qz rz rho ka ∧ Below W3.heap.size W3 v4 ∧ x = e0 - (i : Int)) := ⟨H2.out.1.later (bnext' hc3 hc4), bnext' H2.out.2.1 (bnext' hc3 hc4), H2.out.2.2⟩
      clear H2 hc3 hc4
      obtain ⟨kd, hkd⟩ : ∃ kd, kd = nr - m := ⟨_, rfl⟩
      obtain ⟨kt, hkt⟩ : ∃ kt, kt = kd + 1 := ⟨_, rfl⟩
      have j1 : (nr : Int) - 1 - ((m : Int) - 1) + 1 = (kt : Int) := by omega
      have j2 : (kt : Int) - 1 = (kd : Int) := by omega
      have j3 : (kd : Int) < (kt : Int) := by omega
      have v1' : IntKind.i64.wrap (kd : Int) = (kd : Int) := by rw [IntKind.wrap_i64]; omega
      have v2' : IntKind.i64.wrap (kt : Int) = (kt : Int) := by rw [IntKind.wrap_i64]; omega
      have v3' : IntKind.i64.wrap ((nr : Int) - 1 - ((m : Int) - 1)) = (nr : Int) - 1 - ((m : Int) - 1) := by rw [IntKind.wrap_i64]; omega
      have hkt9 : kt ≤ 12 := by omega
      have HK : Hid (kd = nr - m ∧ kt = kd + 1 ∧ nr = m + kd) := ⟨hkd, hkt, by omega⟩
      have hmk := mk_rpoly kt (by omega)
      have halm : Below v4.heap.size v4 (v4.alloc (.cells (ca2 (ezs kt)) 50)) := bel_al (Below.refl _ _)
      have hle1 := rpLead_any (H4.out.1.r.below halm) (by omega) (by decide)
      clear hkd hkt
      go_wp2_with fail
      go_fit hle1
      rintro r v5 ⟨u9, rfl, hu9, hb9⟩
      clear hle1 hmk
      have hR0 := (Row2.new v4 50 (ezs kt)).below hb9 (by simp)
      obtain ⟨x0, x1⟩ := hR0.cell kd (by rw [length_ezs]; omega)
      have f0 := hR0.frozen (kd * 2)
      have f1 := hR0.frozen (kd * 2 + 1)
      rw [ge_ezs] at x0 x1
      have j4 : (0 : Int) ≤ (kd : Int) := by omega
      have hult := (lasts_RE 170).lt hu9
      have hB5 : Below v4.heap.size v4 v5 := bnext' halm hb9
      clear halm hb9
      go_upto_region 8 with fail
      have hB9 : Below v4.heap.size v4 ((v5.setCell ⟨v4.heap.size, kd * 2, none⟩ (.bool u9.s)).setCell ⟨v4.heap.size, kd * 2 + 1, none⟩ (.slice u9.p u9.n u9.c)) := Bel_st (Bel_st hB5 (Nat.le_refl _)) (Nat.le_refl _)
      have HT : Hid (PR ((v5.setCell ⟨v4.heap.size, kd * 2, none⟩ (.bool u9.s)).setCell ⟨v4.heap.size, kd * 2 + 1, none⟩ (.slice u9.p u9.n u9.c)) 170 (some ⟨v4.heap.size, 0, none⟩) kt kt ((ezs kt).set kd u9) (mono kd (gx rz (nr - 1)))) := by
        have hkk := HK.out
        refine ⟨by rw [List.length_set, length_ezs], by rw [length_mono]; exact hkk.2.1.symm, Nat.le_refl _, by unfold maxLen; omega, (hR0.set kd u9 (by rw [length_ezs]; omega)).pl, fun t ht => ?_⟩
        rw [gx_mono]
        by_cases he : t = kd
        · subst he
          rw [if_pos rfl, ge_set_same _ _ _ (by rw [length_ezs]; omega)]
          exact hu9.set2 (hu9.offr hR0)
        · rw [if_neg he, ge_set_other _ _ _ _ he, ge_ezs]
          exact (RF.ez 0 _ 170).1
      have H9 : Hid (PX w ((v5.setCell ⟨v4.heap.size, kd * 2, none⟩ (.bool u9.s)).setCell ⟨v4.heap.size, kd * 2 + 1, none⟩ (.slice u9.p u9.n u9.c)) H al be n s u i 0 pq pr nq nr eq er qz rz rho ka ∧ Below W3.heap.size W3 ((v5.setCell ⟨v4.heap.size, kd * 2, none⟩ (.bool u9.s)).setCell ⟨v4.heap.size, kd * 2 + 1, none⟩ (.slice u9.p u9.n u9.c)) ∧ x = e0 - (i : Int)) := ⟨H4.out.1.later hB9, bnext' H4.out.2.1 hB9, H4.out.2.2⟩
      clear x0 x1 f0 f1 hR0 hu9 hult hB5 hB9 H4
      generalize (v5.setCell ⟨v4.heap.size, kd * 2, none⟩ (.bool u9.s)).setCell ⟨v4.heap.size, kd * 2 + 1, none⟩ (.slice u9.p u9.n u9.c) = v6 at *
      generalize v4.heap.size = gt at *
      obtain ⟨q0, q1, -, -⟩ := HL.out.1.later H9.out.2.1
      have hsc := rpScale_any H9.out.1.q (HL.out.2.below H9.out.2.1) (by omega) (by decide) (by decide)
      go_wp2_with fail
      go_fit hsc
      rintro r y1 ⟨pa, na, ea, rfl, ha1, -, hat, hd1⟩
      clear hsc q0 q1
      have hna : na ≤ 12 := by
        have h1 := ha1.zl
        have h2 := tlen_le (qz.map (gx bv (m - 1) * ·))
        rw [length_tr] at h1
        rw [List.length_map, H9.out.1.q.zl] at h2
        omega
      have had := rpAdd_any ha1 (HT.out.below hd1) (by omega) (by omega) (by decide) (by decide) (by decide) (by decide)
      go_wp2_with fail
      go_fit had
      rintro r y2 ⟨pq2, nq2, eq2, rfl, hq2, -, hqt, hd2⟩
      clear had ha1 hat
      have hB2 : Below v6.heap.size v6 y2 := bnext' hd1 hd2
      obtain ⟨q0, q1, -, -⟩ := HL.out.1.later (bnext' H9.out.2.1 hB2)
      have hsc := rpScale_any (H9.out.1.r.below hB2) (HL.out.2.below (bnext' H9.out.2.1 hB2)) (by omega) (by decide) (by decide)
      clear hd1 hd2
      go_wp2_with fail
      go_fit hsc
      rintro r y3 ⟨pb2, nb2, eb2, rfl, hb2, -, hbt2, hd3⟩
      clear hsc q0 q1
      have hnb : nb2 ≤ 12 := by
        have h1 := hb2.zl
        have h2 := tlen_le (rz.map (gx bv (m - 1) * ·))
        rw [length_tr] at h1
        rw [List.length_map, H9.out.1.r.zl] at h2
        omega
      have HN : Hid (Xb s u (i + 1) ≤ 2700 ∧ gx rz (nr - 1) ≠ 0) := by
        refine ⟨Nat.le_trans (xb_mono ?_) HX.out.2.2, ?_⟩
        · have h1 := H9.out.1.le
          have h2 := HK.out.2.2
          omega
        · have h1 := tlen_top rz (by rw [H9.out.1.rn]; omega)
          rwa [H9.out.1.rn] at h1
      have hB3 : Below v6.heap.size v6 y3 := bnext' hB2 hd3
      have hmu := rpMul_any (K := Xb s u i / 32 + 1) (L := (u + Md.gm + 3) / 32 + 1) (HT.out.below hB3) (HX.out.1.below (bnext' H9.out.1.bw hB3)) (by rw [mono_nrm HN.out.2, length_mono]) (by
        have h1 := HX.out.2.1
        have h2 := h1.lead.2.1
        rw [HX.out.1.zl]
        exact tlen_eq _ _ (fun t ht => gx_past bv _ (by rw [HX.out.1.zl]; exact Nat.le_refl _) t ht) (.inr h2)) (by omega) (by omega) (by decide) (by decide) (fun t => by
          rw [gx_mono]
          have h1 := H9.out.1.rbd HX.out.2.1 (nr - 1)
          rw [Nat.add_zero] at h1
          split
          · exact lt_pw h1 (by omega)
          · simpa using pw_pos _) (fun t => lt_pw (HX.out.2.1.bbd t) (by omega)) (by have h1 := HN.out.1; rw [xb_succ] at h1; omega)
      go_wp2_with fail
      go_fit hmu
      rintro r y4 ⟨pm, nm, em, rfl, hm2, -, hmt, hd4⟩
      clear hmu
      have hnm : nm ≤ 25 := by
        have h1 := hm2.zl
        unfold mulp at h1
        split at h1
        · simp at h1; omega
        · rw [length_mulz, length_mono, HX.out.1.zl] at h1
          have := HK.out.2.1
          omega
      have HNM : Hid (2 * (Xb s u i / 32 + 1 + ((u + Md.gm + 3) / 32 + 1) + 1) ≤ 200) := by
        have h1 := HN.out.1
        rw [xb_succ] at h1
        show _ ≤ _
        omega
      have hsu := rpSub_any (hb2.below hd4) hm2 (by omega) (by omega) (by decide) (by have := HNM.out; omega) (by decide)
      go_wp2_with fail
      go_fit hsu
      rintro r y5 ⟨pr2, nr2, er2, rfl, hr2, -, hrt, hd5⟩
      clear hsu
      have hB5 : Below v6.heap.size v6 y5 := bnext' hB3 (bnext' hd4 hd5)
      obtain ⟨k1, rho2, ka2, hnew⟩ := H9.out.1.step HX.out.2.1 HK.out.2.2 hn HN.out.1 hB5 (hq2.below (bnext' hd3 (bnext' hd4 hd5))) hr2 hqt hrt
      have HNW : Hid (PX w y5 H al be n s u (i + 1) 0 pq2 pr2 nq2 nr2 eq2 er2 _ _ rho2 ka2 ∧ Below W3.heap.size W3 y5 ∧ x - 1 = e0 - ((i + 1 : Nat) : Int) ∧ (0 < i + 1 → i + 1 ≤ n + 1 - m)) := ⟨hnew, bnext' H9.out.2.1 hB5, by have := H9.out.2.2; omega, fun _ => by
        have h1 := H9.out.1.le
        have h2 := HK.out.2.2
        omega⟩
      have hql2 := hnew.ql
      have hi2 : i + 1 ≤ 12 ∧ -30 ≤ x - 1 := by
        have h1 := H9.out.1.le
        have h2 := H9.out.2.2
        have h3 := HE.out
        omega
      have v9 : IntKind.i64.wrap (x - 1) = x - 1 := by rw [IntKind.wrap_i64]; omega
      clear hq2 hm2 hr2 hqt hmt hrt hd3 hd4 hd5 hB2 hB3 hB5 hnew HT HN H9 hb2 hbt2 HNM
      go_wp2
      refine ⟨⟨i + 1, x - 1, pq2, pr2, nq2, nr2, eq2, er2, _, _, rho2, ka2, rfl, rfl, rfl, by omega, hi2.1, hql2, hi2.2, by omega, HNW.out⟩, ?_⟩
      simp [slLen]
      omega
end Go.Proofs.YtkjpeehbhmcojaaGreatDoor
