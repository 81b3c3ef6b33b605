/-
  PolyPseudo's walk.
-/
import Derived.Test.YtakfimhpnpapdaaGreatDoorItCu
import Derived.Test.YtakfimhpnpapdaaGreatDoorVkJoUzUr
import Derived.Test.YtakfimhpnpapdaaGreatDoorUhHe
import Derived.Test.YtakfimhpnpapdaaGreatDoorVsVtVdRs
import Derived.Test.YtakfimhpnpapdaaGreatDoorVfDhCzPcDi
import Derived.Deep.DeepFit
import Derived.Test.YtakfimhpnpapdaaGreatDoorOaOfJpRzCw
namespace Go.Proofs.YtakfimhpnpapdaaGreatDoor
open Go.RowKit
set_option linter.unusedVariables false
set_option linter.unusedSimpArgs false

theorem RE.fit {w : World} {N M : Nat} {z : Int} {e : Ent} (h : RE w N z e) (hz : (z.natAbs : Int) < pw M) : RE w (2 * M) z e := by
  obtain ⟨⟨ds, h1, h2, h3⟩, h4⟩ := h
  subst h2
  exact ⟨⟨ds, h1, rfl, h1.fit (by rw [pd_two]; exact hz)⟩, h4⟩
theorem PN.pac {B : Nat} {w : World} {K : Nat} {p : Option Addr} {n nc : Nat} {es : List Ent} {zs : List Int} (h : PN B w K p n es zs) (hK : K ≤ 1000) (hn : n ≤ nc) (hc : nc ≤ maxLen) (hp : p = none → nc = 0) : PA w K p n nc es zs :=
  ⟨h.el, h.zl, hn, hc, hp, h.pl, fun j hj => (h.ev j hj).ev hK⟩
set_option maxHeartbeats 2000000 in
set_option maxRecDepth 100000 in
/-- ashlarref3.Is, whatever room lies behind the first. -/
theorem rpIs_c {B : Nat} {w : World} {K N : Nat} {p q : Option Addr} {n n' pc nc : Nat} {es fs : List Ent} {zs : List Int} (h : PN B w K p n es zs) (k : PR w N q n' nc fs zs) (hK : K ≤ 1000) (hN : N ≤ 1000) (hn : n ≤ 1000000) :
    Calls Tryz.prog 9 #[.slice p n pc, .slice q n' nc] w fun r w' => r = .returned (.bool true) ∧ Below w.heap.size w w' := by
  obtain rfl : n' = n := by rw [← h.zl, ← k.zl]
  have hel := h.el
  have hfl := k.el
  go_enter Tryz.func9, Tryz.ntmps9
  go_wp2_with fail
  go_loopw [5, 6] (fun iv sv wr => ∃ j : Nat, j ≤ n' ∧ iv = .int .i64 j ∧ Hid (Below w.heap.size w wr)) (fun iv _ _ => n' - (intOf iv).toNat)
  case atStart => exact ⟨0, Nat.zero_le _, by go_num, Below.refl _ _⟩
  case round =>
    obtain ⟨j, hj, rfl, H⟩ := hrel
    rcases Nat.lt_or_ge j n' with hlt | hge
    · have hh := h.below H.out
      have hk := k.below H.out
      have hv := hh.ev j hlt
      have hw := hk.ev j hlt
      obtain ⟨b, o, hp, hc⟩ := hh.pl (by omega)
      obtain ⟨c, r, hq, hd⟩ := hk.pl (by omega)
      subst hp hq
      obtain ⟨c0, c1⟩ := hc j (by omega)
      obtain ⟨d0, d1⟩ := hd j (by omega)
      clear hc hd hh hk
      go_wp2_with fail
      go_region_held3 (fun w' => w'.cell? ⟨b, o + j * 2, none⟩ = some (.bool (ge es j).s) ∧ w'.cell? ⟨b, o + j * 2 + 1, none⟩ = some (.slice (ge es j).p (ge es j).n (ge es j).c) ∧ w'.cell? ⟨c, r + j * 2, none⟩ = some (.bool (ge fs j).s) ∧ w'.cell? ⟨c, r + j * 2 + 1, none⟩ = some (.slice (ge fs j).p (ge fs j).n (ge fs j).c)) (first | with_reducible exact ⟨c0, c1, d0, d1⟩ | with_reducible exact keepc4 ⟨c0, c1, d0, d1⟩ hV1 | (simp [go_sem, *]; done))
        (first
          | (go_at_call 23; refine (rIs_e (hv.drew) hK hw.drew hN).mono ?_; rintro e w1 ⟨rfl, hb1⟩; have hV1 := undrew hb1))
      have hB := bnext' H.out hV1
      clear c0 c1 d0 d1 hv hw
      go_wp2
      go_roundw
      case rel => exact ⟨j + 1, by omega, by go_num, hB⟩
      case measure => simp [intOf]; omega
    · obtain rfl : j = n' := by omega
      go_wp2
      go_ret
      exact ⟨rfl, H.out⟩
theorem tr_full {zs : List Int} (h : tlen zs = zs.length) : tr zs = zs := by rw [tr, h, List.take_length]
theorem len_mulp' (zs ys : List Int) : (mulp zs ys).length ≤ zs.length + ys.length := by
  unfold mulp
  split
  · exact Nat.zero_le _
  · rw [length_mulz]; omega
/-- What holds behind Pseudo. -/
structure PP (w wc : World) (px py pq pr : Option Addr) (nx ny nq cq nr : Nat) (ex ey eq er : List Ent) (xs ys qz rz : List Int) : Prop where
  x : PR wc 4 px nx nx ex xs
  y : PR wc 4 py ny ny ey ys
  q : PN w.heap.size wc 26 pq nq eq qz
  r : PN w.heap.size wc 26 pr nr er rz
  c1 : nq ≤ cq
  c2 : cq ≤ maxLen
  c3 : pq = none → cq = 0
  ps : PsR xs ys qz rz
  bw : Below w.heap.size w wc
  yb : ∀ i, ((gx ys i).natAbs : Int) < pw 2
  yn : tlen ys = ys.length
theorem PP.later {w wc w' : World} {px py pq pr : Option Addr} {nx ny nq cq nr : Nat} {ex ey eq er : List Ent} {xs ys qz rz : List Int} (h : PP w wc px py pq pr nx ny nq cq nr ex ey eq er xs ys qz rz) (hb : Below wc.heap.size wc w') : PP w w' px py pq pr nx ny nq cq nr ex ey eq er xs ys qz rz :=
  ⟨h.x.below hb, h.y.below hb, h.q.below hb, h.r.below hb, h.c1, h.c2, h.c3, h.ps, bnext' h.bw hb, h.yb, h.yn⟩
theorem PN.gbd {B : Nat} {w : World} {K : Nat} {p : Option Addr} {n : Nat} {es : List Ent} {zs : List Int} (h : PN B w K p n es zs) (hK : K ≤ 1000) (hn : n ≤ 1000000) (i : Nat) : ((gx zs i).natAbs : Int) < pw K := (h.pa hK hn).gbd i
set_option maxHeartbeats 1500000 in
set_option maxRecDepth 100000 in
/-- PolyPseudo. -/
theorem PolyPseudo_walk {w : World} {p q : Option Addr} {n nc m mc : Nat} {es fs : List Ent} (h : PZ w p n nc es) (k : PZ w q m mc fs) :
    Calls Tryz.prog 4 #[.slice p n nc, .slice q m mc] w fun r w' => r = .returned (.bool true) ∧ Below w.heap.size w w' := by
  have HX : Hid (PZ w p n nc es ∧ PZ w q m mc fs) := ⟨h, k⟩
  clear h k
  go_enter Tryz.func4, Tryz.ntmps4
  go_wp2_with fail
  refine (begun3_any w).mono ?_
  rintro r W1 ⟨rfl, hb0⟩
  have hc1 := Cut3_any (HX.out.1.below hb0) 8 2 (by decide) (by decide)
  go_wp2_with fail
  refine hc1.mono ?_
  rintro r w1 ⟨p1, n1, nc1, es1, zs, rfl, hP1, hn1, -, -, hb1⟩
  have hn8 : n1 ≤ 8 := by omega
  clear hn1
  have hc2 := Cut3_any ((HX.out.2.below hb0).below hb1) 6 2 (by decide) (by decide)
  clear hc1
  go_wp2_with fail
  refine hc2.mono ?_
  rintro r w2 ⟨q1, m1, mc1, fs1, ys, rfl, hQ1, hm1, -, -, hb2⟩
  have HP : Hid (PA w2 2 p1 n1 nc1 es1 zs ∧ PA w2 2 q1 m1 mc1 fs1 ys ∧ Below w.heap.size w w2) := ⟨hP1.below hb2, hQ1, bnext' (bnext' hb0 hb1) hb2⟩
  have hm6 : m1 ≤ 6 := by omega
  clear hc2 hP1 hQ1 hm1 hb0 hb1 hb2 HX
  have hf1 := rpFrom_any HP.out.1 (by omega) (by decide)
  go_wp2_with fail
  refine hf1.mono ?_
  rintro r w3 ⟨px, nx, ex, rfl, hRx, -, htx, hb3⟩
  have hf2 := rpFrom_any (HP.out.2.1.below hb3) (by omega) (by decide)
  clear hf1
  go_wp2_with fail
  refine hf2.mono ?_
  rintro r w4 ⟨py, ny, ey, rfl, hRy, -, hty, hb4⟩
  clear hf2
  have hlx := hRx.zl
  have hly := hRy.zl
  rw [length_tr] at hlx hly
  have hnx : nx ≤ 8 := by have := tlen_le zs; have := HP.out.1.zl; omega
  have hny : ny ≤ 6 := by have := tlen_le ys; have := HP.out.2.1.zl; omega
  have HA : Hid (PR w4 4 px nx nx ex (tr zs) ∧ PR w4 4 py ny ny ey (tr ys) ∧ PA w4 2 p1 n1 nc1 es1 zs ∧ PA w4 2 q1 m1 mc1 fs1 ys ∧ Below w.heap.size w w4 ∧ tlen ys = ny) := ⟨hRx.below hb4, hRy, (HP.out.1.below hb3).below hb4, (HP.out.2.1.below hb3).below hb4, bnext' (bnext' HP.out.2.2 hb3) hb4, hly⟩
  clear hRx hRy HP hb3 hb4 htx hty hlx hly
  have hcs : Hid (ny = 0 ∨ 1 ≤ ny) := by show _ ∨ _; omega
  rcases hcs.out with rfl | hny1
  · have hps := uPseudo_zero HA.out.2.2.1 HA.out.2.2.2.1 (by omega) (by omega) (by decide) HA.out.2.2.2.2.2
    clear hcs
    go_wp2_with fail
    refine hps.mono ?_
    rintro r w5 ⟨rfl, hb5⟩
    clear hps
    go_wp2
    go_ret
    exact ⟨rfl, bnext' HA.out.2.2.2.2.1 hb5⟩
  · have hps := uPseudo_any (M := 26) HA.out.2.2.1 HA.out.2.2.2.1 (by omega) (by omega) (by decide) (by decide) (by rw [HA.out.2.2.2.2.2]; exact hny1) (by omega) (by decide)
    have i1 : ((ny : Int) == 0) = false := by rw [beq_eq_false_iff_ne]; omega
    have i2 : ¬ (ny : Int) = 0 := by omega
    clear hcs
    go_wp2_with fail
    refine hps.mono ?_
    rintro r w5 ⟨pq, nq, cq, eq, pr, nr, er, qz, rz, rfl, hc1, hc2, hc3, hq5, hr5, hR, hb5⟩
    clear hps
    have H5 : Hid (PP w w5 px py pq pr nx ny nq cq nr ex ey eq er (tr zs) (tr ys) qz rz) := by
      have hs := HA.out.2.2.2.2.1.size
      exact ⟨HA.out.1.below hb5, HA.out.2.1.below hb5, hq5.mono hs, hr5.mono hs, hc1, hc2, hc3, hR, bnext' HA.out.2.2.2.2.1 hb5, fun i => by rw [gx_tr]; exact HA.out.2.2.2.1.gbd i, by rw [tlen_tr, length_tr]⟩
    have hnq : nq ≤ 8 := by have h1 := hR.qn; have h2 := hq5.zl; have h3 := HA.out.1.zl; omega
    have hnr : nr < ny := by have h1 := hR.lt; have h2 := hr5.zl; have h3 := HA.out.2.1.zl; omega
    clear hc1 hc2 hc3 hq5 hr5 hR hb5 HA
    have hf1 := rpFrom_any (H5.out.q.pac (by decide) H5.out.c1 H5.out.c2 H5.out.c3) (by omega) (by decide)
    rw [tr_full (by rw [H5.out.q.nrm, H5.out.q.zl])] at hf1
    go_wp2_with fail
    refine hf1.mono ?_
    rintro r w6 ⟨pu, nu, eu, rfl, hRu, -, htu, hb6⟩
    have H6 := (show Hid _ from H5.out.later hb6)
    clear hf1 H5 htu
    have hf2 := rpFrom_any (H6.out.r.pa (by decide) (by omega)) (by omega) (by decide)
    rw [tr_full (by rw [H6.out.r.nrm, H6.out.r.zl])] at hf2
    go_wp2_with fail
    refine hf2.mono ?_
    rintro r w7 ⟨pv, nv, ev, rfl, hRv, -, htv, hb7⟩
    have H7 : Hid (PP w w7 px py pq pr nx ny nq cq nr ex ey eq er (tr zs) (tr ys) qz rz ∧ PR w7 52 pu nu nu eu qz ∧ PR w7 52 pv nv nv ev rz) := ⟨H6.out.later hb7, hRu.below hb7, hRv⟩
    have hnu : nu ≤ 8 := by have h1 := hRu.zl; have h2 := H6.out.q.zl; omega
    have hnv : nv < ny := by have h1 := hRv.zl; have h2 := H6.out.r.zl; omega
    clear hf2 H6 htv hRu hRv hb6 hb7
    have hd1 := rpDeg_any px nx nx w7 (by omega)
    go_wp2_with fail
    refine hd1.mono ?_
    rintro r w8 ⟨rfl, hb8⟩
    have hd2 := rpDeg_any py ny ny w8 (by omega)
    clear hd1
    go_wp2_with fail
    refine hd2.mono ?_
    rintro r w9 ⟨rfl, hb9⟩
    clear hd2
    have H9 : Hid (PP w w9 px py pq pr nx ny nq cq nr ex ey eq er (tr zs) (tr ys) qz rz ∧ PR w9 52 pu nu nu eu qz ∧ PR w9 52 pv nv nv ev rz) := ⟨H7.out.1.later (bnext' hb8 hb9), H7.out.2.1.below (bnext' hb8 hb9), H7.out.2.2.below (bnext' hb8 hb9)⟩
    clear H7 hb8 hb9
    have hle := rpLead_any H9.out.1.y (by omega) (by decide)
    have hcs : Hid (nx + 1 < ny ∨ ny ≤ nx + 1) := by show _ ∨ _; omega
    rcases hcs.out with hlt | hge
    · have j1 : (nx : Int) - 1 - ((ny : Int) - 1) + 1 < 0 := by omega
      have HE : Hid (nx + 1 - ny = 0) := by show _ = _; omega
      go_wp2_with fail
      refine hle.mono ?_
      rintro r v1 ⟨u1, rfl, hu1, hc1⟩
      have hpo := rPower_e (k := 0) hu1 (by decide) (by omega)
      clear hle hcs
      go_wp2_with fail
      refine hpo.mono ?_
      rintro r v2 ⟨u2, rfl, hu2, -, hc2⟩
      clear hpo hu1
      have hL : ((gx (tr ys) (ny - 1)).natAbs : Int) < pw 2 := H9.out.1.yb _
      have hu3 := hu2.fit (M := 17) (Int.lt_of_lt_of_le (pow_lt hL (by decide) 0) (pw_mono (by omega)))
      have hB2 := bnext' hc1 hc2
      have hsc := rpScale_any (H9.out.1.x.below hB2) hu3 (by omega) (by decide) (by decide)
      clear hu2 hL
      go_wp2_with fail
      refine hsc.mono ?_
      rintro r v3 ⟨pl, nl, el, rfl, hRl, -, htl, hc3⟩
      have hB3 := bnext' hB2 hc3
      have hmu := rpMul_any (K := 26) (L := 2) (H9.out.2.1.below hB3) (H9.out.1.y.below hB3) (by rw [H9.out.1.q.nrm, H9.out.1.q.zl]) H9.out.1.yn (by omega) (by omega) (by decide) (by decide) (fun i => H9.out.1.q.gbd (by decide) (by omega) i) H9.out.1.yb (by decide)
      clear hsc hu3
      go_wp2_with fail
      refine hmu.mono ?_
      rintro r v4 ⟨pm, nm, em, rfl, hRm, -, htm, hc4⟩
      have hB4 := bnext' hB3 hc4
      have hnm : nm ≤ 14 := by have h1 := hRm.zl; have h2 := len_mulp' qz (tr ys); have h3 := H9.out.1.q.zl; have h4 := H9.out.1.y.zl; omega
      have had := rpAdd_any hRm (H9.out.2.2.below hB4) (by omega) (by omega) (by decide) (by decide) (by decide) (by decide)
      clear hmu
      go_wp2_with fail
      refine had.mono ?_
      rintro r v5 ⟨pa, na, ea, rfl, hRa, -, hta, hc5⟩
      have hB5 := bnext' hB4 hc5
      have hna : na ≤ 20 := by
        have h1 := hRa.zl
        rw [length_tr] at h1
        have h2 := tlen_le (pz (· + ·) (mulp qz (tr ys)) rz)
        rw [length_pz, hRm.zl, H9.out.2.2.zl] at h2
        omega
      have hnl : nl ≤ 8 := by
        have h1 := hRl.zl
        rw [length_tr] at h1
        have h2 := tlen_le ((tr zs).map (gx (tr ys) (ny - 1) ^ 0 * ·))
        rw [List.length_map, H9.out.1.x.zl] at h2
        omega
      have heq := rpEq_any (hRl.below (bnext' hc4 hc5)) hRa (by decide) (by decide) (by omega) (by omega)
      have hde : tr ((tr zs).map (gx (tr ys) (ny - 1) ^ 0 * ·)) = tr (pz (· + ·) (mulp qz (tr ys)) rz) := by
        have h1 := H9.out.1.ps.eq
        rw [H9.out.1.x.zl, H9.out.1.y.zl, HE.out] at h1
        exact h1
      rw [decide_eq_true hde] at heq
      clear had hde hRm hRl hRa
      go_wp2_with fail
      refine heq.mono ?_
      rintro r v6 ⟨rfl, hc6⟩
      have hB6 := bnext' hB5 hc6
      have HZ : Hid (PP w v6 px py pq pr nx ny nq cq nr ex ey eq er (tr zs) (tr ys) qz rz ∧ PR v6 52 pu nu nu eu qz ∧ PR v6 52 pv nv nv ev rz) := ⟨H9.out.1.later hB6, H9.out.2.1.below hB6, H9.out.2.2.below hB6⟩
      clear heq H9 hB6 hB5 hB4 hB3 hB2 hc1 hc2 hc3 hc4 hc5 hc6
      have hd1 := rpDeg_any pv nv nv v6 (by omega)
      go_wp2_with fail
      refine hd1.mono ?_
      rintro r v7 ⟨rfl, hc7⟩
      have hd2 := rpDeg_any py ny ny v7 (by omega)
      clear hd1
      have j5 : (nv : Int) - 1 < (ny : Int) - 1 := by omega
      go_wp2_with fail
      refine hd2.mono ?_
      rintro r v8 ⟨rfl, hc8⟩
      have hB8 := bnext' hc7 hc8
      have hi1 := rpIs_c (pc := cq) (HZ.out.1.q.below hB8) (HZ.out.2.1.below hB8) (by decide) (by decide) (by omega)
      clear hd2
      go_wp2_with fail
      refine hi1.mono ?_
      rintro r v9 ⟨rfl, hc9⟩
      have hB9 := bnext' hB8 hc9
      have hi2 := rpIs_c (pc := nr) (HZ.out.1.r.below hB9) (HZ.out.2.2.below hB9) (by decide) (by decide) (by omega)
      clear hi1
      go_wp2_with fail
      refine hi2.mono ?_
      rintro r v10 ⟨rfl, hc10⟩
      clear hi2
      go_wp2
      go_ret
      exact ⟨rfl, bnext' (bnext' HZ.out.1.bw hB9) hc10⟩
    · have j1 : ¬ (nx : Int) - 1 - ((ny : Int) - 1) + 1 < 0 := by omega
      obtain ⟨e, he⟩ : ∃ e : Nat, (nx : Int) - 1 - ((ny : Int) - 1) + 1 = (e : Int) := ⟨nx + 1 - ny, by omega⟩
      have HE : Hid (nx + 1 - ny = e) := by show _ = _; omega
      have he8 : e ≤ 8 := by omega
      go_wp2_with fail
      refine hle.mono ?_
      rintro r v1 ⟨u1, rfl, hu1, hc1⟩
      have hpo := rPower_e (k := e) hu1 (by decide) (by omega)
      clear hle hcs
      go_wp2_with fail
      refine hpo.mono ?_
      rintro r v2 ⟨u2, rfl, hu2, -, hc2⟩
      clear hpo hu1
      have hL : ((gx (tr ys) (ny - 1)).natAbs : Int) < pw 2 := H9.out.1.yb _
      have hu3 := hu2.fit (M := 17) (Int.lt_of_lt_of_le (pow_lt hL (by decide) e) (pw_mono (by omega)))
      have hB2 := bnext' hc1 hc2
      have hsc := rpScale_any (H9.out.1.x.below hB2) hu3 (by omega) (by decide) (by decide)
      clear hu2 hL
      go_wp2_with fail
      refine hsc.mono ?_
      rintro r v3 ⟨pl, nl, el, rfl, hRl, -, htl, hc3⟩
      have hB3 := bnext' hB2 hc3
      have hmu := rpMul_any (K := 26) (L := 2) (H9.out.2.1.below hB3) (H9.out.1.y.below hB3) (by rw [H9.out.1.q.nrm, H9.out.1.q.zl]) H9.out.1.yn (by omega) (by omega) (by decide) (by decide) (fun i => H9.out.1.q.gbd (by decide) (by omega) i) H9.out.1.yb (by decide)
      clear hsc hu3
      go_wp2_with fail
      refine hmu.mono ?_
      rintro r v4 ⟨pm, nm, em, rfl, hRm, -, htm, hc4⟩
      have hB4 := bnext' hB3 hc4
      have hnm : nm ≤ 14 := by have h1 := hRm.zl; have h2 := len_mulp' qz (tr ys); have h3 := H9.out.1.q.zl; have h4 := H9.out.1.y.zl; omega
      have had := rpAdd_any hRm (H9.out.2.2.below hB4) (by omega) (by omega) (by decide) (by decide) (by decide) (by decide)
      clear hmu
      go_wp2_with fail
      refine had.mono ?_
      rintro r v5 ⟨pa, na, ea, rfl, hRa, -, hta, hc5⟩
      have hB5 := bnext' hB4 hc5
      have hna : na ≤ 20 := by
        have h1 := hRa.zl
        rw [length_tr] at h1
        have h2 := tlen_le (pz (· + ·) (mulp qz (tr ys)) rz)
        rw [length_pz, hRm.zl, H9.out.2.2.zl] at h2
        omega
      have hnl : nl ≤ 8 := by
        have h1 := hRl.zl
        rw [length_tr] at h1
        have h2 := tlen_le ((tr zs).map (gx (tr ys) (ny - 1) ^ e * ·))
        rw [List.length_map, H9.out.1.x.zl] at h2
        omega
      have heq := rpEq_any (hRl.below (bnext' hc4 hc5)) hRa (by decide) (by decide) (by omega) (by omega)
      have hde : tr ((tr zs).map (gx (tr ys) (ny - 1) ^ e * ·)) = tr (pz (· + ·) (mulp qz (tr ys)) rz) := by
        have h1 := H9.out.1.ps.eq
        rw [H9.out.1.x.zl, H9.out.1.y.zl, HE.out] at h1
        exact h1
      rw [decide_eq_true hde] at heq
      clear had hde hRm hRl hRa
      go_wp2_with fail
      refine heq.mono ?_
      rintro r v6 ⟨rfl, hc6⟩
      have hB6 := bnext' hB5 hc6
      have HZ : Hid (PP w v6 px py pq pr nx ny nq cq nr ex ey eq er (tr zs) (tr ys) qz rz ∧ PR v6 52 pu nu nu eu qz ∧ PR v6 52 pv nv nv ev rz) := ⟨H9.out.1.later hB6, H9.out.2.1.below hB6, H9.out.2.2.below hB6⟩
      clear heq H9 hB6 hB5 hB4 hB3 hB2 hc1 hc2 hc3 hc4 hc5 hc6
      have hd1 := rpDeg_any pv nv nv v6 (by omega)
      go_wp2_with fail
      refine hd1.mono ?_
      rintro r v7 ⟨rfl, hc7⟩
      have hd2 := rpDeg_any py ny ny v7 (by omega)
      clear hd1
      have j5 : (nv : Int) - 1 < (ny : Int) - 1 := by omega
      go_wp2_with fail
      refine hd2.mono ?_
      rintro r v8 ⟨rfl, hc8⟩
      have hB8 := bnext' hc7 hc8
      have hi1 := rpIs_c (pc := cq) (HZ.out.1.q.below hB8) (HZ.out.2.1.below hB8) (by decide) (by decide) (by omega)
      clear hd2
      go_wp2_with fail
      refine hi1.mono ?_
      rintro r v9 ⟨rfl, hc9⟩
      have hB9 := bnext' hB8 hc9
      have hi2 := rpIs_c (pc := nr) (HZ.out.1.r.below hB9) (HZ.out.2.2.below hB9) (by decide) (by decide) (by omega)
      clear hi1
      go_wp2_with fail
      refine hi2.mono ?_
      rintro r v10 ⟨rfl, hc10⟩
      clear hi2
      go_wp2
      go_ret
      exact ⟨rfl, bnext' (bnext' HZ.out.1.bw hB9) hc10⟩
end Go.Proofs.YtakfimhpnpapdaaGreatDoor
/-
  What an argument of type api.Int is, read as data.
-/
namespace Go.Proofs.YtakfimhpnpapdaaGreatDoor
open Go.ChangeShapes Go.WideShapes Go.ChangeAt Go.RowKit Go.Joins
set_option linter.unusedVariables false
set_option linter.unusedSimpArgs false

theorem cellsInt : Tryz.prog.cellsOf 29 = 2 := by kernel_rfl
theorem cellsLimb : Tryz.prog.cellsOf 26 = 1 := by kernel_rfl

/-- What an api.Int is, as an argument. -/
def IntArg (W : World) (v : Value) : Prop := ∃ (s : Bool) (pa : Option Addr) (n nc : Nat) (xs : List Int), v = .agg #[.bool s, .slice pa n nc] ∧ xs.length = n ∧ n ≤ nc ∧ nc ≤ maxLen ∧ Rd W pa .u32 xs ∧ U32 xs ∧ (pa = none → nc = 0)

set_option maxRecDepth 100000 in
theorem openInt {H : Type} {enc : TypeId × Value → H} {W : World} {base : Nat} {v0 : Value} {d0 : DataW H} {p0 : List MemPlace} (hv : Value.okWide Tryz.prog W .any base 29 v0)
    (h0 : DataW.Trod enc Tryz.prog W 0 (fun _ => true) true 29 v0 d0 p0) : IntArg W v0 := by
  obtain ⟨c0, c1, y0, y1, k, rfl, -, -, hy0, hy1⟩ := open_agg2 Tryz.underlying29 (by kernel_rfl) cellsInt hv h0
  obtain ⟨s, e0, -⟩ := DataW.trod_bool Tryz.underlying4 hy0
  simp only [List.cons.injEq, and_true] at e0
  subst e0
  rcases open_ints Tryz.underlying27 Tryz.underlying26 cellsLimb hy1 with ⟨hcs, -⟩ | ⟨a, len, cap, zs, hcs, -, hl, hm, hz, -, hcell, hwz⟩
  · simp only [List.cons.injEq, and_true] at hcs
    subst hcs
    exact ⟨s, none, 0, 0, [], rfl, rfl, Nat.le_refl _, Nat.zero_le _, Rd.nil, u32_nil, fun _ => rfl⟩
  · simp only [List.cons.injEq, and_true] at hcs
    subst hcs
    simp only [if_true] at hz
    refine ⟨s, some a, len, cap, zs.take len, rfl, by simp; omega, hl, hm, ?_, ?_, fun h => by cases h⟩
    · intro hp
      have hp' : 0 < zs.length := by simp at hp; omega
      obtain ⟨b, off, rfl, hc⟩ := ints_at hcell hp'
      refine ⟨b, off, rfl, fun j hj => ?_⟩
      have hj' : j < len ∧ j < zs.length := by simp at hj; omega
      rw [gx_take _ _ _ hj'.1]
      exact hc j hj'.2
    · refine u32_take (fun j => ?_) len
      by_cases hj : j < zs.length
      · have := hwz zs[j] (List.getElem_mem hj)
        rw [gx_mem zs j hj]
        have h4 : 0 ≤ zs[j] ∧ zs[j] ≤ 4294967295 := by
          simpa [Lit.wf, IntKind.min, IntKind.max, IntKind.signed, IntKind.bits] using this
        exact ⟨h4.1, by omega⟩
      · rw [gx_past zs _ (Nat.le_refl _) j (by omega)]; decide
end Go.Proofs.YtakfimhpnpapdaaGreatDoor
