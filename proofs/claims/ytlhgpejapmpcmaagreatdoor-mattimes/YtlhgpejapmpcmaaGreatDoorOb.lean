/-
  MatTimes' walk.
-/
import Derived.Test.YtlhgpejapmpcmaaGreatDoorOz
import Derived.Test.YtlhgpejapmpcmaaGreatDoorKgOvDcVsVt
import Derived.Test.YtlhgpejapmpcmaaGreatDoorRzVdRtDhVe
import Derived.Deep.CutBlock
import Derived.Deep.DeepCutAuto
import Derived.Deep.DeepFit
import Derived.Deep.RegionHeld3
namespace Go.Proofs.YtlhgpejapmpcmaaGreatDoor
open Go.RowKit
set_option linter.unusedVariables false
set_option linter.unusedSimpArgs false

theorem pr_bd {w : World} {p : Option Addr} {n nc : Nat} {es : List Ent} {zs : List Int} (h : PR w 2 p n nc es zs) (i : Nat) : ((gx zs i).natAbs : Int) < pw 1 := by
  have e : pd 2 = pw 1 := by decide
  rcases Nat.lt_or_ge i n with hi | hi
  · rw [← e]
    exact (h.ev i hi).1.bd
  · have h0 : gx zs i = 0 := by simp [gx, h.zl, hi]
    rw [h0]
    decide
theorem from_len {w : World} {K : Nat} {p : Option Addr} {n nc m D : Nat} {es : List Ent} {zs : List Int} (ht : tlen (tr zs) = m) (h : PA w K p n nc es zs) (hn : n ≤ D) : m ≤ D := by
  have h1 := tlen_le zs
  have h2 := h.zl
  rw [tlen_tr] at ht
  omega
set_option maxHeartbeats 4000000 in
set_option maxRecDepth 100000 in
theorem MatTimes_walk {w : World} {p : Option Addr} {n nc : Nat} {hs0 : List Hdr} (h : MZ w p n nc hs0) {pv : Option Addr} {nv ncv : Nat} {rs0 : List Hdr} (hv : RZ w pv nv ncv rs0) :
    Calls Tryz.prog 4 #[.slice p n nc, .slice pv nv ncv] w fun e w' => e = .returned (.bool true) ∧ Below w.heap.size w w' := by
  obtain ⟨i0, hi, hzz⟩ := Option.map_eq_some_iff.1 info_apiP
  simp only [Prod.mk.injEq] at hzz
  obtain ⟨hz0, hz1, hz2⟩ := hzz
  have HI : Hid (Tryz.prog.info? 37 = some i0 ∧ i0.zero = some (.slice none 0 0) ∧ i0.size = 1 ∧ i0.bytes = 24) := ⟨hi, hz0, hz1, hz2⟩
  clear hi hz0 hz1 hz2
  have hnm : nv ≤ 9223372036854775807 := by have h1 := hv.cap; have h2 := hv.bnd; unfold maxLen at h2; omega
  go_enter Tryz.func4, Tryz.ntmps4
  go_wp2_with fail
  refine (begun7_any w).mono ?_
  rintro e w1 ⟨rfl, hb1⟩
  have HZ : Hid (MZ w1 p n nc hs0) := h.below hb1
  have HV1 : Hid (RZ w1 pv nv ncv rs0) := hv.below hb1
  have HB1 : Hid (Below w.heap.size w w1) := hb1
  clear h hb1 hv
  go_wp2_with fail
  refine (cut7_any HZ.out 4 4 (by decide) (by decide)).mono ?_
  rintro e w2 ⟨hd, ts, rfl, hdn, hH, hb2⟩
  have HB2 : Hid (Below w.heap.size w w2) := bnext' HB1.out hb2
  have HV2 : Hid (RZ w2 pv nv ncv rs0) := HV1.out.below hb2
  obtain ⟨q, m, mc⟩ := hd
  have HH : Hid (HR 4 (HR 4 (EZ 1 3)) w2 w1.heap.size w2.heap.size ts ⟨q, m, mc⟩) := hH
  clear hdn hb2 hH HZ HV1
  simp only [Hdr.val]
  go_upto_block 0 with fail
  go_cut [6, 7] (fun qv iv wc => ∃ (j : Nat) (zss : List (List Int)) (q' : Option Addr) (cap : Nat), qv = .slice q' j cap ∧ Hid (HR 5 (EZ 1 3) wc w2.heap.size wc.heap.size zss ⟨q', j, cap⟩ ∧ Below w2.heap.size w2 wc))
  case first =>
   go_wp2_with fail
   go_loopw [6, 7] (fun qv iv wr => ∃ (k : Nat) (ls : List Hdr) (zss : List (List Int)), k ≤ min nv 5 ∧ iv = .int .i64 k ∧ Hid (ls.length = k ∧ LH w2.heap.size 37 (EZ 1 3) wr qv ls zss ∧ Below w2.heap.size w2 wr)) (fun _ iv _ => min nv 5 - (intOf iv).toNat)
   case atStart => exact ⟨0, [], [], Nat.zero_le _, by go_num, rfl, LH.nil _ _ _ _, Below.refl _ _⟩
   case round =>
     obtain ⟨j, rs, zss, hj, rfl, G⟩ := hrel
     rcases Nat.lt_or_ge j (min nv 5) with hlt1 | hge1
     · obtain ⟨gel, gLH, gB⟩ := G.out
       have hN := HV2.out.below gB
       obtain ⟨b1, o1, hp1, hc1⟩ := hN.hl (by rw [hN.el]; omega)
       subst hp1
       have c1 := hc1 j (by rw [hN.el]; omega)
       obtain ⟨es2, hP2⟩ := hN.ev j (by omega)
       generalize gh rs0 j = hd2 at c1 hP2
       obtain ⟨p2, n2, nc2⟩ := hd2
       simp only [Hdr.val] at c1 hP2
       have j1 : (j : Int) < (nv : Int) := by omega
       have j2 : (j : Int) < 5 := by omega
       clear gel gLH gB hc1 hN
       go_wp2_with fail
       refine (Cut3_any hP2 3 1 (by decide) (by decide)).mono ?_
       rintro e w3 ⟨q', m', mc', fs, zs, rfl, hPA, hm, hF1, hF2, hb3⟩
       have HE : Hid (EZ 1 3 w3 wr.heap.size w3.heap.size zs ⟨q', m', mc'⟩) := ez_of_cut hPA hm hF1 hF2
       have hown0 := own_below G.out.2.1.own hb3
       rw [G.out.1] at hown0
       have HO : Hid (w3.ownsRow w2.heap.size 37 1 u6 j (rs.map Hdr.val)) := hown0
       have hsz : w2.heap.size ≤ w3.heap.size := Nat.le_trans G.out.2.2.size hb3.size
       obtain ⟨hi, hz0, hz1, hz2⟩ := HI.out
       clear hown0 hPA hm hF1 hF2 c1 hP2
       go_wp2_with (refine wpList_append_lies _ rfl _ _ 35 rfl w2.heap.size 37 i0 (.slice none 0 0) 1 24 Tryz.underlying35 hi hz0 hz1 hz2 rfl (by decide) u6 j (rs.map Hdr.val) rfl (HO.out.alloc _) ⟨w3.heap.size, 0, none⟩ 1 1 [.slice q' m' mc'] rfl rfl ?_ (fun x hx => by simp at hx; subst hx; rfl) (by decide) (by unfold maxLen; omega) (by omega) (by simp; omega) _ rfl ?_; exact World.news_of_block (heap_alloc_new w3 _); intro g cap w4 hown3 hgrow3 hat3 hlt3; have hB3 : Below w2.heap.size w2 w4 := ((bnext' G.out.2.2 hb3).alloc hsz _).grown hgrow3 (by simp; omega) (fun q hq => (HO.out.lt q hq).1); have HA : Hid (LH w2.heap.size 37 (EZ 1 3) w4 (.slice (some ⟨g, 0, none⟩) (j + 1) cap) (rs ++ [⟨q', m', mc'⟩]) (zss ++ [zs])) := LH.app (lasts_EZ 1 3) G.out.1 G.out.2.1 hb3 HE.out (Nat.le_refl _) (Nat.le_refl _) G.out.2.2.size hown3 hgrow3 hat3; clear hown3 hgrow3 hat3)
       refine ⟨⟨j + 1, rs ++ [⟨q', m', mc'⟩], zss ++ [zs], by omega, by go_num, by have := G.out.1; simp; omega, HA.out, hB3⟩, by simp [intOf]; omega⟩
     · obtain ⟨gel, gLH, gB⟩ := G.out
       obtain ⟨qv, cap, hvv, hRow⟩ := gLH.row (lasts_EZ 1 3) (D := 5) (by omega)
       subst hvv
       rw [gel] at hRow ⊢
       have HW : Hid (HR 5 (EZ 1 3) wr w2.heap.size wr.heap.size zss ⟨qv, j, cap⟩ ∧ Below w2.heap.size w2 wr) := ⟨⟨rs, hRow⟩, gB⟩
       have hcs : Hid (¬ j < nv ∨ (j < nv ∧ ¬ j < 5)) := by show _ ∨ _; omega
       clear gLH gB hRow G gel
       rcases hcs.out with h1 | ⟨h1, h2⟩
       · have i1 : ¬ (j : Int) < (nv : Int) := by omega
         clear h1
         go_wp2_with fail
         go_meet
         exact ⟨j, zss, qv, cap, rfl, HW.out⟩
       · have i1 : (j : Int) < (nv : Int) := by omega
         have i2 : ¬ (j : Int) < 5 := by omega
         clear h1 h2
         go_wp2_with fail
         go_meet
         exact ⟨j, zss, qv, cap, rfl, HW.out⟩
  case rest =>
  obtain ⟨j, zss, qv, cap, rfl, HW⟩ := hcut
  have HB3 : Hid (Below w.heap.size w wc) := bnext' HB2.out HW.out.2
  have HH3 : Hid (HR 4 (HR 4 (EZ 1 3)) wc w1.heap.size w2.heap.size ts ⟨q, m, mc⟩ ∧ w2.heap.size ≤ wc.heap.size) := ⟨(lasts_HR (lasts_HR (lasts_EZ 1 3))).below HH.out (Nat.le_refl _) HW.out.2, HW.out.2.size⟩
  go_wp2_with fail
  refine (read7_any HH3.out.1 HH3.out.2 (by decide) (by decide)).mono ?_
  rintro e w4 ⟨hb4, hor⟩
  have HB4 : Hid (Below w.heap.size w w4) := bnext' HB3.out hb4
  have HH4 : Hid (HR 4 (HR 4 (EZ 1 3)) w4 w1.heap.size w2.heap.size ts ⟨q, m, mc⟩ ∧ w2.heap.size ≤ w4.heap.size) := ⟨(lasts_HR (lasts_HR (lasts_EZ 1 3))).below HH3.out.1 HH3.out.2 hb4, Nat.le_trans HH3.out.2 hb4.size⟩
  have HW4 : Hid (HR 5 (EZ 1 3) w4 w2.heap.size wc.heap.size zss ⟨qv, j, cap⟩ ∧ wc.heap.size ≤ w4.heap.size) := ⟨(lasts_HR (lasts_EZ 1 3)).below HW.out.1 (Nat.le_refl _) hb4, hb4.size⟩
  rcases hor with ⟨hM, hd3, rfl, hY⟩ | ⟨hM, rfl⟩
  · obtain ⟨q3, m3, mc3⟩ := hd3
    have HY : Hid (HR 4 (HR 4 (EY 2 3)) w4 wc.heap.size w4.heap.size (ts.map (·.map tr)) ⟨q3, m3, mc3⟩ ∧ Mtx ts) := ⟨hY, hM⟩
    clear hY hM hb4
    simp only [Hdr.val]
    have hdec : Hid (zss.length = (gt ts 0).length ∨ ¬ zss.length = (gt ts 0).length) := Classical.em _
    rcases hdec.out with hl | hl
    · have HL : Hid (zss.length = (gt ts 0).length) := hl
      clear hl hdec
      go_wp2_with fail
      refine (lTimes_any HH4.out.1 HW4.out.1 HH4.out.2 HW4.out.2 (by decide) (by decide) HY.out.2 HL.out).mono ?_
      rintro e w5 ⟨g, rfl, hOB⟩
      simp only at hOB ⊢
      obtain ⟨os, g1, g2, g3, g4, g5⟩ := hOB
      have HB5 : Hid (Below w.heap.size w w5) := bnext' HB4.out g4
      have HYb := (lasts_HR (lasts_HR (lasts_EY 2 3))).below HY.out.1 (Nat.le_refl _) g4
      have HY5 : Hid (∀ wq, Below w5.heap.size w5 wq → HR 4 (HR 4 (EY 2 3)) wq wc.heap.size w4.heap.size (ts.map (·.map tr)) ⟨q3, m3, mc3⟩) := fun wq hb => (lasts_HR (lasts_HR (lasts_EY 2 3))).below HYb g4.size hb
      obtain ⟨ys, hYr⟩ := HYb
      have HYR : Hid (HRow 4 (HR 4 (EY 2 3)) w5 wc.heap.size w4.heap.size (ts.map (·.map tr)) ⟨q3, m3, mc3⟩ ys ∧ w4.heap.size ≤ w5.heap.size) := ⟨hYr, g4.size⟩
      have hlen : ts.length = m := HH4.out.1.elim fun _ h => h.tl
      obtain rfl : m3 = m := by have h2 := hYr.tl; rw [List.length_map] at h2; simp only at h2; omega
      have HTL : Hid (ts.length = m3) := hlen
      have hm0 : 0 < m3 := by have h1 := HY.out.2.1; omega
      obtain ⟨bl, ol, hpl, hcl⟩ := hYr.hl (by rw [hYr.el]; exact hm0)
      simp only at hpl
      subst hpl
      have cl : Hid (∀ wq, Below w5.heap.size w5 wq → ∀ i, i < m3 → wq.cell? ⟨bl, ol + i, none⟩ = some (gh ys i).val) := fun wq hb i hi => cell_later' hb (hcl i (by rw [hYr.el]; exact hi))
      have hr0 : (gh ys 0).n = (gt ts 0).length := (hYr.ev 0 hm0).elim fun _ h => by have h1 := h.tl; rw [gt_map _ _ _ HY.out.2.1, List.length_map] at h1; exact h1.symm
      have hWb := (lasts_HR (lasts_EZ 1 3)).below HW4.out.1 HW4.out.2 g4
      obtain ⟨vs, hWr⟩ := hWb
      have HWR : Hid (HRow 5 (EZ 1 3) w5 w2.heap.size wc.heap.size zss ⟨qv, j, cap⟩ vs ∧ wc.heap.size ≤ w5.heap.size) := ⟨hWr, Nat.le_trans HW4.out.2 g4.size⟩
      have hj0 : zss.length = j := hWr.tl
      have hjj : (gh ys 0).n = j := by rw [hr0, ← HL.out, hj0]
      have hj5 : j ≤ 5 := hWr.few
      have hjp : 0 < j := by have h1 := HY.out.2.2.1; have h2 := HL.out; omega
      obtain ⟨bw, ow, hpw, hcw⟩ := hWr.hl (by rw [hWr.el]; exact hjp)
      simp only at hpw
      subst hpw
      have cw : Hid (∀ wq, Below w5.heap.size w5 wq → ∀ k, k < j → wq.cell? ⟨bw, ow + k, none⟩ = some (gh vs k).val) := fun wq hb k hk => cell_later' hb (hcw k (by rw [hWr.el]; exact hk))
      have c0 := hcl 0 (by rw [hYr.el]; exact hm0)
      generalize hgy : gh ys 0 = hd0 at c0 hjj
      obtain ⟨p0, n0, nc0⟩ := hd0
      simp only [Hdr.val, Nat.add_zero] at c0 hjj
      subst hjj
      have HG : Hid (HB w5 g os ∧ os.length = m3 ∧ ∀ i, i < m3 → (gh os i).c = (gh os i).n ∧ ∃ es, PN (g + 1) w5 (4 * zss.length) (gh os i).p (gh os i).n es (accp (gt ts i) zss zss.length)) := ⟨g1, g2, g3⟩
      have HJ : Hid (zss.length = n0) := hj0
      have hne : ((n0 : Int) != (n0 : Int)) = false := by simp
      have hne2 : ((m3 : Int) != (m3 : Int)) = false := by simp
      have hm4 : m3 ≤ 4 := hYr.few
      clear hgy hr0 hj0 hWr hYr hcl hcw g1 g2 g3 g4 g5 hlen
      go_wp2_with fail
      go_loopw [12, 13, 14] (fun iv _ _ wr => ∃ i : Nat, i ≤ m3 ∧ iv = .int .i64 i ∧ Hid (Below w5.heap.size w5 wr)) (fun iv _ _ _ => m3 - (intOf iv).toNat)
      case atStart => exact ⟨0, Nat.zero_le _, by go_num, Below.refl _ _⟩
      case round =>
        obtain ⟨i, hi, rfl, H⟩ := hrel
        rcases Nat.lt_or_ge i m3 with hlt | hge
        · have i1 : (i : Int) < (m3 : Int) := by omega
          have HZ : Hid (∀ wq, Below w5.heap.size w5 wq → HR 4 (EY 2 3) wq wc.heap.size w4.heap.size (gt (ts.map (·.map tr)) i) (gh ys i)) := fun wq hb => (lasts_HR (lasts_EY 2 3)).below (HYR.out.1.ev i hlt) HYR.out.2 hb
          have ci : Hid (∀ wq, Below w5.heap.size w5 wq → wq.cell? ⟨bl, ol + i, none⟩ = some (gh ys i).val) := fun wq hb => cl.out wq hb i hlt
          have HGM : Hid (gt (ts.map (·.map tr)) i = (gt ts i).map tr ∧ (gt ts i).length = n0) := ⟨gt_map _ _ _ (by have := HTL.out; omega), by have h1 := HY.out.2.2.2 i (by have := HTL.out; omega); have h2 := HL.out; have h3 := HJ.out; omega⟩
          have HR3 : Hid (∀ k, (gt (gt ts i) k).length ≤ 3) := by
            obtain ⟨hs4, k4⟩ := HH4.out.1
            exact row_len (k4.ev i hlt)
          have HV3 : Hid (∀ k, (gt zss k).length ≤ 3) := row_len HW.out.1
          have HA5 : Hid (∀ k, (accp (gt ts i) zss k).length ≤ 5) := accp_len _ _ HR3.out HV3.out
          have HML : Hid (∀ k, (mulp (tr (gt (gt ts i) k)) (tr (gt zss k))).length ≤ 5) := fun k => mulp_len _ _ (HR3.out k) (HV3.out k)
          generalize gh ys i = hd at HZ ci
          obtain ⟨p1, n1, nc1⟩ := hd
          simp only [Hdr.val] at HZ ci
          have hn1 : n1 = n0 := (HZ.out wr H.out).elim fun _ h => by have h1 := h.tl; rw [HGM.out.1, List.length_map] at h1; exact h1.symm.trans HGM.out.2
          subst hn1
          go_wp2_with fail
          go_loopw [13, 14] (fun sv kv wq => ∃ (k : Nat) (qs : Option Addr) (ms : Nat) (fs : List Ent), k ≤ n1 ∧ kv = .int .i64 k ∧ sv = .slice qs ms ms ∧ Hid (PR wq (4 + 7 * k) qs ms ms fs (accp (gt ts i) zss k) ∧ tlen (accp (gt ts i) zss k) = ms ∧ Below w5.heap.size w5 wq)) (fun _ kv _ => n1 - (intOf kv).toNat)
          case atStart => exact ⟨0, none, 0, [], Nat.zero_le _, by go_num, rfl, pr_nil _ _, rfl, H.out⟩
          case round =>
            obtain ⟨k, qs, ms, fs, hk, rfl, rfl, G⟩ := hrel
            rcases Nat.lt_or_ge k n1 with hlt1 | hge1
            · have k1 : (k : Int) < (n1 : Int) := by omega
              have c5 := ci.out wr G.out.2.2
              have c8 := cw.out wr G.out.2.2 k hlt1
              obtain ⟨rs1, hN⟩ := HZ.out wr G.out.2.2
              obtain ⟨b1, o1, hp1, hc1⟩ := hN.hl (by rw [hN.el]; show 0 < n1; omega)
              simp only at hp1
              subst hp1
              have c7 := hc1 k (by rw [hN.el]; exact hlt1)
              have hP2 := hN.ev k hlt1
              have hQ2 := (lasts_EZ 1 3).below (HWR.out.1.ev k hlt1) HWR.out.2 G.out.2.2
              rw [HGM.out.1, gt_map _ _ _ (by rw [HGM.out.2]; exact hlt1)] at hP2
              generalize gh rs1 k = hd2 at c7 hP2
              obtain ⟨p2, n2, nc2⟩ := hd2
              simp only [Hdr.val] at c7
              obtain ⟨es2, hP2, hcc, htn, hd3, -, -⟩ := hP2
              simp only at hP2 hd3 hcc htn
              subst hcc
              generalize gh vs k = hd4 at c8 hQ2
              obtain ⟨p4, n4, nc4⟩ := hd4
              simp only [Hdr.val] at c8
              obtain ⟨es4, hQ2, hd5, -, -⟩ := hQ2
              simp only at hQ2 hd5
              have hbw : Below wr.heap.size wr wr.drew := (Below.refl _ _).drew
              have hQd := hQ2.below hbw
              have D0 : wr.drew.cell? ⟨bl, ol + i, none⟩ = some (.slice (some ⟨b1, o1, none⟩) n1 nc1) ∧ wr.drew.cell? ⟨b1, o1 + k, none⟩ = some (.slice p2 nc2 nc2) ∧ wr.drew.cell? ⟨bw, ow + k, none⟩ = some (.slice p4 n4 nc4) := ⟨c5, c7, c8⟩
              have HA : Hid (PR wr (4 + 7 * k) qs ms ms fs (accp (gt ts i) zss k) ∧ PR wr 2 p2 nc2 nc2 es2 (tr (gt (gt ts i) k))) := ⟨G.out.1, hP2⟩
              have hms : ms ≤ 5 := by
                have h1 := HA5.out k
                rw [HA.out.1.zl] at h1
                exact h1
              clear hc1 hN hP2 hQ2
              go_upto_region 99 with fail
              go_region_held3 (fun w' => w'.cell? ⟨bl, ol + i, none⟩ = some (.slice (some ⟨b1, o1, none⟩) n1 nc1) ∧ w'.cell? ⟨b1, o1 + k, none⟩ = some (.slice p2 nc2 nc2) ∧ w'.cell? ⟨bw, ow + k, none⟩ = some (.slice p4 n4 nc4)) (first | with_reducible exact ⟨c5, c7, c8⟩ | with_reducible exact D0 | with_reducible exact K3 | with_reducible exact K2 | with_reducible exact K1) (first
                | (go_at_call 15; go_fit (rpFrom_any hQd (by omega) (by decide)); rintro r v1 ⟨q6, m6, es6, rfl, hF, -, hFt, hb6⟩; have hV1 := undrew hb6; have K1 : v1.cell? ⟨bl, ol + i, none⟩ = some (.slice (some ⟨b1, o1, none⟩) n1 nc1) ∧ v1.cell? ⟨b1, o1 + k, none⟩ = some (.slice p2 nc2 nc2) ∧ v1.cell? ⟨bw, ow + k, none⟩ = some (.slice p4 n4 nc4) := ⟨cell_later' hV1 c5, cell_later' hV1 c7, cell_later' hV1 c8⟩; have hm6 : m6 ≤ 3 := from_len hFt hQd hd5)
                | (go_at_call 14; go_fit (rpMul_any (K := 1) (L := 1) (HA.out.2.below hV1) hF (by rw [tlen_tr, length_tr]) (by rw [tlen_tr, length_tr]) (by omega) (by omega) (by decide) (by decide) (pr_bd (HA.out.2.below hV1)) (pr_bd hF) (by decide)); rintro r v2 ⟨q7, m7, es7, rfl, hG7, -, hGt, hb7⟩; have hV2 := bnext' hV1 hb7; have K2 : v2.cell? ⟨bl, ol + i, none⟩ = some (.slice (some ⟨b1, o1, none⟩) n1 nc1) ∧ v2.cell? ⟨b1, o1 + k, none⟩ = some (.slice p2 nc2 nc2) ∧ v2.cell? ⟨bw, ow + k, none⟩ = some (.slice p4 n4 nc4) := ⟨cell_later' hV2 c5, cell_later' hV2 c7, cell_later' hV2 c8⟩; have hm7 : m7 ≤ 5 := by (have h1 := HML.out k; rw [hG7.zl] at h1; exact h1))
                | (go_at_call 13; go_fit (rpAdd_any (HA.out.1.below hV2) hG7 (by omega) (by omega) (by omega) (by decide) (by omega) (by decide)); rintro r v3 ⟨q8, m8, es8, rfl, hH8, -, hHt, hb8⟩; have hV3 := bnext' hV2 hb8; have K3 : v3.cell? ⟨bl, ol + i, none⟩ = some (.slice (some ⟨b1, o1, none⟩) n1 nc1) ∧ v3.cell? ⟨b1, o1 + k, none⟩ = some (.slice p2 nc2 nc2) ∧ v3.cell? ⟨bw, ow + k, none⟩ = some (.slice p4 n4 nc4) := ⟨cell_later' hV3 c5, cell_later' hV3 c7, cell_later' hV3 c8⟩))
              all_goals
                have e9 : 4 + 7 * k + 2 * (1 + 1 + 1) + 1 = 4 + 7 * (k + 1) := by omega
                rw [e9] at hH8
                have HEN : Hid (PR v3 (4 + 7 * (k + 1)) q8 m8 m8 es8 (accp (gt ts i) zss (k + 1)) ∧ tlen (accp (gt ts i) zss (k + 1)) = m8 ∧ Below w5.heap.size w5 v3) := ⟨hH8, hHt, bnext' G.out.2.2 hV3⟩
                clear e9 hH8 hHt hG7 hGt hF hFt K1 K2 K3 D0 hQd hb6 hb7 hb8 c5 c7 c8
                go_wp2_with fail
                refine ⟨⟨k + 1, q8, m8, es8, by omega, by go_num, rfl, HEN.out⟩, by simp [intOf]; omega⟩
            · obtain rfl : k = n1 := by omega
              have i2 : ¬ (k : Int) < (k : Int) := by omega
              obtain ⟨h1, h2, h3⟩ := HG.out
              have x0 := cell_later' G.out.2.2 (h1.cell i (by omega))
              obtain ⟨h4, es6, hPN⟩ := h3 i hlt
              generalize gh os i = hd6 at x0 h4 hPN
              obtain ⟨p6, n6, nc6⟩ := hd6
              simp only [Hdr.val] at x0 h4 hPN
              subst h4
              rw [HJ.out] at hPN
              have hPN2 := hPN.below G.out.2.2
              obtain rfl : ms = nc6 := by have h5 := G.out.1.zl; have h6 := hPN.zl; omega
              have hms : ms ≤ 5 := by
                have h5 := HA5.out k
                rw [hPN.zl] at h5
                exact h5
              have hIs := rpIs_any hPN2 G.out.1 (by omega) (by omega) (by omega)
              clear h1 h2 h3 hPN hPN2
              go_wp2_with fail
              go_fit hIs
              rintro e w6 ⟨rfl, hb6⟩
              have HB6 : Hid (Below w5.heap.size w5 w6) := bnext' G.out.2.2 hb6
              clear hIs hb6 x0
              go_wp2_with fail
              refine ⟨⟨i + 1, by omega, by go_num, HB6.out⟩, by simp [intOf]; omega⟩
        · obtain rfl : i = m3 := by omega
          have i2 : ¬ (i : Int) < (i : Int) := by omega
          have HE : Hid (Below w.heap.size w wr) := bnext' HB5.out H.out
          go_wp2
          go_ret
          exact ⟨rfl, HE.out⟩
    · have HL : Hid (¬ zss.length = (gt ts 0).length) := hl
      clear hl hdec
      go_wp2_with fail
      refine (lTimes_none HH4.out.1 HW4.out.1 (by decide) (by decide) (fun h => HL.out h.2)).mono ?_
      rintro e w5 ⟨rfl, hb5⟩
      have HB5 : Hid (Below w.heap.size w w5) := bnext' HB4.out hb5
      obtain ⟨ys, hYr⟩ := (lasts_HR (lasts_HR (lasts_EY 2 3))).below HY.out.1 (Nat.le_refl _) hb5
      have hm0 : 0 < m3 := by have h1 := (mtx_tr HY.out.2).1; have h2 := hYr.tl; simp only at h2; omega
      obtain ⟨bl, ol, hpl, hcl⟩ := hYr.hl (by rw [hYr.el]; exact hm0)
      simp only at hpl
      subst hpl
      have c0 := hcl 0 (by rw [hYr.el]; exact hm0)
      have hr0 : (gh ys 0).n = (gt ts 0).length := (hYr.ev 0 hm0).elim fun _ h => by have h1 := h.tl; rw [gt_map _ _ _ HY.out.2.1, List.length_map] at h1; exact h1.symm
      have hj0 : zss.length = j := HW4.out.1.elim fun _ h => h.tl
      generalize gh ys 0 = hd0 at c0 hr0
      obtain ⟨p0, n0, nc0⟩ := hd0
      simp only [Hdr.val, Nat.add_zero] at c0 hr0
      have hne : ((j : Int) != (n0 : Int)) = true := by
        rw [bne_iff_ne]
        intro e
        exact HL.out (by rw [hj0, ← hr0]; omega)
      clear hb5 hYr hcl hr0 hj0
      go_wp2
      go_ret
      exact ⟨rfl, HB5.out⟩
  · have HM : Hid (¬ Mtx ts) := hM
    clear hM hb4
    go_wp2_with fail
    refine (lTimes_none HH4.out.1 HW4.out.1 (by decide) (by decide) (fun h => HM.out h.1)).mono ?_
    rintro e w5 ⟨rfl, hb5⟩
    have HB5 : Hid (Below w.heap.size w w5) := bnext' HB4.out hb5
    clear hb5
    go_wp2
    go_ret
    exact ⟨rfl, HB5.out⟩
end Go.Proofs.YtlhgpejapmpcmaaGreatDoor
