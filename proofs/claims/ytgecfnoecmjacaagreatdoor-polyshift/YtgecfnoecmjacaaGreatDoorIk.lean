/-
  ashlarref3.Stretch.
-/
import Derived.Test.YtgecfnoecmjacaaGreatDoorIjCzPcVdRtVe
import Derived.Test.YtgecfnoecmjacaaGreatDoorRoUcVbVcCx
import Derived.Test.YtgecfnoecmjacaaGreatDoorRpVnVp
import Derived.Deep.DeepFit
namespace Go.Proofs.YtgecfnoecmjacaaGreatDoor
open Go.RowKit
set_option linter.unusedVariables false
set_option linter.unusedSimpArgs false

theorem pwf_past (a : Int) : ∀ u t, u < t → pwf a u t = 0
  | 0, t, h => by rw [pwf, if_neg (by omega)]
  | u + 1, t, h => by rw [pwf, pwf_past a u t (by omega), if_neg (by omega), pwf_past a u (t - 1) (by omega)]; omega
theorem spf_past (a : Int) (zs : List Int) : ∀ i t, i ≤ t → spf a zs i t = 0
  | 0, _, _ => rfl
  | i + 1, t, h => by rw [spf, spf_past a zs i t (by omega), pwf_past a i t (by omega)]; omega
/-- The first i summands as a list. -/
def sml (a : Int) (zs : List Int) (i : Nat) : List Int := tr ((List.range i).map (spf a zs i))
theorem gx_sml (a : Int) (zs : List Int) (i t : Nat) : gx (sml a zs i) t = spf a zs i t := by
  rw [sml, gx_tr]
  rcases Nat.lt_or_ge t i with h | h
  · rw [gx_mem _ _ (by simpa using h)]
    simp
  · rw [gx_past _ i (by simp) t h, spf_past a zs i t h]
theorem length_sml (a : Int) (zs : List Int) (i : Nat) : (sml a zs i).length ≤ i := by
  rw [sml, length_tr]
  refine Nat.le_trans (tlen_le _) ?_
  simp
theorem sml_nrm (a : Int) (zs : List Int) (i : Nat) : tr (sml a zs i) = sml a zs i := by rw [tr, sml, tlen_tr, ← length_tr, List.take_length]
theorem sml_step (a : Int) (zs : List Int) (i : Nat) : tr (pz (· + ·) (sml a zs i) (tr ((pwl a i).map (gx zs i * ·)))) = sml a zs (i + 1) := by
  rw [← sml_nrm a zs (i + 1)]
  refine tr_same fun t => ?_
  rw [gx_pz0 _ rfl, gx_sml, gx_sml, gx_tr, gx_map0 (gx zs i * ·) (by simp), gx_pwl]
  rfl
theorem sml_coz (a : Int) (zs : List Int) : sml a zs zs.length = coz a zs := by
  have h : coz a zs = tr (coz a zs) := by rw [tr, coz_nrm, List.take_length]
  rw [h, ← sml_nrm]
  refine tr_same fun t => ?_
  rw [gx_sml, gx_coz, co_spf]
theorem pwf_lt {a : Int} (ha : (a.natAbs : Int) < pw 1) : ∀ u t, ((pwf a u t).natAbs : Int) < pw (u * 2 + 1)
  | 0, t => by
    rw [pwf, Nat.zero_mul]
    split <;> decide
  | u + 1, t => by
    have ih := pwf_lt ha u
    rw [pwf, show (u + 1) * 2 + 1 = u * 2 + 1 + 1 + 1 by omega]
    have h1 : ((a * pwf a u t).natAbs : Int) < pw (1 + (u * 2 + 1)) := term_lt ha (ih t)
    rw [show 1 + (u * 2 + 1) = u * 2 + 1 + 1 by omega] at h1
    have h2 := ih (t - 1)
    have h3 : pw (u * 2 + 1) ≤ pw (u * 2 + 1 + 1) := pw_mono (by omega)
    have h4 := pw_pos (u * 2 + 1 + 1)
    rw [pw_succ (u * 2 + 1 + 1)]
    split <;> omega
theorem spf_lt {a : Int} {zs : List Int} {K : Nat} (ha : (a.natAbs : Int) < pw 1) (hz : ∀ t, ((gx zs t).natAbs : Int) < pw K) : ∀ i t, ((spf a zs i t).natAbs : Int) < pw (K + i * 2 + 1 + i)
  | 0, t => by simpa [spf] using pw_pos _
  | i + 1, t => by
    have ih := spf_lt ha hz i t
    have h1 := term_lt (hz i) (pwf_lt ha i t)
    have h2 : pw (K + i * 2 + 1 + i) ≤ pw (K + (i + 1) * 2 + i) := pw_mono (by omega)
    have h3 : pw (K + (i * 2 + 1)) ≤ pw (K + (i + 1) * 2 + i) := pw_mono (by omega)
    have h4 := pw_pos (K + (i + 1) * 2 + i)
    rw [spf, show K + (i + 1) * 2 + 1 + (i + 1) = K + (i + 1) * 2 + i + 1 + 1 by omega, pw_succ, pw_succ]
    omega
theorem rd_one (w : World) (z : Int) (t : Nat) : Rd (w.alloc (.cells #[.int .i64 z] t)) (some ⟨w.heap.size, 0, none⟩) .i64 [z] := fun _ => ⟨w.heap.size, 0, rfl, fun j hj => by
  obtain rfl : j = 0 := by simp at hj; omega
  simp [go_sem, gx]⟩
theorem rd_two (w : World) (y z : Int) (t : Nat) : Rd (w.alloc (.cells #[.int .i64 y, .int .i64 z] t)) (some ⟨w.heap.size, 0, none⟩) .i64 [y, z] := fun _ => ⟨w.heap.size, 0, rfl, fun j hj => by
  match j, hj with
  | 0, _ => simp [go_sem, gx]
  | 1, _ => simp [go_sem, gx]⟩
theorem rPower_e {w : World} {N k : Nat} {z : Int} {e : Ent} (h : RE w N z e) (hN : N ≤ 48) (hk : k ≤ 20) :
    Calls Tryz.prog 48 #[.agg #[.bool e.s, .slice e.p e.n e.c], .int .i64 k] w fun r w' => ∃ u : Ent, r = .returned (.agg #[.bool u.s, .slice u.p u.n u.c]) ∧ RE w' 1000 (z ^ k) u ∧ Go.Proofs.YtgecfnoecmjacaaGreatDoor.From w.heap.size u.p ∧ Below w.heap.size w w' := by
  obtain ⟨⟨ds, h1, rfl, h3⟩, h4⟩ := h
  rw [h4]
  refine (rPower_any e.s e.p e.n k ds w h1 (by omega) hk).mono ?_
  rintro r w1 ⟨s, p, n, d, rfl, g1, g2, g3, g4, g5⟩
  exact ⟨⟨s, p, n, n⟩, rfl, ⟨⟨d, g1, g2, g3⟩, rfl⟩, g4, g5⟩
/-- Behind some rounds of Stretch. -/
structure ST (w wr : World) (ps pp pl : Option Addr) (ns np : Nat) (es1 es2 es3 : List Ent) (a : Int) (W : List Int) (i : Nat) : Prop where
  s : PR wr 100 ps ns ns es1 (sml a W i)
  q : PR wr 60 pp np np es2 (pwl a i)
  l : PR wr 4 pl 2 2 es3 [a, 1]
  fr : Go.Proofs.YtgecfnoecmjacaaGreatDoor.From w.heap.size ps
  bw : Below w.heap.size w wr
theorem rc_st {wc x : World} {v : Ent} {z : Int} {N g : Nat} {s' : Bool} {qq : Option Addr} {qn qc : Nat} {ty : TypeId} (hb : Below wc.heap.size wc x) (hg : wc.heap.size ≤ g) (hG : x.heap[g]? = some (.cells #[.bool s', .slice qq qn qc] ty)) (hBx : Bx x g (.bool s') (.slice qq qn qc)) (hv : RE x N z v) :
    Below wc.heap.size wc ((x.setCell ⟨g, 0, none⟩ (.bool v.s)).setCell ⟨g, 1, none⟩ (.slice v.p v.n v.c)) ∧ Bx ((x.setCell ⟨g, 0, none⟩ (.bool v.s)).setCell ⟨g, 1, none⟩ (.slice v.p v.n v.c)) g (.bool v.s) (.slice v.p v.n v.c) ∧ RE ((x.setCell ⟨g, 0, none⟩ (.bool v.s)).setCell ⟨g, 1, none⟩ (.slice v.p v.n v.c)) N z v :=
  ⟨bset2 hb hg _ _, Bx_set hBx, hv.set2 (o := 0) (hv.offb hG)⟩
set_option maxHeartbeats 4000000 in
set_option maxRecDepth 100000 in
/-- ashlarref3.Stretch. -/
theorem rpStretch_any {w : World} {p : Option Addr} {n nc : Nat} {es : List Ent} {zs : List Int} {k j : Int} (h : PR w 8 p n nc es zs) (hn : n ≤ 9) (h1 : 1 ≤ k) (h2 : k ≤ 2147483647) (h3 : -2147483647 ≤ j) (h4 : j ≤ 2147483647) (hX : ∀ i, ((gx zs i).natAbs : Int) < pw 4) :
    Calls Tryz.prog 46 #[.slice p n nc, .int .i64 k, .int .i64 j] w (PrP (coz (-j) (widz k zs)) 100 w) := by
  have HX : Hid (PR w 8 p n nc es zs ∧ (∀ i, ((gx zs i).natAbs : Int) < pw 4)) := ⟨h, hX⟩
  have hzl := h.zl
  have v1 : IntKind.i64.wrap (-j) = -j := by rw [IntKind.wrap_i64]; omega
  have v2 : IntKind.i64.wrap ((n : Int) - 1) = (n : Int) - 1 := by rw [IntKind.wrap_i64]; omega
  clear h hX
  go_enter Tryz.func46, Tryz.ntmps46
  go_wp2_with fail
  refine (rpDeg_any p n nc w (by omega)).mono ?_
  rintro r w1 ⟨rfl, hb1⟩
  go_wp2_with fail
  refine (rpOf_any _ 1 1 [1] _ rfl (by decide) (rd_one w1 1 _) (fun j => by match j with | 0 => decide | (j + 1) => rw [gx_cons_succ]; simp [gx])).mono ?_
  rintro r w2 ⟨pp0, np0, ep0, rfl, hP2, -, hnp, hb2⟩
  have hW2 := bnext' hb1 (comp (X2 := w1) (w2 := w1) (Below.refl _ _) (bel_al (Below.refl _ _)) hb2)
  clear hb1 hb2
  go_wp2_with fail
  refine (rpOf_any _ 2 2 [-j, 1] _ rfl (by decide) (rd_two w2 (-j) 1 _) (fun i => by match i with | 0 => rw [gx_cons_zero]; omega | 1 => rw [gx_cons_succ, gx_cons_zero]; omega | (i + 2) => rw [gx_cons_succ, gx_cons_succ]; simp [gx])).mono ?_
  rintro r w3 ⟨pl, nl, el, rfl, hP3, -, hnl, hb3⟩
  have hV3 := comp (X2 := w2) (w2 := w2) (Below.refl _ _) (bel_al (Below.refl _ _)) hb3
  have et : tr [-j, 1] = [-j, 1] := tr_of_tlen rfl
  rw [et] at hP3
  obtain rfl : nl = 2 := hP3.zl.symm
  have hW3 := bnext' hW2 hV3
  have HC : Hid (ST w w3 none pp0 pl 0 np0 [] ep0 el (-j) (widz k zs) 0) := ⟨pr_nil _ _, (hP2.below hV3).wide (by decide), hP3, (fun a ha => by cases ha), hW3⟩
  clear hb3 hV3 hP2 hP3 hnl hnp hW2 hW3 et
  have e1p : pw 1 = 4294967296 := by decide
  have hk1 : (k.natAbs : Int) < pw 1 := by omega
  have hj1 : ((-j).natAbs : Int) < pw 1 := by omega
  have hp9 : ∀ m, m ≤ 9 → ((k ^ m).natAbs : Int) < pw 10 := fun m hm => Int.lt_of_lt_of_le (pow_lt hk1 (by decide) m) (pw_mono (by omega))
  have HB : Hid ((∀ m, m ≤ 9 → ((k ^ m).natAbs : Int) < pw 10) ∧ ((-j).natAbs : Int) < pw 1 ∧ (∀ t, ((gx (widz k zs) t).natAbs : Int) < pw (4 + 10))) := by
    refine ⟨hp9, hj1, fun t => ?_⟩
    rcases Nat.lt_or_ge t zs.length with ht | ht
    · rw [gx_widz k zs t ht]
      exact term_lt (HX.out.2 t) (hp9 _ (by omega))
    · rw [gx_past _ zs.length (by rw [length_widz]; exact Nat.le_refl _) t ht]
      exact pw_pos _
  clear hk1 hj1 hp9 e1p
  go_wp2_with fail
  go_loopw [7, 9, 11, 12] (fun sv qv iv _ wr => ∃ (i : Nat) (ps pp : Option Addr) (ns np : Nat) (e1 e2 : List Ent), i ≤ n ∧ iv = .int .i64 i ∧ sv = .slice ps ns ns ∧ qv = .slice pp np np ∧ Hid (ST w wr ps pp pl ns np e1 e2 el (-j) (widz k zs) i)) (fun _ _ iv _ _ => n - (intOf iv).toNat)
  case atStart => exact ⟨0, none, pp0, 0, np0, [], ep0, Nat.zero_le _, by go_num, rfl, rfl, HC.out⟩
  case round =>
    clear HC
    obtain ⟨i, ps, pp, ns, np, e1, e2, hi, rfl, rfl, rfl, H⟩ := hrel
    rcases Nat.lt_or_ge i n with hlt | hge
    · have hP := HX.out.1.below H.out.bw
      obtain ⟨b, o, hp, hc⟩ := hP.pl (by rw [hP.el]; omega)
      subst hp
      obtain ⟨c0, c1⟩ := hc i (by rw [hP.el]; omega)
      have he := hP.ev i hlt
      have i1 : (i : Int) ≤ (n : Int) - 1 := by omega
      have i2 : (i : Int) < (n : Int) := by omega
      obtain ⟨m, hm⟩ : ∃ m : Nat, (n : Int) - 1 - (i : Int) = (m : Int) := ⟨n - 1 - i, by omega⟩
      have i3 : IntKind.i64.wrap (m : Int) = (m : Int) := by rw [IntKind.wrap_i64]; omega
      have HM : Hid (m = n - 1 - i) := (by omega : m = n - 1 - i)
      clear hP hc
      have hlb : b < wr.heap.size := block_lt_of_cell c0
      have hbn : ¬ b = wr.heap.size := by omega
      go_upto_region 8 with fail
      go_cut [12] (fun cv wc => ∃ (g : Nat) (c : Ent), cv = .pointer (some ⟨g, 0, none⟩) ∧ Hid (Below wr.heap.size wr wc ∧ Bx wc g (.bool c.s) (.slice c.p c.n c.c) ∧ RE wc 40 (gx (widz k zs) i) c))
      case first =>
        go_region_held3 (fun w' => w'.cell? ⟨b, o + i * 2, none⟩ = some (.bool (ge es i).s) ∧ w'.cell? ⟨b, o + i * 2 + 1, none⟩ = some (.slice (ge es i).p (ge es i).n (ge es i).c)) (first | with_reducible exact ⟨c0, c1⟩ | with_reducible exact ⟨a0, a1⟩ | with_reducible exact ⟨b0, b1⟩ | with_reducible exact ⟨d0, d1⟩ | with_reducible exact keepc2 ⟨d0, d1⟩ (bel_al (Below.refl _ _)) | with_reducible exact keepc2 ⟨b0, b1⟩ (bel_al (Below.refl _ _)) | with_reducible exact keepc2 ⟨a0, a1⟩ (bel_al (Below.refl _ _)) | with_reducible exact keepc2 ⟨c0, c1⟩ (Below.drew (Below.refl _ _)) | with_reducible exact keepc2 ⟨c0, c1⟩ (Below.drew (bel_al (Below.refl _ _))) | (simp [go_sem, *]; done))
          (first
            | (go_at_call 62; go_fit (rOf_e k _ (by omega) (by omega)); rintro r x1 ⟨u1, rfl, hR1, hF1, hx1⟩; have hB1 := undrew hx1; have hW1 := comp (X2 := wr) (w2 := wr) (Below.refl _ _) (by (repeat apply bel_al); exact Below.refl _ _) hB1; have a0 := cell_later hW1 c0; have a1 := cell_later hW1 c1; have t1 := hW1.size)
            | (go_at_call 48; go_fit (rPower_e (hR1.below (by first | exact Below.refl _ _ | exact bel_al (Below.refl _ _))) (by decide) (by have := HM.out; omega)); rintro r x2 ⟨u2, rfl, hR2, hF2, hx2⟩; have hV2 := comp (X2 := x1) (w2 := x1) (Below.refl _ _) (by (repeat apply bel_al); exact Below.refl _ _) hx2; have hW2 := bnext' hW1 hV2; have b0 := cell_later hW2 c0; have b1 := cell_later hW2 c1; have t2 := hW2.size; have hR2' : RE x2 (2 * 10) (k ^ m) u2 := ⟨hR2.1.tight (HB.out.1 m (by have := HM.out; omega)), hR2.2⟩)
            | (go_at_call 51; go_fit (rMul_e (he.below (by (repeat apply bel_al); exact hW2)) (hR2'.below (by first | exact Below.refl _ _ | exact bel_al (Below.refl _ _))) (by decide) (by decide)); rintro r x3 ⟨c, rfl, hR3, hF3, hx3⟩; have hV3 := comp (X2 := x2) (w2 := x2) (Below.refl _ _) (by (repeat apply bel_al); exact Below.refl _ _) hx3; have hW3 := bnext' hW2 hV3; have d0 := cell_later hW3 c0; have d1 := cell_later hW3 c1; have t3 := hW3.size; have q2 := comp hx2 (by (repeat apply bel_al); exact Below.refl _ _) hx3; have q1 := comp hB1 (by (repeat apply bel_al); exact Below.refl _ _) q2; obtain ⟨hc1, hf1, hz1, -, -⟩ := brules q1; obtain ⟨hc2, hf2, hz2, -, -⟩ := brules q2; obtain ⟨hc3, hf3, hz3, -, -⟩ := brules hx3; obtain ⟨l1', l2, l3, l4⟩ := bne q1; obtain ⟨l5, l6, l7, l8⟩ := bne q2; obtain ⟨l9, l10, l11, l12⟩ := bne hx3; have r3 := Nat.lt_of_lt_of_le hlb hW3.size))
        all_goals (go_wp2_with fail; go_meet)
        all_goals
          have hE9 : RE x3 40 (gx (widz k zs) i) c := by
            rw [gx_widz k zs i (by omega), hzl, ← HM.out]
            exact hR3.wide (by decide)
          try exact ⟨_, c, rfl, bel_al hW3, Bx.new _ _ _ rfl, hE9.below (bel_al (Below.refl _ _))⟩
        all_goals
          refine ⟨_, c, rfl, ?_⟩
          refine (rc_st (s' := false) (qq := none) (qn := 0) (qc := 0) (ty := 35) (x := x3) hW3 ?_ ?_ ?_ hE9)
          · first | exact Nat.le_refl _ | (with_reducible exact t1) | (with_reducible exact t2) | (with_reducible exact t3)
          · first | exact (hx3.block _ (by simp)).trans (new_at _ _) | exact (q2.block _ (by simp)).trans (new_at _ _) | exact (q1.block _ (by simp)).trans (new_at _ _)
          · first | exact (Bx_new rfl).later hx3 | exact (Bx_new rfl).later q2 | exact (Bx_new rfl).later q1
      case rest =>
        obtain ⟨g, c, rfl, HG⟩ := hcut
        clear c0 c1 hlb hbn he
        have H2 : Hid (ST w wc ps pp pl ns np e1 e2 el (-j) (widz k zs) i) := ⟨H.out.s.below HG.out.1, H.out.q.below HG.out.1, H.out.l.below HG.out.1, H.out.fr, bnext' H.out.bw HG.out.1⟩
        have HR : Hid (RE wc 40 (gx (widz k zs) i) c) := HG.out.2.2
        obtain ⟨k0, k1, -, -⟩ := id HG.out.2.1
        have hnp : np ≤ 10 := by rw [← H2.out.q.zl, length_pwl]; omega
        have hns : ns ≤ 9 := by rw [← H2.out.s.zl]; exact Nat.le_trans (length_sml _ _ _) (by omega)
        have hsc := rpScale_any H2.out.q HR.out (by omega) (by decide) (by decide)
        clear H HG
        go_wp2_with fail
        refine hsc.mono ?_
        rintro r x1 ⟨p1, n1, e3, rfl, hR1, hF1, ht1, hb1⟩
        have hn1 : n1 ≤ 10 := by rw [← hR1.zl, length_tr]; refine Nat.le_trans (tlen_le _) ?_; rw [List.length_map, length_pwl]; omega
        have had := rpAdd_any (H2.out.s.below hb1) hR1 (by omega) (by omega) (by decide) (by decide) (by decide) (by decide)
        rw [sml_step] at had
        clear hsc k0 k1
        go_wp2_with fail
        refine had.mono ?_
        rintro r x2 ⟨p2, n2, e4, rfl, hR2, hF2, ht2, hb2⟩
        have hB2 := bnext' hb1 hb2
        have hml := rpMul_any (K := 19) (L := 1) (H2.out.q.below hB2) (H2.out.l.below hB2) (pwl_nrm _ _) (by rfl) (by omega) (by decide) (by decide) (by decide) (fun t => by rw [gx_pwl]; exact Int.lt_of_lt_of_le (pwf_lt HB.out.2.1 i t) (pw_mono (by omega))) (fun t => by
          match t with
          | 0 => rw [gx_cons_zero]; exact HB.out.2.1
          | 1 => rw [gx_cons_succ, gx_cons_zero]; decide
          | (t + 2) => rw [gx_cons_succ, gx_cons_succ]; exact pw_pos _) (by decide)
        clear had
        go_wp2_with fail
        refine hml.mono ?_
        rintro r x3 ⟨p3, n3, e5, rfl, hR3, hF3, ht3, hb3⟩
        have HN : Hid (ST w x3 p2 p3 pl n2 n3 e4 e5 el (-j) (widz k zs) (i + 1)) := by
          have hB3 := bnext' hB2 hb3
          have hs := H2.out.bw.size
          have hs1 := hb1.size
          refine ⟨((hR2.below hb3).tight (fun t => by rw [gx_sml]; exact spf_lt HB.out.2.1 HB.out.2.2 (i + 1) t)).wide (by omega), hR3.wide (by decide), H2.out.l.below hB3, fun a ha => by have := hF2 a ha; omega, bnext' H2.out.bw hB3⟩
        clear hml hR1 hR2 hR3
        go_wp2
        refine ⟨⟨i + 1, p2, p3, n2, n3, e4, e5, by omega, by go_num, rfl, rfl, HN.out⟩, by simp [intOf]; omega⟩
    · obtain rfl : i = n := by omega
      have i1 : ¬ (i : Int) ≤ (i : Int) - 1 := by omega
      have HS := H.out
      rw [show i = (widz k zs).length by rw [length_widz, hzl]] at HS
      clear hge
      go_wp2
      go_ret
      have h9 := H.out.s
      have e9 := sml_coz (-j) (widz k zs)
      rw [length_widz, hzl] at e9
      rw [e9] at h9
      exact ⟨ps, ns, e1, rfl, h9, H.out.fr, by rw [coz_nrm, h9.zl], H.out.bw⟩
end Go.Proofs.YtgecfnoecmjacaaGreatDoor
