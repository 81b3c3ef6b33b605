/-
  (ashlarref8.Rule).Mul.
-/
import Derived.Test.YtifebbacnlhggaaGreatDoorNz
import Derived.Test.YtifebbacnlhggaaGreatDoorNwNkOrAv
import Derived.Deep.DeepFit
namespace Go.Proofs.YtifebbacnlhggaaGreatDoor
open Go.RowKit
set_option linter.unusedVariables false
set_option linter.unusedSimpArgs false
set_option maxHeartbeats 8000000
def NrmO (b : List (List Int)) : Prop := olen b = b.length ∧ ∀ j, tr (gt b j) = gt b j
theorem nrm_otr {l : List (List Int)} (h : ∀ j, tr (gt l j) = gt l j) : NrmO (otr l) := by
  have hj : ∀ j, tr (gt (otr l) j) = gt (otr l) j := fun j => by
    rw [gt_otr]
    split
    · exact h j
    · rfl
  refine ⟨?_, hj⟩
  rw [length_otr]
  exact olen_tlen fun j => by
    rw [gt_otr]
    split
    · rfl
    · rename_i hn
      rw [olen_zero l j (by omega)]
      rfl
theorem nrm_oz (z : List (List Int)) : NrmO (oz z) := ⟨by rw [olen_oz, length_oz], fun j => by rw [gt_oz, tr_tr]⟩
theorem tr_opz (a b : List (List Int)) (j : Nat) : tr (gt (opz (· + ·) a b) j) = gt (opz (· + ·) a b) j := by
  rw [opz, gt_rngL]
  split
  · exact tr_tr _
  · rfl
theorem nrm_Bzs {al y : Int} {b : List (List Int)} (hb : NrmO b) : ∀ i, NrmO (Bzs al y b i)
  | 0 => hb
  | i + 1 => nrm_otr fun j => tr_opz _ _ j
theorem add_eq (a b : List (List Int)) (ha : ∀ j, tr (gt a j) = gt a j) (hb : ∀ j, tr (gt b j) = gt b j) : otr ((List.range (max a.length b.length)).map fun j => tr (pz (· + ·) (gt a j) (gt b j))) = otr (opz (· + ·) a b) := by
  refine otr_ext fun j => ?_
  have h1 : tr (gt ((List.range (max a.length b.length)).map fun j => tr (pz (· + ·) (gt a j) (gt b j))) j) = gt ((List.range (max a.length b.length)).map fun j => tr (pz (· + ·) (gt a j) (gt b j))) j := by
    rw [gt_rngL]
    split
    · exact tr_tr _
    · rfl
  rw [← h1, ← tr_opz]
  refine tr_same fun t => ?_
  rw [gx_gtopz _ rfl, gx_gtrng]
  split
  · rw [gx_tr, gx_pz0 _ rfl]
  · rw [gt_out a j (by omega), gt_out b j (by omega)]
    rfl
theorem scale_eq {c : List Int} {b : List (List Int)} (hc : tr c = c) (hb : NrmO b) : b.map (mulp c) = Szs c b := by
  unfold Szs
  rw [hb.1, hc]
  refine List.ext_getElem (by simp) fun j h1 h2 => ?_
  have h3 : j < b.length := by simpa using h1
  simp only [List.getElem_map, List.getElem_range]
  rw [hb.2 j]
  simp [gt, h3]
theorem omp_oz {f : List Int → List Int} (hf : ∀ z, f (tr z) = f z) (b : List (List Int)) : omp f (oz b) = omp f b := by
  unfold omp
  rw [olen_oz]
  congr 1
  funext i
  rw [gt_oz, hf]
theorem LXz_oz (al y : Int) (b : List (List Int)) : LXz al y (oz b) = LXz al y b := by
  unfold LXz
  rw [omp_oz (SGM_tr al y), omp_oz (DLM_tr al)]
theorem Bzs_oz (al y : Int) (b : List (List Int)) : ∀ i, Bzs al y (oz b) (i + 1) = Bzs al y b (i + 1)
  | 0 => by rw [Bzs, Bzs, Bzs, Bzs, LXz_oz]
  | i + 1 => by
    have h := Bzs_oz al y b i
    show otr (LXz al y (Bzs al y (oz b) (i + 1))) = otr (LXz al y (Bzs al y b (i + 1)))
    rw [h]
theorem Szs_oz (c : List Int) (b : List (List Int)) : Szs (tr c) (oz b) = Szs c b := by
  unfold Szs
  rw [olen_oz, tr_tr]
  congr 1
  funext i
  rw [gt_oz, tr_tr]
theorem Szs_tr (c : List Int) (b : List (List Int)) : Szs (tr c) b = Szs c b := by
  unfold Szs
  rw [tr_tr]
theorem Pzs_oz (al y : Int) (a b : List (List Int)) : ∀ i, Pzs al y (oz a) (oz b) i = Pzs al y a b i
  | 0 => rfl
  | i + 1 => by
    rw [Pzs, Pzs, Pzs_oz al y a b i, gt_oz]
    rcases i with _ | i
    · show otr (opz _ _ (otr (Szs (tr (gt a 0)) (oz b)))) = otr (opz _ _ (otr (Szs (gt a 0) b)))
      rw [Szs_oz]
    · rw [Bzs_oz, Szs_tr]
theorem HR.wideD {D D' : Nat} {E : World → Nat → Nat → List Int → Hdr → Prop} {w : World} {B T : Nat} {l : List (List Int)} {h : Hdr} (H : HR D E w B T l h) (hD : D ≤ D') : HR D' E w B T l h := by
  obtain ⟨hs, k⟩ := H
  exact ⟨hs, k.el, k.tl, k.cap, k.bnd, k.pn, Nat.le_trans k.few hD, k.hl, k.at_, k.ev⟩
theorem HR.wideN {D N N' E : Nat} {w : World} {B T : Nat} {l : List (List Int)} {h : Hdr} (H : HR D (EY N E) w B T l h) (hN : N ≤ N') : HR D (EY N' E) w B T l h := by
  obtain ⟨hs, k⟩ := H
  exact ⟨hs, k.el, k.tl, k.cap, k.bnd, k.pn, k.few, k.hl, k.at_, fun j hj => by
    obtain ⟨fs, h1, h2⟩ := k.ev j hj
    exact ⟨fs, h1.wide hN, h2⟩⟩
def RmP (al y : Int) (css dss : List (List Int)) (n : Nat) (w : World) (r : Ending) (w' : World) : Prop :=
  ∃ q m c B T, r = .returned (.slice q m c) ∧ HR 20 (EY 419 8) w' B T (Pzs al y css dss n) ⟨q, m, c⟩ ∧ T ≤ w'.heap.size ∧ Below w.heap.size w w'
structure RmI (w wr : World) (al y : Int) (u : Ent) (B T : Nat) (css dss : List (List Int)) (h : Hdr) (i : Nat) (bp : Option Addr) (bn bc : Nat) (cp : Option Addr) (cn cc : Nat) : Prop where
  q : RE wr 2 y u
  c0 : wr.cell? ⟨w.heap.size, 0, none⟩ = some (.int .i64 al)
  c1 : wr.cell? ⟨w.heap.size, 1, none⟩ = some (.bool u.s)
  c2 : wr.cell? ⟨w.heap.size, 2, none⟩ = some (.slice u.p u.n u.c)
  a : HR 5 (EY 4 4) wr B T css h
  t : T ≤ wr.heap.size
  b : ∃ D B' T', D ≤ 5 + i ∧ HR D (EY (2 * (2 + 9 * (i - 1))) 4) wr B' T' (Bzs al y dss (i - 1)) ⟨bp, bn, bc⟩ ∧ T' ≤ wr.heap.size
  c : ∃ B' T', HR 20 (EY (4 + 83 * i) 8) wr B' T' (Pzs al y css dss i) ⟨cp, cn, cc⟩ ∧ T' ≤ wr.heap.size
  bw : Below w.heap.size w wr
section
variable {w wr w2 w3 : World} {al y : Int} {u : Ent} {B T : Nat} {css dss : List (List Int)} {h : Hdr} {i : Nat} {bp ep : Option Addr} {bn bc en ec : Nat} {cp q : Option Addr} {cn cc m mc : Nat}
theorem RmI.entry (k : RmI w wr al y u B T css dss h i bp bn bc cp cn cc) (hi : i < h.n) : ∃ b o p n nc es, h.p = some ⟨b, o, none⟩ ∧ wr.cell? ⟨b, o + i, none⟩ = some (.slice p n nc) ∧ PR wr 4 p n nc es (gt css i) ∧ tlen (gt css i) = (gt css i).length ∧ n ≤ 4 := by
  obtain ⟨hs, q⟩ := k.a
  obtain ⟨b, o, hp, hc⟩ := q.hl (by rw [q.el]; omega)
  have c0 := hc i (by rw [q.el]; omega)
  obtain ⟨es2, hP2, h1, h2, hd3, -⟩ := q.ev i hi
  exact ⟨b, o, _, _, _, es2, hp, c0, hP2, by rw [h2, hP2.zl], hd3⟩
theorem RmI.next (k : RmI w wr al y u B T css dss h i bp bn bc cp cn cc) (hb : Below wr.heap.size wr w3) {N D B' T' B2 T2 : Nat} (hN : N ≤ 4 + 83 * (i + 1)) (hA : HR 20 (EY N 8) w3 B2 T2 (Pzs al y css dss (i + 1)) ⟨q, m, mc⟩) (hT2 : T2 ≤ w3.heap.size) (hD : D ≤ 5 + i + 1) (hg : HR D (EY (2 * (2 + 9 * i)) 4) w3 B' T' (Bzs al y dss i) ⟨ep, en, ec⟩) (hT' : T' ≤ w3.heap.size) : RmI w w3 al y u B T css dss h (i + 1) ep en ec q m mc :=
  ⟨k.q.below hb, cell_later hb k.c0, cell_later hb k.c1, cell_later hb k.c2, (lasts_HR (lasts_EY 4 4)).below k.a k.t hb, Nat.le_trans k.t hb.size, ⟨D, B', T', by omega, hg, hT'⟩, ⟨B2, T2, hA.wideN hN, hT2⟩, bnext' k.bw hb⟩
end
theorem hr_nil (w : World) (D N E B T : Nat) : HR D (EY N E) w B T [] ⟨none, 0, 0⟩ := ⟨[], rfl, rfl, Nat.le_refl _, Nat.zero_le _, fun _ => rfl, Nat.zero_le _, fun h => absurd h (Nat.not_lt_zero _), (fun a ha => nomatch ha), fun j hj => absurd hj (Nat.not_lt_zero _)⟩
theorem mulp_nrm (zs ys : List Int) (h1 : tlen zs = zs.length) (h2 : tlen ys = ys.length) : tlen (mulp zs ys) = (mulp zs ys).length := by
  unfold mulp
  split
  · rfl
  · rw [mulz_top h1 h2 (by omega) (by omega), length_mulz]
theorem Pzs_step {al y : Int} {css dss : List (List Int)} {i : Nat} (hc : tr (gt css i) = gt css i) (hd : NrmO dss) (hP : ∀ j, tr (gt (Pzs al y css dss i) j) = gt (Pzs al y css dss i) j) : otr ((List.range (max (Pzs al y css dss i).length (otr ((Bzs al y dss i).map (mulp (gt css i)))).length)).map fun j => tr (pz (· + ·) (gt (Pzs al y css dss i) j) (gt (otr ((Bzs al y dss i).map (mulp (gt css i)))) j))) = Pzs al y css dss (i + 1) := by
  have hs : ∀ j, tr (gt (otr (Szs (gt css i) (Bzs al y dss i))) j) = gt (otr (Szs (gt css i) (Bzs al y dss i))) j := fun j => by
    rw [gt_otr]
    split
    · unfold Szs
      rw [gt_rngL]
      split
      · refine tr_self (mulp_nrm _ _ ?_ ?_)
        · rw [tlen_tr, length_tr]
        · rw [tlen_tr, length_tr]
      · rfl
    · rfl
  rw [scale_eq hc (nrm_Bzs hd i), add_eq _ _ hP hs]
  rfl
theorem nrm_Pzs (al y : Int) (css dss : List (List Int)) : ∀ i j, tr (gt (Pzs al y css dss i) j) = gt (Pzs al y css dss i) j
  | 0, j => rfl
  | i + 1, j => (nrm_otr fun j => tr_opz _ _ j).2 j
set_option maxRecDepth 100000 in
theorem rMul_all {w : World} {al y : Int} {u : Ent} (ha : al = 1 ∨ al = 2 ∨ al = 3) (hq : RE w 2 y u) (hq0 : al = 3 → y ≠ 0) (hY : (y.natAbs : Int) < pw 1) {B T B2 T2 : Nat} {css dss : List (List Int)} {h k : Hdr} (H : HR 5 (EY 4 4) w B T css h) (hT : T ≤ w.heap.size) (G : HR 5 (EY 4 4) w B2 T2 dss k) (hT2 : T2 ≤ w.heap.size) (hd : NrmO dss) :
    Calls Tryz.prog 30 #[.agg #[.int .i64 al, .bool u.s, .slice u.p u.n u.c], .slice h.p h.n h.c, .slice k.p k.n k.c] w (RmP al y css dss h.n w) := by
  have HX : Hid (RE w 2 y u ∧ HR 5 (EY 4 4) w B T css h ∧ T ≤ w.heap.size ∧ HR 5 (EY 4 4) w B2 T2 dss k ∧ T2 ≤ w.heap.size) := ⟨hq, H, hT, G, hT2⟩
  have HQ : Hid ((al = 1 ∨ al = 2 ∨ al = 3) ∧ (al = 3 → y ≠ 0) ∧ (y.natAbs : Int) < pw 1 ∧ NrmO dss) := ⟨ha, hq0, hY, hd⟩
  obtain ⟨hp, hn, hc⟩ := h
  obtain ⟨kp, kn, kc⟩ := k
  have hn5 : hn ≤ 5 := by
    obtain ⟨hs, k⟩ := H
    exact k.few
  dsimp only
  clear H hT G hT2 hq ha hq0 hY hd
  go_enter Tryz.func30, Tryz.ntmps30
  go_wp2_with fail
  have hal : Below w.heap.size w (w.alloc (.cells #[.int .i64 al, .bool u.s, .slice u.p u.n u.c] 40)) := (Below.refl _ _).alloc (Nat.le_refl _) _
  have G0 : Hid (RmI w (w.alloc (.cells #[.int .i64 al, .bool u.s, .slice u.p u.n u.c] 40)) al y u B T css dss ⟨hp, hn, hc⟩ 0 kp kn kc none 0 0) := ⟨HX.out.1.below hal, by simp [go_sem], by simp [go_sem], by simp [go_sem], (lasts_HR (lasts_EY 4 4)).below HX.out.2.1 HX.out.2.2.1 hal, Nat.le_trans HX.out.2.2.1 hal.size, ⟨5, B2, T2, by omega, (lasts_HR (lasts_EY 4 4)).below HX.out.2.2.2.1 HX.out.2.2.2.2 hal, Nat.le_trans HX.out.2.2.2.2 hal.size⟩, ⟨0, 0, hr_nil _ _ _ _ _ _, Nat.zero_le _⟩, hal⟩
  generalize w.alloc (.cells #[.int .i64 al, .bool u.s, .slice u.p u.n u.c] 40) = W0 at *
  clear hal HX
  go_loopw [2, 7, 8] (fun bv cv kv wr => ∃ (i : Nat) (bp : Option Addr) (bn bc : Nat) (cp : Option Addr) (cn cc : Nat), i ≤ hn ∧ bv = .slice bp bn bc ∧ cv = .slice cp cn cc ∧ kv = .int .i64 i ∧ Hid (RmI w wr al y u B T css dss ⟨hp, hn, hc⟩ i bp bn bc cp cn cc)) (fun _ _ kv _ => hn - (intOf kv).toNat)
  case atStart => exact ⟨0, kp, kn, kc, none, 0, 0, Nat.zero_le _, rfl, rfl, by go_num, G0.out⟩
  case round =>
    clear G0
    obtain ⟨i, bp, bn, bc, cp, cn, cc, hi, rfl, rfl, rfl, G⟩ := hrel
    rcases Nat.lt_or_ge i hn with hlt | hge
    · obtain ⟨b, o, p2, n2, nc2, es2, hpb, c1, hP2, ht2, hn2⟩ := G.out.entry hlt
      simp only at hpb
      subst hpb
      have i1 : (i : Int) < (hn : Int) := by omega
      have HP2 : Hid (PR wr 4 p2 n2 nc2 es2 (gt css i) ∧ tlen (gt css i) = (gt css i).length ∧ n2 ≤ 4) := ⟨hP2, ht2, hn2⟩
      clear hP2 hn2 ht2
      by_cases hi0 : i = 0
      · subst hi0
        rw [Nat.add_zero] at c1
        obtain ⟨D, CB, CT, hD, hH, hHT⟩ := G.out.b
        have HGH : HR D (EY (2 * (2 + 9 * 0)) 4) wr CB CT (Bzs al y dss 0) ⟨bp, bn, bc⟩ ∧ CT ≤ wr.heap.size := ⟨hH, hHT⟩
        have HGB : Below wr.heap.size wr wr := Below.refl _ _
        clear hH hHT
        have hsc := rScale8_any (K := 2) (L := 2 + 9 * 0) (E' := 8) (HP2.out.1.below HGB) HP2.out.2.1 (by decide) (fun j => pr_bdk (HP2.out.1.below HGB) j) HGH.1 HGH.2 (by omega) (by decide) (by have := HP2.out.2.2; omega) (by omega) (by have := HP2.out.2.2; omega) (by decide)
        dsimp only at hsc
        have HG' : Hid (HR D (EY (2 * (2 + 9 * 0)) 4) wr CB CT (Bzs al y dss 0) ⟨bp, bn, bc⟩ ∧ CT ≤ wr.heap.size ∧ Below wr.heap.size wr wr) := ⟨HGH.1, HGH.2, HGB⟩
        clear HGH HGB
        go_wp2_with fail
        go_fit hsc
        rintro r w2 ⟨q2, rfl, hN2, hb2⟩
        have hB2 := bnext' HG'.out.2.2 hb2
        obtain ⟨CB2, CT2, hC, hCT⟩ := G.out.c
        have hadd := rAdd8_any ((lasts_HR (lasts_EY (4 + 83 * 0) 8)).below hC hCT hB2) (hN2.wideD (D' := 20) (by omega)) (Nat.le_trans hCT hB2.size) (Nat.le_refl _) (by decide) (by decide) (by omega) (by omega) (by omega) (by omega)
        dsimp only at hadd
        have HB2 : Hid (Below wr.heap.size wr w2 ∧ Below wr.heap.size wr w2) := ⟨hB2, hb2⟩
        clear hsc hN2 hC hCT
        generalize olen ((Bzs al y dss 0).map (mulp (gt css 0))) = m2 at *
        go_wp2_with fail
        go_fit hadd
        rintro r w3 ⟨q3, rfl, hN3, hb3⟩
        rw [Pzs_step (tr_self HP2.out.2.1) HQ.out.2.2.2 (nrm_Pzs al y css dss 0)] at hN3
        generalize olen ((List.range (max (Pzs al y css dss 0).length (otr ((Bzs al y dss 0).map (mulp (gt css 0)))).length)).map fun j => tr (pz (· + ·) (gt (Pzs al y css dss 0) j) (gt (otr ((Bzs al y dss 0).map (mulp (gt css 0)))) j))) = m3 at *
        have HN : Hid (RmI w w3 al y u B T css dss ⟨some ⟨b, o, none⟩, hn, hc⟩ (0 + 1) bp bn bc q3 m3 m3) := G.out.next (bnext' HB2.out.1 hb3) (by omega) hN3 (Nat.le_refl _) (by omega) ((lasts_HR (lasts_EY (2 * (2 + 9 * 0)) 4)).below HG'.out.1 HG'.out.2.1 (bnext' HB2.out.2 hb3)) (Nat.le_trans HG'.out.2.1 (bnext' HB2.out.2 hb3).size)
        clear hadd hN3 hb3 hB2 hb2 c1
        go_wp2
        exact ⟨⟨1, bp, bn, bc, q3, m3, m3, by omega, rfl, rfl, by go_num, HN.out⟩, by simp [intOf]; omega⟩
      · obtain ⟨k, rfl⟩ : ∃ k, i = k + 1 := ⟨i - 1, by omega⟩
        have i2 : (0 : Int) < ((k + 1 : Nat) : Int) := by omega
        obtain ⟨D, CB, CT, hD, hH, hHT⟩ := G.out.b
        rw [Nat.add_sub_cancel] at hH
        have hl := rPast_any HQ.out.1 G.out.q HQ.out.2.1 HQ.out.2.2.1 hH hHT (nrm_Bzs HQ.out.2.2.2 k).1 (by omega) (by omega) (by omega)
        dsimp only at hl
        have k0 := G.out.c0
        have k1 := G.out.c1
        have k2 := G.out.c2
        clear hH hHT
        go_wp2_with fail
        go_fit hl
        rintro r w1' ⟨q1, rfl, hN1, hb1'⟩
        have hN1' : HR (D + 1) (EY (2 * (2 + 9 * (k + 1))) 4) w1' wr.heap.size w1'.heap.size (Bzs al y dss (k + 1)) ⟨q1, olen (LXz al y (Bzs al y dss k)), olen (LXz al y (Bzs al y dss k))⟩ := hN1.wideN (by omega)
        have HGH : HR (D + 1) (EY (2 * (2 + 9 * (k + 1))) 4) w1' wr.heap.size w1'.heap.size (Bzs al y dss (k + 1)) ⟨q1, olen (LXz al y (Bzs al y dss k)), olen (LXz al y (Bzs al y dss k))⟩ ∧ w1'.heap.size ≤ w1'.heap.size := ⟨hN1', Nat.le_refl _⟩
        have HGB := hb1'
        replace c1 := cell_later hb1' c1
        clear hl hN1 hN1' hb1' k0 k1 k2
        generalize olen (LXz al y (Bzs al y dss k)) = bm at *
        have hsc := rScale8_any (K := 2) (L := 2 + 9 * (k + 1)) (E' := 8) (HP2.out.1.below HGB) HP2.out.2.1 (by decide) (fun j => pr_bdk (HP2.out.1.below HGB) j) HGH.1 HGH.2 (by omega) (by decide) (by have := HP2.out.2.2; omega) (by omega) (by have := HP2.out.2.2; omega) (by decide)
        dsimp only at hsc
        have HG' : Hid (HR (D + 1) (EY (2 * (2 + 9 * (k + 1))) 4) w1' wr.heap.size w1'.heap.size (Bzs al y dss (k + 1)) ⟨q1, bm, bm⟩ ∧ w1'.heap.size ≤ w1'.heap.size ∧ Below wr.heap.size wr w1') := ⟨HGH.1, HGH.2, HGB⟩
        clear HGH HGB
        go_wp2_with fail
        go_fit hsc
        rintro r w2 ⟨q2, rfl, hN2, hb2⟩
        have hB2 := bnext' HG'.out.2.2 hb2
        obtain ⟨CB2, CT2, hC, hCT⟩ := G.out.c
        have hadd := rAdd8_any ((lasts_HR (lasts_EY (4 + 83 * (k + 1)) 8)).below hC hCT hB2) (hN2.wideD (D' := 20) (by omega)) (Nat.le_trans hCT hB2.size) (Nat.le_refl _) (by decide) (by decide) (by omega) (by omega) (by omega) (by omega)
        dsimp only at hadd
        have HB2 : Hid (Below wr.heap.size wr w2 ∧ Below w1'.heap.size w1' w2) := ⟨hB2, hb2⟩
        clear hsc hN2 hC hCT
        generalize olen ((Bzs al y dss (k + 1)).map (mulp (gt css (k + 1)))) = m2 at *
        go_wp2_with fail
        go_fit hadd
        rintro r w3 ⟨q3, rfl, hN3, hb3⟩
        rw [Pzs_step (tr_self HP2.out.2.1) HQ.out.2.2.2 (nrm_Pzs al y css dss (k + 1))] at hN3
        generalize olen ((List.range (max (Pzs al y css dss (k + 1)).length (otr ((Bzs al y dss (k + 1)).map (mulp (gt css (k + 1))))).length)).map fun j => tr (pz (· + ·) (gt (Pzs al y css dss (k + 1)) j) (gt (otr ((Bzs al y dss (k + 1)).map (mulp (gt css (k + 1))))) j))) = m3 at *
        have HN : Hid (RmI w w3 al y u B T css dss ⟨some ⟨b, o, none⟩, hn, hc⟩ ((k + 1) + 1) q1 bm bm q3 m3 m3) := G.out.next (bnext' HB2.out.1 hb3) (by omega) hN3 (Nat.le_refl _) (by omega) ((lasts_HR (lasts_EY (2 * (2 + 9 * (k + 1))) 4)).below HG'.out.1 HG'.out.2.1 (bnext' HB2.out.2 hb3)) (Nat.le_trans HG'.out.2.1 (bnext' HB2.out.2 hb3).size)
        clear hadd hN3 hb3 hB2 hb2 c1
        go_wp2
        exact ⟨⟨k + 1 + 1, q1, bm, bm, q3, m3, m3, by omega, rfl, rfl, by go_num, HN.out⟩, by simp [intOf]; omega⟩
    · obtain rfl : i = hn := by omega
      have HG : Hid (∃ B' T', HR 20 (EY 419 8) wr B' T' (Pzs al y css dss i) ⟨cp, cn, cc⟩ ∧ T' ≤ wr.heap.size ∧ Below w.heap.size w wr) := by
        obtain ⟨B', T', h1, h2⟩ := G.out.c
        exact ⟨B', T', h1.wideN (by omega), h2, G.out.bw⟩
      clear G
      go_wp2
      go_ret
      obtain ⟨B', T', h1, h2, h3⟩ := HG.out
      exact ⟨cp, cn, cc, B', T', rfl, h1, h2, h3⟩
end Go.Proofs.YtifebbacnlhggaaGreatDoor
