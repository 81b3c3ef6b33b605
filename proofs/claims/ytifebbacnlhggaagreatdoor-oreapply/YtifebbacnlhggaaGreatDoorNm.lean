/-
  (ashlarref8.Rule).Apply.
-/
import Derived.Test.YtifebbacnlhggaaGreatDoorCbNgNkPq
import Derived.Test.YtifebbacnlhggaaGreatDoorDcUmUoDmDvPmHuVsVt
import Derived.Test.YtifebbacnlhggaaGreatDoorRkVq
import Derived.Deep.DeepFit
namespace Go.Proofs.YtifebbacnlhggaaGreatDoor
open Go.RowKit
set_option linter.unusedVariables false
set_option linter.unusedSimpArgs false
/-- Behind some rounds of the reference's Apply. -/
structure RpI (w wr : World) (al y : Int) (u : Ent) (B T : Nat) (css : List (List Int)) (h : Hdr) (zs : List Int) (i : Nat) (fp : Option Addr) (fn fc : Nat) (sp : Option Addr) (sn sc : Nat) : Prop where
  q : RE wr 2 y u
  c0 : wr.cell? ⟨w.heap.size, 0, none⟩ = some (.int .i64 al)
  c1 : wr.cell? ⟨w.heap.size, 1, none⟩ = some (.bool u.s)
  c2 : wr.cell? ⟨w.heap.size, 2, none⟩ = some (.slice u.p u.n u.c)
  a : HR 5 (EY 4 4) wr B T css h
  t : T ≤ wr.heap.size
  f : ∃ fe, PR wr (2 * (2 + (i - 1) * 14)) fp fn fc fe (Fit al y zs (i - 1))
  s : ∃ se, PR wr 124 sp sn sc se (Ozs al y css zs i)
  bd : ∀ t, ((gx (Ozs al y css zs i) t).natAbs : Int) ≤ (i : Int) * pw 61
  on : sn ≤ 100
  zl : zs.length ≤ 7
  zb : ∀ t, ((gx zs t).natAbs : Int) < pw 2
  y1 : (y.natAbs : Int) < pw 1
  b : Below w.heap.size w wr
section
variable {w wr w2 w3 : World} {al y : Int} {u : Ent} {B T : Nat} {css : List (List Int)} {h : Hdr} {zs : List Int} {i : Nat} {fp gp : Option Addr} {fn fc gn gc : Nat} {sp q : Option Addr} {sn sc m mc : Nat} {e4 ge' : List Ent}
theorem RpI.fn7 (k : RpI w wr al y u B T css h zs i fp fn fc sp sn sc) : fn ≤ 7 := by
  obtain ⟨fe, hf⟩ := k.f
  have h1 := hf.zl
  have h2 := Fit_len al y zs (i - 1)
  have h3 := k.zl
  omega
theorem RpI.entry (k : RpI w wr al y u B T css h zs i fp fn fc sp sn sc) (hi : i < h.n) : ∃ b o p n nc es, h.p = some ⟨b, o, none⟩ ∧ wr.cell? ⟨b, o + i, none⟩ = some (.slice p n nc) ∧ PR wr 4 p n nc es (gt css i) ∧ tlen (gt css i) = (gt css i).length ∧ n ≤ 4 := by
  obtain ⟨hs, q⟩ := k.a
  obtain ⟨b, o, hp, hc⟩ := q.hl (by rw [q.el]; omega)
  have c0 := hc i (by rw [q.el]; omega)
  obtain ⟨es2, hP2, h1, h2, hd3, -⟩ := q.ev i hi
  exact ⟨b, o, _, _, _, es2, hp, c0, hP2, by rw [h2, hP2.zl], hd3⟩
theorem RpI.next (k : RpI w wr al y u B T css h zs i fp fn fc sp sn sc) (hb : Below wr.heap.size wr w3) {N : Nat} (hi : i < 5) (hc : tlen (gt css i) = (gt css i).length) (hcn : (gt css i).length ≤ 4) (hA : PR w3 N q m mc e4 (tr (pz (· + ·) (Ozs al y css zs i) (mulp (gt css i) (Fit al y zs i))))) (hm : ∀ t, ((gx (mulp (gt css i) (Fit al y zs i)) t).natAbs : Int) < pw 61) {M : Nat} (hg : PR w3 M gp gn gc ge' (Fit al y zs i)) : RpI w w3 al y u B T css h zs (i + 1) gp gn gc q m mc := by
  have ec : tr (gt css i) = gt css i := tr_self hc
  have hO : Ozs al y css zs (i + 1) = tr (pz (· + ·) (Ozs al y css zs i) (mulp (gt css i) (Fit al y zs i))) := by rw [Ozs, ec]
  have hbd := Ozs_step (P := pw 61) k.bd (by rw [ec]; exact hm)
  refine ⟨k.q.below hb, cell_later hb k.c0, cell_later hb k.c1, cell_later hb k.c2, (lasts_HR (lasts_EY 4 4)).below k.a k.t hb, Nat.le_trans k.t hb.size, ⟨ge', ?_⟩, ⟨e4, ?_⟩, hbd, ?_, k.zl, k.zb, k.y1, bnext' k.b hb⟩
  · rw [Nat.add_sub_cancel]
    exact hg.tight (fun t => Fit_lt (N := 7) k.zb k.y1 k.zl (by decide) i t)
  · rw [hO]
    refine hA.tight (K := 62) fun t => ?_
    have h1 := hbd t
    rw [hO] at h1
    have h2 : pw 62 = pw 61 * 4294967296 := pw_succ 61
    have h3 := pw_pos 61
    have h4 : ((i + 1 : Nat) : Int) * pw 61 ≤ 5 * pw 61 := Int.mul_le_mul_of_nonneg_right (by omega) (by omega)
    omega
  · have h1 : (tr (pz (· + ·) (Ozs al y css zs i) (mulp (gt css i) (Fit al y zs i)))).length ≤ max (Ozs al y css zs i).length (mulp (gt css i) (Fit al y zs i)).length := by
      rw [length_tr]
      refine Nat.le_trans (tlen_le _) ?_
      simp [pz]
    have h2 := mulp_le (gt css i) (Fit al y zs i)
    have h5 := Fit_len al y zs i
    have h6 := k.zl
    have h7 := hA.zl
    obtain ⟨oe, h8⟩ := k.s
    have h9 := h8.zl
    have h10 := k.on
    omega
end
set_option maxHeartbeats 4000000 in
set_option maxRecDepth 100000 in
theorem rApply_any {w : World} {al y : Int} {u : Ent} (ha : al = 1 ∨ al = 2 ∨ al = 3) (hq : RE w 2 y u) (hq0 : al = 3 → y ≠ 0) (hY : (y.natAbs : Int) < pw 1) {B T : Nat} {css : List (List Int)} {h : Hdr} (H : HR 5 (EY 4 4) w B T css h) (hT : T ≤ w.heap.size) {p : Option Addr} {n nc : Nat} {es : List Ent} {zs : List Int} (hP : PR w 4 p n nc es zs) (hz : tlen zs = zs.length) (hn : n ≤ 7) :
    Calls Tryz.prog 36 #[.agg #[.int .i64 al, .bool u.s, .slice u.p u.n u.c], .slice h.p h.n h.c, .slice p n nc] w (PrC (Ozs al y css zs h.n) 124 w) := by
  have HX : Hid (RE w 2 y u ∧ HR 5 (EY 4 4) w B T css h ∧ T ≤ w.heap.size ∧ PR w 4 p n nc es zs) := ⟨hq, H, hT, hP⟩
  obtain ⟨hp, hn', hc⟩ := h
  have HQ : Hid ((al = 1 ∨ al = 2 ∨ al = 3) ∧ (al = 3 → y ≠ 0) ∧ tlen zs = zs.length ∧ (y.natAbs : Int) < pw 1) := ⟨ha, hq0, hz, hY⟩
  clear H hT hP hq ha hq0 hz hY
  go_enter Tryz.func36, Tryz.ntmps36
  go_wp2_with fail
  have hal : Below w.heap.size w (w.alloc (.cells #[.int .i64 al, .bool u.s, .slice u.p u.n u.c] 40)) := (Below.refl _ _).alloc (Nat.le_refl _) _
  have hn5 : hn' ≤ 5 := by
    obtain ⟨hs, k⟩ := HX.out.2.1
    exact k.few
  have G0 : Hid (RpI w (w.alloc (.cells #[.int .i64 al, .bool u.s, .slice u.p u.n u.c] 40)) al y u B T css ⟨hp, hn', hc⟩ zs 0 p n nc none 0 0) := ⟨HX.out.1.below hal, by simp [go_sem], by simp [go_sem], by simp [go_sem], (lasts_HR (lasts_EY 4 4)).below HX.out.2.1 HX.out.2.2.1 hal, Nat.le_trans HX.out.2.2.1 hal.size, ⟨es, by
      have e1 : Fit al y zs (0 - 1) = zs := tr_self HQ.out.2.2.1
      rw [e1]
      exact HX.out.2.2.2.below hal⟩, ⟨[], pr_nil _ _⟩, fun t => by simp [Ozs, gx], by decide, by rw [HX.out.2.2.2.zl]; exact hn, fun t => pr_bdk (K := 2) HX.out.2.2.2 t, HQ.out.2.2.2, hal⟩
  generalize w.alloc (.cells #[.int .i64 al, .bool u.s, .slice u.p u.n u.c] 40) = W0 at *
  clear hal HX
  go_loopw [2, 7, 8] (fun fv sv kv wr => ∃ (i : Nat) (fp : Option Addr) (fn fc : Nat) (sp : Option Addr) (sn sc : Nat), i ≤ hn' ∧ fv = .slice fp fn fc ∧ sv = .slice sp sn sc ∧ kv = .int .i64 i ∧ Hid (RpI w wr al y u B T css ⟨hp, hn', hc⟩ zs i fp fn fc sp sn sc)) (fun _ _ kv _ => hn' - (intOf kv).toNat)
  case atStart => exact ⟨0, p, n, nc, none, 0, 0, Nat.zero_le _, rfl, rfl, by go_num, G0.out⟩
  case round =>
    clear G0
    obtain ⟨i, fp, fn, fc, sp, sn, sc, hi, rfl, rfl, rfl, G⟩ := hrel
    rcases Nat.lt_or_ge i hn' with hlt | hge
    · obtain ⟨b, o, p2, n2, nc2, es2, hpb, c1, hP2, ht2, hn2⟩ := G.out.entry hlt
      simp only at hpb
      subst hpb
      have i1 : (i : Int) < (hn' : Int) := by omega
      have HP2 : Hid (PR wr 4 p2 n2 nc2 es2 (gt css i) ∧ tlen (gt css i) = (gt css i).length ∧ n2 ≤ 4) := ⟨hP2, ht2, hn2⟩
      clear hP2 hn2 ht2
      have hfn := G.out.fn7
      by_cases hi0 : i = 0
      · subst hi0
        rw [Nat.add_zero] at c1
        obtain ⟨fe, hF0⟩ := G.out.f
        have HGF : PR wr (2 * (2 + 0 * 14)) fp fn fc fe (Fit al y zs 0) := hF0
        have HGB : Below wr.heap.size wr wr := Below.refl _ _
        clear hF0
        have hm := rpMul_any (K := 2) (L := 2 + 0 * 14) (HP2.out.1.below HGB) HGF HP2.out.2.1 (Fit_nrm al y zs (0)) (by have := HP2.out.2.2; omega) (by omega) (by decide) (by omega) (fun j => pr_bdk HP2.out.1 j) (fun j => Fit_lt (N := 7) G.out.zb G.out.y1 G.out.zl (by decide) (0) j) (by omega)
        have HGF' : Hid (PR wr (2 * (2 + 0 * 14)) fp fn fc fe (Fit al y zs (0)) ∧ Below wr.heap.size wr wr) := ⟨HGF, HGB⟩
        clear HGF HGB
        go_wp2_with fail
        go_fit hm
        rintro r w2 ⟨p3, n3, e3, rfl, hM, hFM, htM, hb2⟩
        have hB2 := bnext' HGF'.out.2 hb2
        obtain ⟨se, hS⟩ := G.out.s
        have hMl := mulp_le (gt css (0)) (Fit al y zs (0))
        have hM3 : n3 ≤ 1000 := by have := hM.zl; have := HP2.out.1.zl; have := HP2.out.2.2; have := Fit_len al y zs (0); have := G.out.zl; omega
        have hMb : ∀ t, ((gx (mulp (gt css (0)) (Fit al y zs (0))) t).natAbs : Int) < pw 61 := fun t => Int.lt_of_lt_of_le (pr_bdk hM t) (pw_mono (by omega))
        have hadd := rpAdd_any (hS.below hB2) hM (by have := G.out.on; omega) (by omega) (by decide) (by omega) (by decide) (by omega)
        have HMb : Hid (∀ t, ((gx (mulp (gt css (0)) (Fit al y zs (0))) t).natAbs : Int) < pw 61) := hMb
        clear hm hMb hM hS hFM htM hMl
        go_wp2_with fail
        go_fit hadd
        rintro r w3 ⟨p4, n4, e4, rfl, hA, hFA, htA, hb3⟩
        have HN : Hid (RpI w w3 al y u B T css ⟨some ⟨b, o, none⟩, hn', hc⟩ zs (0 + 1) fp fn fc p4 n4 n4) := G.out.next (bnext' hB2 hb3) (by omega) HP2.out.2.1 (by rw [HP2.out.1.zl]; exact HP2.out.2.2) hA HMb.out ((HGF'.out.1.below hb2).below hb3)
        clear hadd hA hFA htA hb2 hb3 hB2 c1
        go_wp2
        exact ⟨⟨1, fp, fn, fc, p4, n4, n4, by omega, rfl, rfl, by go_num, HN.out⟩, by simp [intOf]; omega⟩
      · by_cases h2 : al = 2
        · subst h2
          obtain ⟨k, rfl⟩ : ∃ k, i = k + 1 := ⟨i - 1, by omega⟩
          have i2 : (0 : Int) < ((k + 1 : Nat) : Int) := by omega
          obtain ⟨fe, hF⟩ := G.out.f
          rw [Nat.add_sub_cancel] at hF
          have hfn := G.out.fn7
          have k0 := G.out.c0
          have k1 := G.out.c1
          have k2 := G.out.c2
          have hl := rDelta_all (al := 2) (u := u) (K := 2 + k * 14) hF (Fit_nrm _ _ _ _) (by omega) (by omega) (fun j => Fit_lt (N := 7) G.out.zb G.out.y1 G.out.zl (by decide) k j)
          have HLT : Hid (DLM 2 (Fit 2 y zs k) = Fit 2 y zs (k + 1)) := by show _ = _; rw [Fit, LTR, if_pos rfl]
          clear hF
          go_wp2_with fail
          go_fit hl
          rintro r w1' ⟨gp, gn, gc, ge', rfl, hL, hb1'⟩
          have hgn : gn ≤ 7 := by have := hL.zl; have := Fit_len 2 y zs (k + 1); have := G.out.zl; rw [HLT.out] at *; omega
          rw [HLT.out] at hL
          have HGF : PR w1' (2 * (2 + (k + 1) * 14)) gp gn gc ge' (Fit 2 y zs (k + 1)) := hL.tight (fun t => Fit_lt (N := 7) G.out.zb G.out.y1 G.out.zl (by decide) (k + 1) t)
          have HGB := hb1'
          replace c1 := cell_later hb1' c1
          clear hl hL hb1' k0 k1 k2
          have hm := rpMul_any (K := 2) (L := 2 + (k + 1) * 14) (HP2.out.1.below HGB) HGF HP2.out.2.1 (Fit_nrm 2 y zs ((k + 1))) (by have := HP2.out.2.2; omega) (by omega) (by decide) (by omega) (fun j => pr_bdk HP2.out.1 j) (fun j => Fit_lt (N := 7) G.out.zb G.out.y1 G.out.zl (by decide) ((k + 1)) j) (by omega)
          have HGF' : Hid (PR w1' (2 * (2 + (k + 1) * 14)) gp gn gc ge' (Fit 2 y zs ((k + 1))) ∧ Below wr.heap.size wr w1') := ⟨HGF, HGB⟩
          clear HGF HGB
          go_wp2_with fail
          go_fit hm
          rintro r w2 ⟨p3, n3, e3, rfl, hM, hFM, htM, hb2⟩
          have hB2 := bnext' HGF'.out.2 hb2
          obtain ⟨se, hS⟩ := G.out.s
          have hMl := mulp_le (gt css ((k + 1))) (Fit 2 y zs ((k + 1)))
          have hM3 : n3 ≤ 1000 := by have := hM.zl; have := HP2.out.1.zl; have := HP2.out.2.2; have := Fit_len 2 y zs ((k + 1)); have := G.out.zl; omega
          have hMb : ∀ t, ((gx (mulp (gt css ((k + 1))) (Fit 2 y zs ((k + 1)))) t).natAbs : Int) < pw 61 := fun t => Int.lt_of_lt_of_le (pr_bdk hM t) (pw_mono (by omega))
          have hadd := rpAdd_any (hS.below hB2) hM (by have := G.out.on; omega) (by omega) (by decide) (by omega) (by decide) (by omega)
          have HMb : Hid (∀ t, ((gx (mulp (gt css ((k + 1))) (Fit 2 y zs ((k + 1)))) t).natAbs : Int) < pw 61) := hMb
          clear hm hMb hM hS hFM htM hMl
          go_wp2_with fail
          go_fit hadd
          rintro r w3 ⟨p4, n4, e4, rfl, hA, hFA, htA, hb3⟩
          have HN : Hid (RpI w w3 2 y u B T css ⟨some ⟨b, o, none⟩, hn', hc⟩ zs ((k + 1) + 1) gp gn gc p4 n4 n4) := G.out.next (bnext' hB2 hb3) (by omega) HP2.out.2.1 (by rw [HP2.out.1.zl]; exact HP2.out.2.2) hA HMb.out ((HGF'.out.1.below hb2).below hb3)
          clear hadd hA hFA htA hb2 hb3 hB2 c1
          go_wp2
          exact ⟨⟨k + 1 + 1, gp, gn, gc, p4, n4, n4, by omega, rfl, rfl, by go_num, HN.out⟩, by simp [intOf]; omega⟩
        · have h2' : (al == 2) = false := by rw [beq_eq_false_iff_ne]; exact h2
          obtain ⟨k, rfl⟩ : ∃ k, i = k + 1 := ⟨i - 1, by omega⟩
          have i2 : (0 : Int) < ((k + 1 : Nat) : Int) := by omega
          obtain ⟨fe, hF⟩ := G.out.f
          rw [Nat.add_sub_cancel] at hF
          have hfn := G.out.fn7
          have k0 := G.out.c0
          have k1 := G.out.c1
          have k2 := G.out.c2
          have hl := rSigma_all (al := al) (u := u) (K := 2 + k * 14) (M := 2) HQ.out.1 (fun h3 => ⟨G.out.q, HQ.out.2.1 h3⟩) G.out.y1 hF (Fit_nrm _ _ _ _) (by omega) (by omega) (by omega) (by decide) (fun j => Fit_lt (N := 7) G.out.zb G.out.y1 G.out.zl (by decide) k j) (by omega)
          have HLT : Hid (SGM al y (Fit al y zs k) = Fit al y zs (k + 1)) := by show _ = _; rw [Fit, LTR, if_neg h2]
          clear hF
          go_wp2_with fail
          go_fit hl
          rintro r w1' ⟨gp, gn, gc, ge', rfl, hL, hb1'⟩
          have hgn : gn ≤ 7 := by have := hL.zl; have := Fit_len al y zs (k + 1); have := G.out.zl; rw [HLT.out] at *; omega
          rw [HLT.out] at hL
          have HGF : PR w1' (2 * (2 + (k + 1) * 14)) gp gn gc ge' (Fit al y zs (k + 1)) := hL.tight (fun t => Fit_lt (N := 7) G.out.zb G.out.y1 G.out.zl (by decide) (k + 1) t)
          have HGB := hb1'
          replace c1 := cell_later hb1' c1
          clear hl hL hb1' k0 k1 k2
          have hm := rpMul_any (K := 2) (L := 2 + (k + 1) * 14) (HP2.out.1.below HGB) HGF HP2.out.2.1 (Fit_nrm al y zs ((k + 1))) (by have := HP2.out.2.2; omega) (by omega) (by decide) (by omega) (fun j => pr_bdk HP2.out.1 j) (fun j => Fit_lt (N := 7) G.out.zb G.out.y1 G.out.zl (by decide) ((k + 1)) j) (by omega)
          have HGF' : Hid (PR w1' (2 * (2 + (k + 1) * 14)) gp gn gc ge' (Fit al y zs ((k + 1))) ∧ Below wr.heap.size wr w1') := ⟨HGF, HGB⟩
          clear HGF HGB
          go_wp2_with fail
          go_fit hm
          rintro r w2 ⟨p3, n3, e3, rfl, hM, hFM, htM, hb2⟩
          have hB2 := bnext' HGF'.out.2 hb2
          obtain ⟨se, hS⟩ := G.out.s
          have hMl := mulp_le (gt css ((k + 1))) (Fit al y zs ((k + 1)))
          have hM3 : n3 ≤ 1000 := by have := hM.zl; have := HP2.out.1.zl; have := HP2.out.2.2; have := Fit_len al y zs ((k + 1)); have := G.out.zl; omega
          have hMb : ∀ t, ((gx (mulp (gt css ((k + 1))) (Fit al y zs ((k + 1)))) t).natAbs : Int) < pw 61 := fun t => Int.lt_of_lt_of_le (pr_bdk hM t) (pw_mono (by omega))
          have hadd := rpAdd_any (hS.below hB2) hM (by have := G.out.on; omega) (by omega) (by decide) (by omega) (by decide) (by omega)
          have HMb : Hid (∀ t, ((gx (mulp (gt css ((k + 1))) (Fit al y zs ((k + 1)))) t).natAbs : Int) < pw 61) := hMb
          clear hm hMb hM hS hFM htM hMl
          go_wp2_with fail
          go_fit hadd
          rintro r w3 ⟨p4, n4, e4, rfl, hA, hFA, htA, hb3⟩
          have HN : Hid (RpI w w3 al y u B T css ⟨some ⟨b, o, none⟩, hn', hc⟩ zs ((k + 1) + 1) gp gn gc p4 n4 n4) := G.out.next (bnext' hB2 hb3) (by omega) HP2.out.2.1 (by rw [HP2.out.1.zl]; exact HP2.out.2.2) hA HMb.out ((HGF'.out.1.below hb2).below hb3)
          clear hadd hA hFA htA hb2 hb3 hB2 c1
          go_wp2
          exact ⟨⟨k + 1 + 1, gp, gn, gc, p4, n4, n4, by omega, rfl, rfl, by go_num, HN.out⟩, by simp [intOf]; omega⟩
    · obtain rfl : i = hn' := by omega
      have HG : Hid (∃ se, PR wr 124 sp sn sc se (Ozs al y css zs i) ∧ Below w.heap.size w wr) := by
        obtain ⟨se, hS⟩ := G.out.s
        exact ⟨se, hS, G.out.b⟩
      clear G
      go_wp2
      go_ret
      obtain ⟨se, h1, h2⟩ := HG.out
      exact ⟨sp, sn, sc, se, rfl, h1, h2⟩
end Go.Proofs.YtifebbacnlhggaaGreatDoor
