/-
  ashlarref1.Neg, Sub.
-/
import Derived.Test.YtkjpeehbhmcojaaGreatDoorRkUiVq
import Derived.Test.YtkjpeehbhmcojaaGreatDoorYaYp
import Derived.Test.YtkjpeehbhmcojaaGreatDoorDcUjLeUk
import Derived.Deep.DeepFit
import Derived.Test.YtkjpeehbhmcojaaGreatDoorCyViDsAeVuWxUpUq
import Derived.Deep.CutRange
import Derived.Deep.RegionHeld3
import Derived.Test.YtkjpeehbhmcojaaGreatDoorHeVvCu
import Derived.Test.YtkjpeehbhmcojaaGreatDoorRmRpDkDlDbRiRjRg
import Derived.Test.YtkjpeehbhmcojaaGreatDoorInU0X0X1Y0X4
import Derived.Test.YtkjpeehbhmcojaaGreatDoorX3X6Y3DfFbFcFsTaTbTc
import Derived.Test.YtkjpeehbhmcojaaGreatDoorUoDmVtAfBpBnBoAhAdBsDtAgWvUhAiRzVd
import Derived.Test.YtkjpeehbhmcojaaGreatDoorOaOfJpCwDj
import Derived.Test.YtkjpeehbhmcojaaGreatDoorRtDhVeRsVfVcAjDqDrBmBqDuAkBrAlApAqNrNaHdNbFvOiDyEo
import Derived.Test.YtkjpeehbhmcojaaGreatDoorAbDnDoAcReRxRfRhCqRrRwVa
namespace Go.Proofs.YtkjpeehbhmcojaaGreatDoor
open Go.RowKit
set_option linter.unusedVariables false
set_option linter.unusedSimpArgs false
set_option maxHeartbeats 8000000
set_option maxRecDepth 100000 in
theorem rNeg_rn {w : World} {s : Bool} {p : Option Addr} {n : Nat} {xs : List Int} (h : RN w s p n xs) :
    Calls Tryz.prog 93 #[.agg #[.bool s, .slice p n n]] w fun e w' => ∃ s', e = .returned (.agg #[.bool s', .slice p n n]) ∧ RN w' s' p n xs ∧ Hid (rval s' xs = - rval s xs) ∧ Below w.heap.size w w' := by
  have hlt := h.lt
  have HL : Hid (0 < n → ∀ x, p = some x → x.block < w.heap.size) := hlt
  clear hlt
  have hsm := h.sml
  have htl := h.nrm
  have HT : Hid (tlen xs = n) := htl
  clear htl
  go_enter Tryz.func93, Tryz.ntmps93
  go_wp2_with fail
  have hb2 : Bx ((w.alloc (.cells #[.bool s, .slice p n n] 50)).alloc (.cells #[.bool false, .slice none 0 0] 50)) (w.heap.size + 1) (.bool false) (.slice none 0 0) := Bx.new _ _ _ (World.size_alloc ..).symm
  have hbw : Below w.heap.size w ((w.alloc (.cells #[.bool s, .slice p n n] 50)).alloc (.cells #[.bool false, .slice none 0 0] 50)) := ((Below.refl _ _).alloc (Nat.le_refl _) _).alloc (by simp) _
  generalize ((w.alloc (.cells #[.bool s, .slice p n n] 50)).alloc (.cells #[.bool false, .slice none 0 0] 50)) = W at *
  refine (rtrim_any (!s) p n n xs _ h.len (Nat.le_refl _) (by unfold maxLen; omega) (h.rd.below hbw)).mono ?_
  rw [HT.out]
  rintro e w4 ⟨rfl, hb4⟩
  obtain ⟨c0, c1, f0, f1⟩ := resbox hb4 hb2.c0 hb2.c1 hb2.f0 hb2.f1
  go_wp2
  refine bodyPost_ret (v := .agg #[.bool (nsg (!s) xs), .slice p n n]) (by simp [results, Tryz.results93, go_sem, c0, c1]) rfl ?_
  have hR : RN w4 (nsg (!s) xs) p n xs := ⟨h.len, (h.rd.below hbw).below hb4, h.u, h.nrm, fun h0 => by rw [nsg, if_pos (by rw [HT.out]; exact h0)], h.sml⟩
  refine ⟨_, rfl, (hR.set (fun hn x hx e => by have := HL.out hn x hx; simp at e; omega) _).set (fun hn x hx e => by have := HL.out hn x hx; simp at e; omega) _, ?_, ((bnext' hbw hb4).setCell (by simp) _).setCell (by simp) _⟩
  show rval _ xs = _
  have e := rval_nsg (!s) h.u
  rw [tr_self (by rw [HT.out, h.len]), rval_not] at e
  exact e
theorem rQuo_e {w : World} {N M : Nat} {x y : Int} {e f : Ent} (h : RE w N x e) (k : RE w M y f) (hy : y ≠ 0) (hd : y ∣ x) (hN : N ≤ 1000) (hM : M ≤ 1000) :
    Calls Tryz.prog 32 #[.agg #[.bool e.s, .slice e.p e.n e.c], .agg #[.bool f.s, .slice f.p f.n f.c]] w fun r w' => ∃ u v : Ent, r = .returned (.tuple #[.agg #[.bool u.s, .slice u.p u.n u.c], .agg #[.bool v.s, .slice v.p v.n v.c]]) ∧ RE w' N (x / y) u ∧ Go.Proofs.YtkjpeehbhmcojaaGreatDoor.From w.heap.size u.p ∧ Below w.heap.size w w' := by
  have hb := h.1.bd
  obtain ⟨⟨ds, h1, rfl, h3⟩, h4⟩ := h
  obtain ⟨⟨es, k1, rfl, k3⟩, k4⟩ := k
  rw [h4, k4]
  have hx : ∃ c, vd ds = c * vd es := by
    obtain ⟨c, hc⟩ := hd
    rw [rval_abs e.s h1.u, rval_abs f.s k1.u, hc, Int.natAbs_mul]
    exact ⟨(c.natAbs : Int), by push_cast; rw [Int.mul_comm]⟩
  have hm0 : 0 < f.n := by
    rcases Nat.eq_zero_or_pos f.n with h0 | h0
    · exfalso
      apply hy
      have : vd es = 0 := (tlen_zero_iff16 k1.u).1 (by rw [k1.nrm, h0])
      unfold rval
      split <;> omega
    · exact h0
  refine (rQuo_s e.s f.s e.p f.p e.n f.n ds es w h1 k1 (by omega) (by omega) hm0 hx).mono ?_
  rintro r w' ⟨s1, p1, n1, d1, p2, g1, g2, g3, g4, g5⟩
  have g6 : rval e.s ds / rval f.s es = rval s1 d1 := by rw [← g3, Int.mul_ediv_cancel _ hy]
  have hle : n1 ≤ N := g2.fit (by
    rw [← g6]
    have := Int.natAbs_ediv_le_natAbs (rval e.s ds) (rval f.s es)
    omega)
  rw [g6]
  exact ⟨⟨s1, p1, n1, n1⟩, ⟨false, p2, 0, 0⟩, g1, ⟨⟨d1, g2, rfl, hle⟩, rfl⟩, g4, g5⟩
structure UX (wr wc : World) (g1 N : Nat) (z : Int) (u : Ent) : Prop where
  b : Bx wc g1 (.bool u.s) (.slice u.p u.n u.c)
  r : RE wc N z u
  f : 0 < u.n → ∀ a, u.p = some a → wr.heap.size ≤ a.block
  bw : Below wr.heap.size wr wc
set_option maxRecDepth 100000 in
theorem rpUnder_any {w : World} {N M : Nat} {p : Option Addr} {n nc : Nat} {es0 : List Ent} {zs : List Int} {y : Int} {f : Ent} (h : PR w N p n nc es0 zs) (hf : RE w M y f) (hy : y ≠ 0) (hd : ∀ j, y ∣ gx zs j) (hn : n ≤ 100000) (hN : N ≤ 1000) (hM : M ≤ 1000) :
    Calls Tryz.prog 94 #[.slice p n nc, .agg #[.bool f.s, .slice f.p f.n f.c]] w (PrP (tr (zs.map (· / y))) N w) := by
  obtain ⟨i0, hi, hzz⟩ := Option.map_eq_some_iff.1 info_ref
  simp only [Prod.mk.injEq] at hzz
  obtain ⟨hz0, hz1, hz2⟩ := hzz
  have HI : Hid (Tryz.prog.info? 50 = some i0 ∧ i0.zero = some (.agg #[.bool false, .slice none 0 0]) ∧ i0.size = 2 ∧ i0.bytes = 32) := ⟨hi, hz0, hz1, hz2⟩
  have HX : Hid (PR w N p n nc es0 zs ∧ RE w M y f ∧ y ≠ 0 ∧ ∀ j, y ∣ gx zs j) := ⟨h, hf, hy, hd⟩
  have hel0 := h.el
  have hzl0 := h.zl
  have hvl : (zs.map (· / y)).length = n := by simp [hzl0]
  have hvg : ∀ j, gx (zs.map (· / y)) j = gx zs j / y := fun j => gx_map0 (· / y) (by simp) zs j
  generalize hvs : zs.map (· / y) = vs at *
  have HVS : Hid ((∀ j, gx vs j = gx zs j / y) ∧ vs.length = n) := ⟨hvg, hvl⟩
  clear h hf hy hd hi hz0 hz1 hz2 hvs hvg hvl
  go_enter Tryz.func94, Tryz.ntmps94
  go_wp2_with fail
  have hal0 := bel_al (o := .cells #[.bool f.s, .slice f.p f.n f.c] 50) (Below.refl w.heap.size w)
  have hX0 : Bx (w.alloc (.cells #[.bool f.s, .slice f.p f.n f.c] 50)) w.heap.size (.bool f.s) (.slice f.p f.n f.c) := Bx.new _ _ _ rfl
  have HS0 : Hid (Bx (w.alloc (.cells #[.bool f.s, .slice f.p f.n f.c] 50)) w.heap.size (.bool f.s) (.slice f.p f.n f.c) ∧ Below w.heap.size w (w.alloc (.cells #[.bool f.s, .slice f.p f.n f.c] 50))) := ⟨hX0, hal0⟩
  generalize w.alloc (.cells #[.bool f.s, .slice f.p f.n f.c] 50) = W0 at *
  clear hal0 hX0
  go_loopw [5, 6, 7, 8] (fun sv iv _ _ wr => ∃ (k : Nat) (es : List Ent), k ≤ n ∧ iv = .int .i64 k ∧ Hid (es.length = k ∧ LG (w.heap.size + 1) 50 (fun w z e => RE w N z e) wr sv es (vs.take k) ∧ Bx wr w.heap.size (.bool f.s) (.slice f.p f.n f.c) ∧ Below w.heap.size w wr)) (fun _ iv _ _ _ => n - (intOf iv).toNat)
  case atStart => exact ⟨0, [], Nat.zero_le _, by go_num, rfl, by rw [List.take_zero]; exact LG.nil _ _ _ _, HS0.out.1, HS0.out.2⟩
  case round =>
    obtain ⟨k, es, hk, rfl, H⟩ := hrel
    rcases Nat.lt_or_ge k n with hlt | hge
    · obtain ⟨hel, hLR, hbx, hB⟩ := H.out
      have hPR := HX.out.1.below hB
      obtain ⟨b, o, hp, hc⟩ := hPR.pl (by omega)
      subst hp
      obtain ⟨x0, x1⟩ := hc k (by omega)
      obtain ⟨d0, d1, -, -⟩ := id hbx
      have hx := hPR.ev k hlt
      have hy := HX.out.2.1.below hB
      have i1 : (k : Int) < (n : Int) := by omega
      have hq0 := HX.out.2.2.1
      have hq1 := HX.out.2.2.2 k
      clear hel hLR hB hc hPR hbx
      go_wp2_with fail
      go_cut [7, 8] from 9 to 27 (fun qv lv wc => ∃ (u : Ent) (g1 : Nat), qv = .pointer (some ⟨g1, 0, none⟩) ∧ Hid (UX wr wc g1 N (gx zs k / y) u))
      case first =>
        go_region_held3 (fun w' => w'.cell? ⟨b, o + k * 2, none⟩ = some (.bool (ge es0 k).s) ∧ w'.cell? ⟨b, o + k * 2 + 1, none⟩ = some (.slice (ge es0 k).p (ge es0 k).n (ge es0 k).c) ∧ w'.cell? ⟨w.heap.size, 0, none⟩ = some (.bool f.s) ∧ w'.cell? ⟨w.heap.size, 1, none⟩ = some (.slice f.p f.n f.c)) (first | with_reducible exact ⟨x0, x1, d0, d1⟩ | (refine keep4R ⟨x0, x1, d0, d1⟩ ?_; (repeat (first | (with_reducible exact hW1) | (with_reducible exact Below.refl _ _) | (refine Bel_al ?_ (Nat.le_refl _)) | (refine Bel_st ?_ ?_) | (refine Below.drew ?_))); all_goals ((try simp only [World.size_alloc]); (try dsimp only); omega)))
          ((go_at_call 32; go_fit (rQuo_e (hx.below (by first | exact (Below.refl _ _).drew | exact (bel_al (Below.refl _ _)).drew | exact (bel_al (bel_al (Below.refl _ _))).drew)) (hy.below (by first | exact (Below.refl _ _).drew | exact (bel_al (Below.refl _ _)).drew | exact (bel_al (bel_al (Below.refl _ _))).drew)) hq0 hq1 hN hM); rintro r v1 ⟨u, v, rfl, hN1, hF1', hb1⟩; have hF1 := unFr hF1'; clear hF1'; have hB1 := undrew hb1; have hW1 := comp (X2 := wr) (w2 := wr) (Below.refl _ _) (by (repeat apply bel_al); exact Below.refl _ _) hB1; obtain ⟨hc2, hf2, hz2, -, -⟩ := brules hB1; obtain ⟨o1, o2, o3, o4⟩ := bne hB1; have t1 := hW1.size; have t1b := hB1.size))
        all_goals (go_wp2_with fail; go_meet)
        all_goals
          refine ⟨u, _, rfl, ⟨?_, ?_, ?_, ?_⟩⟩
          · (repeat (first | exact Bx_new (by simp; done) | refine Bx_set (u := .bool false) (v := .slice none 0 0) ?_ | refine Bx_oth ?_ (by have h1 := t1; have h2 := t1b; (try simp only [World.size_alloc] at h1 h2); (try simp only [World.size_alloc]); (try dsimp only); omega) | apply Bx_al)); all_goals exact ⟨by simp [go_sem, *], by simp [go_sem, *], by simp [go_sem, *], by simp [go_sem, *]⟩
          · (repeat (first | apply RE_al | refine RE_st3 hF1 (by have h1 := t1; have h2 := t1b; (try simp only [World.size_alloc] at h1 h2); (try simp only [World.size_alloc]); (try dsimp only); omega) ?_ | refine RE_st2 hN1.lt (by have h1 := t1; have h2 := t1b; (try simp only [World.size_alloc] at h1 h2); (try simp only [World.size_alloc]); (try dsimp only); omega) ?_)); exact hN1
          · exact fun _ a ha => Nat.le_trans (by have h1 := t1; have h2 := t1b; (try simp only [World.size_alloc] at h1 h2); (try simp only [World.size_alloc]); (try dsimp only); omega) (hF1 a ha)
          · (repeat (first | exact hW1 | refine Bel_al ?_ (Nat.le_refl _) | refine Bel_st ?_ (by have h1 := t1; have h2 := t1b; (try simp only [World.size_alloc] at h1 h2); (try simp only [World.size_alloc]); (try dsimp only); omega)))
      case rest =>
        obtain ⟨u, g1, rfl, HU⟩ := hcut
        clear x0 x1 d0 d1 hx hy hq0 hq1
        obtain ⟨q0, q1, -, -⟩ := id HU.out.b
        have hb2 := HU.out.bw
        obtain ⟨hi, hz0, hz1, hz2⟩ := HI.out
        have hown0 := own_below H.out.2.1.own hb2
        rw [H.out.1] at hown0
        have HO : Hid (wc.ownsRow (w.heap.size + 1) 50 2 u5 k (fl es)) := hown0
        have hw1 : w.heap.size + 1 ≤ wr.heap.size := block_lt_of_cell H.out.2.2.1.c0
        have hsz : w.heap.size + 1 ≤ wc.heap.size := Nat.le_trans hw1 hb2.size
        clear hown0
        go_wp2_with (refine wpList_append_lies _ rfl _ _ 27 rfl (w.heap.size + 1) 50 i0 (.agg #[.bool false, .slice none 0 0]) 2 32 Tryz.underlying27 hi hz0 hz1 hz2 rfl (by decide) u5 k (fl es) rfl (HO.out.alloc _) ⟨wc.heap.size, 0, none⟩ 1 1 [.bool u.s, .slice u.p u.n u.c] rfl rfl ?_ (fun x hx => by simp at hx; rcases hx with rfl | rfl <;> rfl) (by decide) (by unfold maxLen; omega) (by omega) (by simp; omega) _ rfl ?_; exact World.news_of_block (heap_alloc_new wc _); intro g cap w3 hown3 hgrow3 hat3 hlt3; have hB3 : Below w.heap.size w w3 := ((bnext' H.out.2.2.2 hb2).alloc (by omega) _).grown hgrow3 (by simp; omega) (fun q hq => by have := (HO.out.lt q hq).1; omega); have hX3 : Bx w3 w.heap.size (.bool f.s) (.slice f.p f.n f.c) := Bx.kept ((H.out.2.2.1.later hb2).alloc _) hgrow3 (fun hq => by have := (HO.out.lt _ hq.symm).1; omega); have HA : Hid (LG (w.heap.size + 1) 50 (fun w z e => RE w N z e) w3 (.slice (some ⟨g, 0, none⟩) (k + 1) cap) (es ++ [u]) (vs.take k ++ [gx zs k / y])) := LG.app (lasts_RE N) H.out.1 H.out.2.1 hb2 HU.out.r (fun h0 a ha => .inr (HU.out.f h0 a ha)) hown3 hgrow3 hat3; clear hown3 hgrow3 hat3)
        refine ⟨⟨k + 1, es ++ [u], by omega, by go_num, by have := H.out.1; simp; omega, ?_, hX3, hB3⟩, by simp [intOf]; omega⟩
        rw [take_snocg vs k (by have := HVS.out.2; omega), HVS.out.1 k]
        exact HA.out
    · obtain rfl : k = n := by omega
      obtain ⟨hel, hLR, hbx, hB⟩ := H.out
      have hvl := HVS.out.2
      rw [List.take_of_length_le (by omega)] at hLR
      obtain ⟨q, cap, hv, hPR, hF⟩ := hLR.pr
      subst hv
      rw [hel] at hPR ⊢
      have HB : Hid (Below w.heap.size w wr) := hB
      clear H hLR hB hge hk hbx
      go_wp2_with fail
      refine (rTrim_any N q k cap es vs _ hPR (by omega)).mono ?_
      rintro e w1 ⟨rfl, hb1⟩
      have HP : Hid (PR wr N q k cap es vs) := hPR
      clear hPR
      go_wp2
      go_ret
      have htl := tlen_le vs
      have hcap := HP.out.cap
      have hT := (HP.out.below hb1).take (tlen vs) (tlen vs) (by omega) (Nat.le_refl _) (by omega)
      exact ⟨q, tlen vs, es.take (tlen vs), rfl, hT, fun a ha => Nat.le_of_succ_le (hF a ha), tlen_tr vs, bnext' HB.out hb1⟩
set_option maxRecDepth 100000 in
theorem rpScale_any {w : World} {N M : Nat} {p : Option Addr} {n nc : Nat} {es0 : List Ent} {zs : List Int} {y : Int} {f : Ent} (h : PR w N p n nc es0 zs) (hf : RE w M y f) (hn : n ≤ 100000) (hN : N ≤ 400) (hM : M ≤ 400) :
    Calls Tryz.prog 46 #[.slice p n nc, .agg #[.bool f.s, .slice f.p f.n f.c]] w (PrP (tr (zs.map (y * ·))) (M + N + 1) w) := by
  obtain ⟨i0, hi, hzz⟩ := Option.map_eq_some_iff.1 info_ref
  simp only [Prod.mk.injEq] at hzz
  obtain ⟨hz0, hz1, hz2⟩ := hzz
  have HI : Hid (Tryz.prog.info? 50 = some i0 ∧ i0.zero = some (.agg #[.bool false, .slice none 0 0]) ∧ i0.size = 2 ∧ i0.bytes = 32) := ⟨hi, hz0, hz1, hz2⟩
  have HX : Hid (PR w N p n nc es0 zs ∧ RE w M y f) := ⟨h, hf⟩
  have hel0 := h.el
  have hzl0 := h.zl
  have hvl : (zs.map (y * ·)).length = n := by simp [hzl0]
  have hvg : ∀ j, gx (zs.map (y * ·)) j = y * gx zs j := fun j => gx_map0 (y * ·) (by simp) zs j
  generalize hvs : zs.map (y * ·) = vs at *
  have HVS : Hid ((∀ j, gx vs j = y * gx zs j) ∧ vs.length = n) := ⟨hvg, hvl⟩
  clear h hf hi hz0 hz1 hz2 hvs hvg hvl
  go_enter Tryz.func46, Tryz.ntmps46
  go_wp2_with fail
  have hal0 := bel_al (o := .cells #[.bool f.s, .slice f.p f.n f.c] 50) (Below.refl w.heap.size w)
  have hX0 : Bx (w.alloc (.cells #[.bool f.s, .slice f.p f.n f.c] 50)) w.heap.size (.bool f.s) (.slice f.p f.n f.c) := Bx.new _ _ _ rfl
  have HS0 : Hid (Bx (w.alloc (.cells #[.bool f.s, .slice f.p f.n f.c] 50)) w.heap.size (.bool f.s) (.slice f.p f.n f.c) ∧ Below w.heap.size w (w.alloc (.cells #[.bool f.s, .slice f.p f.n f.c] 50))) := ⟨hX0, hal0⟩
  generalize w.alloc (.cells #[.bool f.s, .slice f.p f.n f.c] 50) = W0 at *
  clear hal0 hX0
  go_loopw [5, 6] (fun sv iv wr => ∃ (k : Nat) (es : List Ent), k ≤ n ∧ iv = .int .i64 k ∧ Hid (es.length = k ∧ LG (w.heap.size + 1) 50 (fun w z e => RE w (M + N + 1) z e) wr sv es (vs.take k) ∧ Bx wr w.heap.size (.bool f.s) (.slice f.p f.n f.c) ∧ Below w.heap.size w wr)) (fun _ iv _ => n - (intOf iv).toNat)
  case atStart => exact ⟨0, [], Nat.zero_le _, by go_num, rfl, by rw [List.take_zero]; exact LG.nil _ _ _ _, HS0.out.1, HS0.out.2⟩
  case round =>
    obtain ⟨k, es, hk, rfl, H⟩ := hrel
    rcases Nat.lt_or_ge k n with hlt | hge
    · obtain ⟨hel, hLR, hbx, hB⟩ := H.out
      have hPR := HX.out.1.below hB
      obtain ⟨b, o, hp, hc⟩ := hPR.pl (by omega)
      subst hp
      obtain ⟨x0, x1⟩ := hc k (by omega)
      obtain ⟨d0, d1, -, -⟩ := id hbx
      have HC : Hid (w.cell? ⟨b, o + k * 2, none⟩ = some (.bool (ge es0 k).s) ∧ w.cell? ⟨b, o + k * 2 + 1, none⟩ = some (.slice (ge es0 k).p (ge es0 k).n (ge es0 k).c)) := by
        obtain ⟨b', o', hb', hc'⟩ := HX.out.1.pl (by omega)
        cases hb'
        exact hc' k (by omega)
      have hx := hPR.ev k hlt
      have hy := HX.out.2.below hB
      have i1 : (k : Int) < (n : Int) := by omega
      have hw1 : w.heap.size + 1 ≤ wr.heap.size := block_lt_of_cell d0
      have hdr : Below wr.heap.size wr wr.drew := (Below.refl _ _).drew
      have hmu := rMul_e (hy.below hdr) (hx.below hdr) (by omega) (by omega)
      obtain ⟨hi, hz0, hz1, hz2⟩ := HI.out
      clear hel hLR hB hc hPR hbx
      go_upto_region 5 with fail
      go_region_held3 (fun w' => w'.cell? ⟨b, o + k * 2, none⟩ = some (.bool (ge es0 k).s) ∧ w'.cell? ⟨b, o + k * 2 + 1, none⟩ = some (.slice (ge es0 k).p (ge es0 k).n (ge es0 k).c) ∧ w'.cell? ⟨w.heap.size, 0, none⟩ = some (.bool f.s) ∧ w'.cell? ⟨w.heap.size, 1, none⟩ = some (.slice f.p f.n f.c)) (first | with_reducible exact ⟨x0, x1, d0, d1⟩ | with_reducible exact K3 | (refine keep4R ⟨x0, x1, d0, d1⟩ ?_; (repeat (first | (with_reducible exact hB1) | (with_reducible exact Below.refl _ _) | (refine Bel_al ?_ (Nat.le_refl _)) | (refine Below.drew ?_))); done))
        (first
          | (go_at_call 29; go_fit hmu; rintro r w1 ⟨u, rfl, hN1, hF1', hb1⟩; have hF1 := unFr hF1'; clear hF1'; have hB1 := undrew hb1; have hown0 := own_below H.out.2.1.own hB1; rw [H.out.1] at hown0; have HO : Hid (w1.ownsRow (w.heap.size + 1) 50 2 u5 k (fl es)) := hown0; clear hown0; have hsz : w.heap.size + 1 ≤ w1.heap.size := Nat.le_trans hw1 hB1.size)
          | (refine step_append_lies _ rfl _ _ 27 rfl (w.heap.size + 1) 50 i0 (.agg #[.bool false, .slice none 0 0]) 2 32 Tryz.underlying27 hi hz0 hz1 hz2 rfl (by decide) u5 k (fl es) rfl (HO.out.alloc _) ⟨w1.heap.size, 0, none⟩ 1 1 [.bool u.s, .slice u.p u.n u.c] rfl rfl ?_ (fun x hx => by simp at hx; rcases hx with rfl | rfl <;> rfl) (by decide) (by unfold maxLen; omega) (by omega) (by simp; omega) _ rfl ?_; exact World.news_of_block (heap_alloc_new w1 _); intro g cap w3 hown3 hgrow3 hat3 hlt3; have hB3 : Below w.heap.size w w3 := ((bnext' H.out.2.2.2 hB1).alloc (by omega) _).grown hgrow3 (by simp; omega) (fun q hq => by have := (HO.out.lt q hq).1; omega); have hX3 : Bx w3 w.heap.size (.bool f.s) (.slice f.p f.n f.c) := Bx.kept ((H.out.2.2.1.later hB1).alloc _) hgrow3 (fun hq => by have := (HO.out.lt _ hq.symm).1; omega); have K3 := And.intro (cell_later hB3 HC.out.1) (And.intro (cell_later hB3 HC.out.2) (And.intro hX3.c0 hX3.c1)); have HA : Hid (LG (w.heap.size + 1) 50 (fun w z e => RE w (M + N + 1) z e) w3 (.slice (some ⟨g, 0, none⟩) (k + 1) cap) (es ++ [u]) (vs.take k ++ [y * gx zs k])) := LG.app (lasts_RE _) H.out.1 H.out.2.1 hB1 hN1 (fun h0 a ha => .inr (hF1 a ha)) hown3 hgrow3 hat3; clear hown3 hgrow3 hat3))
      all_goals
        clear hmu hx hy hN1 x0 x1 d0 d1
        go_wp2
        refine ⟨⟨k + 1, es ++ [u], by omega, by go_num, by have := H.out.1; simp; omega, ?_, hX3, hB3⟩, by simp [intOf]; omega⟩
        rw [take_snocg vs k (by have := HVS.out.2; omega), HVS.out.1 k]
        exact HA.out
    · obtain rfl : k = n := by omega
      obtain ⟨hel, hLR, hbx, hB⟩ := H.out
      have hvl := HVS.out.2
      rw [List.take_of_length_le (by omega)] at hLR
      obtain ⟨q, cap, hv, hPR, hF⟩ := hLR.pr
      subst hv
      rw [hel] at hPR ⊢
      have HB : Hid (Below w.heap.size w wr) := hB
      clear H hLR hB hge hk hbx
      go_wp2_with fail
      refine (rTrim_any (M + N + 1) q k cap es vs _ hPR (by omega)).mono ?_
      rintro e w1 ⟨rfl, hb1⟩
      have HP : Hid (PR wr (M + N + 1) q k cap es vs) := hPR
      clear hPR
      go_wp2
      go_ret
      have htl := tlen_le vs
      have hcap := HP.out.cap
      have hT := (HP.out.below hb1).take (tlen vs) (tlen vs) (by omega) (Nat.le_refl _) (by omega)
      exact ⟨q, tlen vs, es.take (tlen vs), rfl, hT, fun a ha => Nat.le_of_succ_le (hF a ha), tlen_tr vs, bnext' HB.out hb1⟩
set_option maxRecDepth 100000 in
theorem rpSub_any {w : World} {N M : Nat} {p q : Option Addr} {n nc m mc : Nat} {es0 fs0 : List Ent} {zs ys : List Int} (h : PR w N p n nc es0 zs) (h' : PR w M q m mc fs0 ys) (hn : n ≤ 100000) (hm : m ≤ 100000) (hN : N ≤ 390) (hM : M ≤ 390) (hN4 : 4 ≤ N) :
    Calls Tryz.prog 36 #[.slice p n nc, .slice q m mc] w (PrP (tr (pz (· - ·) zs ys)) (N + M + 6) w) := by
  have HT := (show Hid (tr (pz (· + ·) zs (tr (ys.map (-1 * ·)))) = tr (pz (· - ·) zs ys)) from pz_sub zs ys)
  have hyl := h'.zl
  go_enter Tryz.func36, Tryz.ntmps36
  go_wp2_with fail
  refine (rOf_n (-1) _ (by decide) (by decide)).mono ?_
  rintro e w1 ⟨u, rfl, hu, hF, hb1⟩
  go_wp2_with fail
  refine (rpScale_any (h'.below hb1) hu hm (by omega) (by decide)).mono ?_
  rintro e w2 ⟨p2, n2, es2, rfl, h2, hF2, hn2, hb2⟩
  have hn2' : n2 ≤ 100000 := by
    have h3 := h2.zl
    rw [length_tr] at h3
    have h4 := tlen_le (ys.map (-1 * ·))
    rw [List.length_map] at h4
    omega
  go_wp2_with fail
  refine (rpAdd_any (h.below (bnext' hb1 hb2)) h2 hn hn2' (by omega) (by omega) hN4 (by omega)).mono ?_
  rintro e w3 ⟨p3, n3, es3, rfl, h3, hF3, hn3, hb3⟩
  have HP : Hid (PR w3 (N + M + 6) p3 n3 n3 es3 (tr (pz (· - ·) zs ys)) ∧ tlen (tr (pz (· - ·) zs ys)) = n3) := by
    rw [HT.out] at h3 hn3
    exact ⟨⟨h3.el, h3.zl, h3.cap, h3.bnd, h3.pl, fun j hj => (h3.ev j hj).wide (by omega)⟩, hn3⟩
  have hs := (bnext' hb1 hb2).size
  have hB := bnext' (bnext' hb1 hb2) hb3
  clear h3 hn3 h2 hu h h'
  go_wp2
  go_ret
  exact ⟨p3, n3, es3, rfl, HP.out.1, fun a ha => Nat.le_trans hs (hF3 a ha), HP.out.2, hB⟩
theorem RE.fit' {w : World} {N M : Nat} {z : Int} {e : Ent} (h : RE w N z e) (hz : (z.natAbs : Int) < pw M) : RE w (2 * M) z e := by
  obtain ⟨⟨ds, h1, h2, h3⟩, h4⟩ := h
  subst h2
  exact ⟨⟨ds, h1, rfl, h1.fit (by rw [pd_two]; exact hz)⟩, h4⟩
theorem PR.fit {w : World} {N M : Nat} {p : Option Addr} {n nc : Nat} {es : List Ent} {zs : List Int} (h : PR w N p n nc es zs) (hz : ∀ t, ((gx zs t).natAbs : Int) < pw M) : PR w (2 * M) p n nc es zs :=
  ⟨h.el, h.zl, h.cap, h.bnd, h.pl, fun j hj => (h.ev j hj).fit' (hz j)⟩
def slLen : Value → Nat
  | .slice _ n _ => n
  | _ => 0
def mono (d : Nat) (c : Int) : List Int := zeros d ++ [c]
theorem length_mono (d : Nat) (c : Int) : (mono d c).length = d + 1 := by simp [mono, zeros]
theorem gx_mono (d : Nat) (c : Int) (t : Nat) : gx (mono d c) t = if t = d then c else 0 := by
  have hl : (zeros d).length = d := length_zeros d
  rw [mono]
  rcases Nat.lt_or_ge t d with h | h
  · rw [gx_append_left _ _ _ (by omega), gx_zeros, if_neg (by omega)]
  · rw [gx_append_right _ _ _ (by omega), hl]
    by_cases h1 : t = d
    · subst h1; rw [Nat.sub_self, if_pos rfl]; rfl
    · rw [if_neg h1]
      exact gx_past [c] 1 (Nat.le_refl _) _ (by omega)
theorem mono_nrm {d : Nat} {c : Int} (h : c ≠ 0) : tlen (mono d c) = d + 1 := tlen_eq _ _ (fun j hj => gx_past _ (d + 1) (by rw [length_mono]; exact Nat.le_refl _) j hj) (.inr (by rw [Nat.add_sub_cancel, gx_mono, if_pos rfl]; exact h))
theorem rTo_e {w : World} {N K : Nat} {z : Int} {e : Ent} (h : RE w N z e) (hN : N ≤ 1000) (hK : N ≤ 2 * K) :
    Calls Tryz.prog 27 #[.agg #[.bool e.s, .slice e.p e.n e.c]] w fun r w' => ∃ u : Ent, r = .returned (.agg #[.bool u.s, .slice u.p u.n u.c]) ∧ EV w' K z u ∧ Go.Proofs.YtkjpeehbhmcojaaGreatDoor.From w.heap.size u.p ∧ Below w.heap.size w w' := by
  obtain ⟨⟨ds, h1, h2, h3⟩, h4⟩ := h
  refine (rTo_anyF e.s e.p e.n e.c ds w h1.len (by omega) h1.rd h1.u).mono ?_
  rintro r w' ⟨p', m, cap, g1, g2, g3, g4, g5⟩
  have hm := g3.out
  refine ⟨⟨e.s, p', m, cap⟩, g1, ⟨jn ds m, g2, ?_, by show m ≤ K; omega⟩, g4, g5⟩
  show ival e.s (jn ds m) = z
  rw [← h2, ival, rval, val_jn, List.take_of_length_le (by rw [h1.len]; omega)]
def ToP (zs : List Int) (K : Nat) (w : World) (e : Ending) (w' : World) : Prop :=
  ∃ q m mc fs, e = .returned (.slice q m mc) ∧ PA w' K q m mc fs zs ∧ Below w.heap.size w w'
set_option maxRecDepth 100000 in
theorem rpTo_any {w : World} {N K : Nat} {p : Option Addr} {n nc : Nat} {es0 : List Ent} {zs : List Int} (h : PR w N p n nc es0 zs) (hn : n ≤ 100000) (hN : N ≤ 1000) (hK : N ≤ 2 * K) :
    Calls Tryz.prog 9 #[.slice p n nc] w (ToP zs K w) := by
  obtain ⟨i0, hi, hzz⟩ := Option.map_eq_some_iff.1 info_apiI
  simp only [Prod.mk.injEq] at hzz
  obtain ⟨hz0, hz1, hz2⟩ := hzz
  have HI : Hid (Tryz.prog.info? 47 = some i0 ∧ i0.zero = some (.agg #[.bool false, .slice none 0 0]) ∧ i0.size = 2 ∧ i0.bytes = 32) := ⟨hi, hz0, hz1, hz2⟩
  have HX : Hid (PR w N p n nc es0 zs) := h
  have hzl := h.zl
  clear h hi hz0 hz1 hz2
  go_enter Tryz.func9, Tryz.ntmps9
  go_wp2_with fail
  go_loopw [3, 4] (fun qv iv wr => ∃ (k : Nat) (es : List Ent), k ≤ n ∧ iv = .int .i64 k ∧ Hid (es.length = k ∧ LG w.heap.size 47 (fun w z e => EV w K z e) wr qv es (zs.take k) ∧ Below w.heap.size w wr)) (fun _ iv _ => n - (intOf iv).toNat)
  case atStart => exact ⟨0, [], Nat.zero_le _, by go_num, rfl, by rw [List.take_zero]; exact LG.nil _ _ _ _, Below.refl _ _⟩
  case round =>
    obtain ⟨k, es, hk, rfl, H⟩ := hrel
    rcases Nat.lt_or_ge k n with hlt | hge
    · obtain ⟨hel, hLR, hB⟩ := H.out
      have hPR := HX.out.below hB
      obtain ⟨b, o, hp, hc⟩ := hPR.pl (by rw [hPR.el]; omega)
      subst hp
      obtain ⟨c0, c1⟩ := hc k (by rw [hPR.el]; omega)
      have hto := rTo_e (hPR.ev k hlt) hN hK
      clear hel hLR hB hc hPR
      go_wp2_with fail
      refine hto.mono ?_
      rintro e w1 ⟨u, rfl, hu, hF1, hb1⟩
      clear c0 c1 hto
      obtain ⟨hi, hz0, hz1, hz2⟩ := HI.out
      have hown0 := own_below H.out.2.1.own hb1
      rw [H.out.1] at hown0
      have HO : Hid (w1.ownsRow w.heap.size 47 2 u3 k (fl es)) := hown0
      have hsz : w.heap.size ≤ w1.heap.size := Nat.le_trans H.out.2.2.size hb1.size
      have HE : Hid (EV w1 K (gx zs k) u) := hu
      clear hown0 hu
      go_wp2_with (refine wpList_append_lies _ rfl _ _ 23 rfl w.heap.size 47 i0 (.agg #[.bool false, .slice none 0 0]) 2 32 Tryz.underlying23 hi hz0 hz1 hz2 rfl (by decide) u3 k (fl es) rfl (HO.out.alloc _) ⟨w1.heap.size, 0, none⟩ 1 1 [.bool u.s, .slice u.p u.n u.c] rfl rfl ?_ (fun x hx => by simp at hx; rcases hx with rfl | rfl <;> rfl) (by decide) (by unfold maxLen; omega) (by omega) (by simp; omega) _ rfl ?_; exact World.news_of_block (heap_alloc_new w1 _); intro g cap w3 hown3 hgrow3 hat3 hlt3; have hB3 : Below w.heap.size w w3 := ((bnext' H.out.2.2 hb1).alloc hsz _).grown hgrow3 (by simp; omega) (fun q hq => (HO.out.lt q hq).1); have HA : Hid (LG w.heap.size 47 (fun w z e => EV w K z e) w3 (.slice (some ⟨g, 0, none⟩) (k + 1) cap) (es ++ [u]) (zs.take k ++ [gx zs k])) := LG.app (lasts_EV K) H.out.1 H.out.2.1 hb1 HE.out (fun h0 a ha => .inr (hF1 a ha)) hown3 hgrow3 hat3; clear hown3 hgrow3 hat3)
      refine ⟨⟨k + 1, es ++ [u], by omega, by go_num, by have := H.out.1; simp; omega, by rw [take_snocg zs k (by omega)]; exact HA.out, hB3⟩, by simp [intOf]; omega⟩
    · obtain rfl : k = n := by omega
      obtain ⟨hel, hLR, hB⟩ := H.out
      rw [List.take_of_length_le (by omega)] at hLR
      obtain ⟨q, cap, hv, hc1, hc2, hPL, hF, hpn⟩ := hLR.pl
      have hev := hLR.ev
      subst hv
      rw [hel] at hev hc1 ⊢
      have HR : Hid (ToP zs K w (.returned (.slice q k cap)) wr) := ⟨q, _, cap, es, rfl, ⟨hel, hzl, hc1, hc2, hpn, hPL, hev⟩, hB⟩
      clear H hLR hev hPL hF hB hge
      go_wp2
      go_ret
      exact HR.out
end Go.Proofs.YtkjpeehbhmcojaaGreatDoor
