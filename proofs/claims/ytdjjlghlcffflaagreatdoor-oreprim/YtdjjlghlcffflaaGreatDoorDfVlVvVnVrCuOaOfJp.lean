/-
  Plain: sizes of powers and products.
-/
import Derived.Test.YtdjjlghlcffflaaGreatDoorUwUyInU0TaTbTc
import Derived.Test.YtdjjlghlcffflaaGreatDoorYpRn
import Derived.Test.YtdjjlghlcffflaaGreatDoorCyViDsAeVuWxUpUqRm
import Derived.Deep.CutRange
import Derived.Deep.RegionHeld3
import Derived.Test.YtdjjlghlcffflaaGreatDoorRpDkDlDbRiRjRgRkUi
import Derived.Test.YtdjjlghlcffflaaGreatDoorVqDcUjLeUkWi
import Derived.Test.YtdjjlghlcffflaaGreatDoorWkWlBxBbCvNjUbUcUdOwRaWmBe
import Derived.Test.YtdjjlghlcffflaaGreatDoorPlMmWaWbWc
import Derived.Test.YtdjjlghlcffflaaGreatDoorProg
import Derived.ProofKit
import Derived.OpenShut
import Derived.Lib.SmallJoins
import Derived.Lay
import Derived.LaidOnce
import Derived.SevenTiedAt
import Derived.Test.YtdjjlghlcffflaaGreatDoorUaVgOnWhPn
import Derived.Deep.SlicePairs
namespace Go.Proofs.YtdjjlghlcffflaaGreatDoor
open Go.RowKit
set_option linter.unusedVariables false
set_option linter.unusedSimpArgs false
set_option maxHeartbeats 8000000
theorem term_lt {a b : Int} {i j : Nat} (h : (a.natAbs : Int) < pw i) (k : (b.natAbs : Int) < pw j) : ((a * b).natAbs : Int) < pw (i + j) := by
  rw [Int.natAbs_mul, pw_add]
  push_cast
  have h1 := pw_pos i
  have h2 := pw_pos j
  have h3 : (a.natAbs : Int) * (b.natAbs : Int) ≤ (a.natAbs : Int) * pw j := Int.mul_le_mul_of_nonneg_left (by omega) (by omega)
  have h4 : (a.natAbs : Int) * pw j < pw i * pw j := Int.mul_lt_mul_of_pos_right h h2
  omega
theorem rQuo_e {w : World} {N M : Nat} {x y : Int} {e f : Ent} (h : RE w N x e) (k : RE w M y f) (hy : y ≠ 0) (hd : y ∣ x) (hN : N ≤ 1000) (hM : M ≤ 1000) :
    Calls Tryz.prog 91 #[.agg #[.bool e.s, .slice e.p e.n e.c], .agg #[.bool f.s, .slice f.p f.n f.c]] w fun r w' => ∃ u v : Ent, r = .returned (.tuple #[.agg #[.bool u.s, .slice u.p u.n u.c], .agg #[.bool v.s, .slice v.p v.n v.c]]) ∧ RE w' N (x / y) u ∧ Go.Proofs.YtdjjlghlcffflaaGreatDoor.From w.heap.size u.p ∧ Below w.heap.size w w' := by
  have hb := h.1.bd
  obtain ⟨⟨ds, h1, rfl, h3⟩, h4⟩ := h
  obtain ⟨⟨es, k1, rfl, k3⟩, k4⟩ := k
  rw [h4, k4]
  have hx : ∃ c, vd ds = c * vd es := by
    obtain ⟨c, hc⟩ := hd
    rw [rval_abs e.s h1.u, rval_abs f.s k1.u, hc, Int.natAbs_mul]
    exact ⟨(c.natAbs : Int), by push_cast; rw [Int.mul_comm]⟩
  have hm0 : 0 < f.n := by
    rcases Nat.eq_zero_or_pos f.n with h0 | h0
    · exfalso
      apply hy
      have : vd es = 0 := (tlen_zero_iff16 k1.u).1 (by rw [k1.nrm, h0])
      unfold rval
      split <;> omega
    · exact h0
  refine (rQuo_s e.s f.s e.p f.p e.n f.n ds es w h1 k1 (by omega) (by omega) hm0 hx).mono ?_
  rintro r w' ⟨s1, p1, n1, d1, p2, g1, g2, g3, g4, g5⟩
  have g6 : rval e.s ds / rval f.s es = rval s1 d1 := by rw [← g3, Int.mul_ediv_cancel _ hy]
  have hle : n1 ≤ N := g2.fit (by
    rw [← g6]
    have := Int.natAbs_ediv_le_natAbs (rval e.s ds) (rval f.s es)
    omega)
  rw [g6]
  exact ⟨⟨s1, p1, n1, n1⟩, ⟨false, p2, 0, 0⟩, g1, ⟨⟨d1, g2, rfl, hle⟩, rfl⟩, g4, g5⟩
structure UX (wr wc : World) (g1 N : Nat) (z : Int) (u : Ent) : Prop where
  b : Bx wc g1 (.bool u.s) (.slice u.p u.n u.c)
  r : RE wc N z u
  f : 0 < u.n → ∀ a, u.p = some a → wr.heap.size ≤ a.block
  bw : Below wr.heap.size wr wc
set_option maxRecDepth 100000 in
theorem rpUnder_any {w : World} {N M : Nat} {p : Option Addr} {n nc : Nat} {es0 : List Ent} {zs : List Int} {y : Int} {f : Ent} (h : PR w N p n nc es0 zs) (hf : RE w M y f) (hy : y ≠ 0) (hd : ∀ j, y ∣ gx zs j) (hn : n ≤ 100000) (hN : N ≤ 1000) (hM : M ≤ 1000) :
    Calls Tryz.prog 145 #[.slice p n nc, .agg #[.bool f.s, .slice f.p f.n f.c]] w (PrP (tr (zs.map (· / y))) N w) := by
  obtain ⟨i0, hi, hzz⟩ := Option.map_eq_some_iff.1 info_ref
  simp only [Prod.mk.injEq] at hzz
  obtain ⟨hz0, hz1, hz2⟩ := hzz
  have HI : Hid (Tryz.prog.info? 65 = some i0 ∧ i0.zero = some (.agg #[.bool false, .slice none 0 0]) ∧ i0.size = 2 ∧ i0.bytes = 32) := ⟨hi, hz0, hz1, hz2⟩
  have HX : Hid (PR w N p n nc es0 zs ∧ RE w M y f ∧ y ≠ 0 ∧ ∀ j, y ∣ gx zs j) := ⟨h, hf, hy, hd⟩
  have hel0 := h.el
  have hzl0 := h.zl
  have hvl : (zs.map (· / y)).length = n := by simp [hzl0]
  have hvg : ∀ j, gx (zs.map (· / y)) j = gx zs j / y := fun j => gx_map0 (· / y) (by simp) zs j
  generalize hvs : zs.map (· / y) = vs at *
  have HVS : Hid ((∀ j, gx vs j = gx zs j / y) ∧ vs.length = n) := ⟨hvg, hvl⟩
  clear h hf hy hd hi hz0 hz1 hz2 hvs hvg hvl
  go_enter Tryz.func145, Tryz.ntmps145
  go_wp2_with fail
  have hal0 := bel_al (o := .cells #[.bool f.s, .slice f.p f.n f.c] 65) (Below.refl w.heap.size w)
  have hX0 : Bx (w.alloc (.cells #[.bool f.s, .slice f.p f.n f.c] 65)) w.heap.size (.bool f.s) (.slice f.p f.n f.c) := Bx.new _ _ _ rfl
  have HS0 : Hid (Bx (w.alloc (.cells #[.bool f.s, .slice f.p f.n f.c] 65)) w.heap.size (.bool f.s) (.slice f.p f.n f.c) ∧ Below w.heap.size w (w.alloc (.cells #[.bool f.s, .slice f.p f.n f.c] 65))) := ⟨hX0, hal0⟩
  generalize w.alloc (.cells #[.bool f.s, .slice f.p f.n f.c] 65) = W0 at *
  clear hal0 hX0
  go_loopw [5, 6, 7, 8] (fun sv iv _ _ wr => ∃ (k : Nat) (es : List Ent), k ≤ n ∧ iv = .int .i64 k ∧ Hid (es.length = k ∧ LG (w.heap.size + 1) 65 (fun w z e => RE w N z e) wr sv es (vs.take k) ∧ Bx wr w.heap.size (.bool f.s) (.slice f.p f.n f.c) ∧ Below w.heap.size w wr)) (fun _ iv _ _ _ => n - (intOf iv).toNat)
  case atStart => exact ⟨0, [], Nat.zero_le _, by go_num, rfl, by rw [List.take_zero]; exact LG.nil _ _ _ _, HS0.out.1, HS0.out.2⟩
  case round =>
    obtain ⟨k, es, hk, rfl, H⟩ := hrel
    rcases Nat.lt_or_ge k n with hlt | hge
    · obtain ⟨hel, hLR, hbx, hB⟩ := H.out
      have hPR := HX.out.1.below hB
      obtain ⟨b, o, hp, hc⟩ := hPR.pl (by omega)
      subst hp
      obtain ⟨x0, x1⟩ := hc k (by omega)
      obtain ⟨d0, d1, -, -⟩ := id hbx
      have hx := hPR.ev k hlt
      have hy := HX.out.2.1.below hB
      have i1 : (k : Int) < (n : Int) := by omega
      have hq0 := HX.out.2.2.1
      have hq1 := HX.out.2.2.2 k
      clear hel hLR hB hc hPR hbx
      go_wp2_with fail
      go_cut [7, 8] from 9 to 27 (fun qv lv wc => ∃ (u : Ent) (g1 : Nat), qv = .pointer (some ⟨g1, 0, none⟩) ∧ Hid (UX wr wc g1 N (gx zs k / y) u))
      case first =>
        go_region_held3 (fun w' => w'.cell? ⟨b, o + k * 2, none⟩ = some (.bool (ge es0 k).s) ∧ w'.cell? ⟨b, o + k * 2 + 1, none⟩ = some (.slice (ge es0 k).p (ge es0 k).n (ge es0 k).c) ∧ w'.cell? ⟨w.heap.size, 0, none⟩ = some (.bool f.s) ∧ w'.cell? ⟨w.heap.size, 1, none⟩ = some (.slice f.p f.n f.c)) (first | with_reducible exact ⟨x0, x1, d0, d1⟩ | (refine keep4R ⟨x0, x1, d0, d1⟩ ?_; (repeat (first | (with_reducible exact hW1) | (with_reducible exact Below.refl _ _) | (refine Bel_al ?_ (Nat.le_refl _)) | (refine Bel_st ?_ ?_) | (refine Below.drew ?_))); all_goals ((try simp only [World.size_alloc]); (try dsimp only); omega)))
          ((go_at_call 91; go_fit (rQuo_e (hx.below (by first | exact (Below.refl _ _).drew | exact (bel_al (Below.refl _ _)).drew | exact (bel_al (bel_al (Below.refl _ _))).drew)) (hy.below (by first | exact (Below.refl _ _).drew | exact (bel_al (Below.refl _ _)).drew | exact (bel_al (bel_al (Below.refl _ _))).drew)) hq0 hq1 hN hM); rintro r v1 ⟨u, v, rfl, hN1, hF1', hb1⟩; have hF1 := unFr hF1'; clear hF1'; have hB1 := undrew hb1; have hW1 := comp (X2 := wr) (w2 := wr) (Below.refl _ _) (by (repeat apply bel_al); exact Below.refl _ _) hB1; obtain ⟨hc2, hf2, hz2, -, -⟩ := brules hB1; obtain ⟨o1, o2, o3, o4⟩ := bne hB1; have t1 := hW1.size; have t1b := hB1.size))
        all_goals (go_wp2_with fail; go_meet)
        all_goals
          refine ⟨u, _, rfl, ⟨?_, ?_, ?_, ?_⟩⟩
          · (repeat (first | exact Bx_new (by simp; done) | refine Bx_set (u := .bool false) (v := .slice none 0 0) ?_ | refine Bx_oth ?_ (by have h1 := t1; have h2 := t1b; (try simp only [World.size_alloc] at h1 h2); (try simp only [World.size_alloc]); (try dsimp only); omega) | apply Bx_al)); all_goals exact ⟨by simp [go_sem, *], by simp [go_sem, *], by simp [go_sem, *], by simp [go_sem, *]⟩
          · (repeat (first | apply RE_al | refine RE_st3 hF1 (by have h1 := t1; have h2 := t1b; (try simp only [World.size_alloc] at h1 h2); (try simp only [World.size_alloc]); (try dsimp only); omega) ?_ | refine RE_st2 hN1.lt (by have h1 := t1; have h2 := t1b; (try simp only [World.size_alloc] at h1 h2); (try simp only [World.size_alloc]); (try dsimp only); omega) ?_)); exact hN1
          · exact fun _ a ha => Nat.le_trans (by have h1 := t1; have h2 := t1b; (try simp only [World.size_alloc] at h1 h2); (try simp only [World.size_alloc]); (try dsimp only); omega) (hF1 a ha)
          · (repeat (first | exact hW1 | refine Bel_al ?_ (Nat.le_refl _) | refine Bel_st ?_ (by have h1 := t1; have h2 := t1b; (try simp only [World.size_alloc] at h1 h2); (try simp only [World.size_alloc]); (try dsimp only); omega)))
      case rest =>
        obtain ⟨u, g1, rfl, HU⟩ := hcut
        clear x0 x1 d0 d1 hx hy hq0 hq1
        obtain ⟨q0, q1, -, -⟩ := id HU.out.b
        have hb2 := HU.out.bw
        obtain ⟨hi, hz0, hz1, hz2⟩ := HI.out
        have hown0 := own_below H.out.2.1.own hb2
        rw [H.out.1] at hown0
        have HO : Hid (wc.ownsRow (w.heap.size + 1) 65 2 u5 k (fl es)) := hown0
        have hw1 : w.heap.size + 1 ≤ wr.heap.size := block_lt_of_cell H.out.2.2.1.c0
        have hsz : w.heap.size + 1 ≤ wc.heap.size := Nat.le_trans hw1 hb2.size
        clear hown0
        go_wp2_with (refine wpList_append_lies _ rfl _ _ 31 rfl (w.heap.size + 1) 65 i0 (.agg #[.bool false, .slice none 0 0]) 2 32 Tryz.underlying31 hi hz0 hz1 hz2 rfl (by decide) u5 k (fl es) rfl (HO.out.alloc _) ⟨wc.heap.size, 0, none⟩ 1 1 [.bool u.s, .slice u.p u.n u.c] rfl rfl ?_ (fun x hx => by simp at hx; rcases hx with rfl | rfl <;> rfl) (by decide) (by unfold maxLen; omega) (by omega) (by simp; omega) _ rfl ?_; exact World.news_of_block (heap_alloc_new wc _); intro g cap w3 hown3 hgrow3 hat3 hlt3; have hB3 : Below w.heap.size w w3 := ((bnext' H.out.2.2.2 hb2).alloc (by omega) _).grown hgrow3 (by simp; omega) (fun q hq => by have := (HO.out.lt q hq).1; omega); have hX3 : Bx w3 w.heap.size (.bool f.s) (.slice f.p f.n f.c) := Bx.kept ((H.out.2.2.1.later hb2).alloc _) hgrow3 (fun hq => by have := (HO.out.lt _ hq.symm).1; omega); have HA : Hid (LG (w.heap.size + 1) 65 (fun w z e => RE w N z e) w3 (.slice (some ⟨g, 0, none⟩) (k + 1) cap) (es ++ [u]) (vs.take k ++ [gx zs k / y])) := LG.app (lasts_RE N) H.out.1 H.out.2.1 hb2 HU.out.r (fun h0 a ha => .inr (HU.out.f h0 a ha)) hown3 hgrow3 hat3; clear hown3 hgrow3 hat3)
        refine ⟨⟨k + 1, es ++ [u], by omega, by go_num, by have := H.out.1; simp; omega, ?_, hX3, hB3⟩, by simp [intOf]; omega⟩
        rw [take_snocg vs k (by have := HVS.out.2; omega), HVS.out.1 k]
        exact HA.out
    · obtain rfl : k = n := by omega
      obtain ⟨hel, hLR, hbx, hB⟩ := H.out
      have hvl := HVS.out.2
      rw [List.take_of_length_le (by omega)] at hLR
      obtain ⟨q, cap, hv, hPR, hF⟩ := hLR.pr
      subst hv
      rw [hel] at hPR ⊢
      have HB : Hid (Below w.heap.size w wr) := hB
      clear H hLR hB hge hk hbx
      go_wp2_with fail
      refine (rTrim_any N q k cap es vs _ hPR (by omega)).mono ?_
      rintro e w1 ⟨rfl, hb1⟩
      have HP : Hid (PR wr N q k cap es vs) := hPR
      clear hPR
      go_wp2
      go_ret
      have htl := tlen_le vs
      have hcap := HP.out.cap
      have hT := (HP.out.below hb1).take (tlen vs) (tlen vs) (by omega) (Nat.le_refl _) (by omega)
      exact ⟨q, tlen vs, es.take (tlen vs), rfl, hT, fun a ha => Nat.le_of_succ_le (hF a ha), tlen_tr vs, bnext' HB.out hb1⟩
set_option maxRecDepth 100000 in
theorem rpLead_in {w : World} {N : Nat} {p : Option Addr} {n nc : Nat} {es : List Ent} {zs : List Int} (h : PR w N p n nc es zs) (hn1 : 1 ≤ n) (hn : n ≤ 1000000) :
    Calls Tryz.prog 45 #[.slice p n nc] w fun r w' => r = .returned (.agg #[.bool (ge es (n - 1)).s, .slice (ge es (n - 1)).p (ge es (n - 1)).n (ge es (n - 1)).c]) ∧ Below w.heap.size w w' := by
  obtain ⟨i, hi⟩ : ∃ i, i = n - 1 := ⟨_, rfl⟩
  rw [← hi]
  have hal := bel_al (o := .cells #[.bool false, .slice none 0 0] 65) (Below.refl w.heap.size w)
  have hX : Bx (w.alloc (.cells #[.bool false, .slice none 0 0] 65)) w.heap.size (.bool false) (.slice none 0 0) := Bx.new _ _ _ rfl
  have ha := rpAt_in (h.below hal) i (by omega) hn
  have i1 : (n : Int) - 1 = (i : Int) := by omega
  have i2 : IntKind.i64.wrap (i : Int) = (i : Int) := by rw [IntKind.wrap_i64]; omega
  clear h hi
  go_enter Tryz.func45, Tryz.ntmps45
  go_upto_region 1 with fail
  generalize w.alloc (.cells #[.bool false, .slice none 0 0] 65) = W at *
  go_wp2_with fail
  refine ha.mono ?_
  rintro r w1 ⟨rfl, hb1⟩
  obtain ⟨r0, r1, f0, f1⟩ := hX.later hb1
  clear ha hX
  go_wp2
  refine bodyPost_ret (v := .agg #[.bool (ge es i).s, .slice (ge es i).p (ge es i).n (ge es i).c]) (by simp [results, Tryz.results45, go_sem, r0, r1]) rfl ⟨rfl, ?_⟩
  exact bset2 (bnext' hal hb1) (Nat.le_refl _) _ _
set_option maxRecDepth 100000 in
theorem rpScale_any {w : World} {N M : Nat} {p : Option Addr} {n nc : Nat} {es0 : List Ent} {zs : List Int} {y : Int} {f : Ent} (h : PR w N p n nc es0 zs) (hf : RE w M y f) (hn : n ≤ 100000) (hN : N ≤ 400) (hM : M ≤ 400) :
    Calls Tryz.prog 89 #[.slice p n nc, .agg #[.bool f.s, .slice f.p f.n f.c]] w (PrP (tr (zs.map (y * ·))) (M + N + 1) w) := by
  obtain ⟨i0, hi, hzz⟩ := Option.map_eq_some_iff.1 info_ref
  simp only [Prod.mk.injEq] at hzz
  obtain ⟨hz0, hz1, hz2⟩ := hzz
  have HI : Hid (Tryz.prog.info? 65 = some i0 ∧ i0.zero = some (.agg #[.bool false, .slice none 0 0]) ∧ i0.size = 2 ∧ i0.bytes = 32) := ⟨hi, hz0, hz1, hz2⟩
  have HX : Hid (PR w N p n nc es0 zs ∧ RE w M y f) := ⟨h, hf⟩
  have hel0 := h.el
  have hzl0 := h.zl
  have hvl : (zs.map (y * ·)).length = n := by simp [hzl0]
  have hvg : ∀ j, gx (zs.map (y * ·)) j = y * gx zs j := fun j => gx_map0 (y * ·) (by simp) zs j
  generalize hvs : zs.map (y * ·) = vs at *
  have HVS : Hid ((∀ j, gx vs j = y * gx zs j) ∧ vs.length = n) := ⟨hvg, hvl⟩
  clear h hf hi hz0 hz1 hz2 hvs hvg hvl
  go_enter Tryz.func89, Tryz.ntmps89
  go_wp2_with fail
  have hal0 := bel_al (o := .cells #[.bool f.s, .slice f.p f.n f.c] 65) (Below.refl w.heap.size w)
  have hX0 : Bx (w.alloc (.cells #[.bool f.s, .slice f.p f.n f.c] 65)) w.heap.size (.bool f.s) (.slice f.p f.n f.c) := Bx.new _ _ _ rfl
  have HS0 : Hid (Bx (w.alloc (.cells #[.bool f.s, .slice f.p f.n f.c] 65)) w.heap.size (.bool f.s) (.slice f.p f.n f.c) ∧ Below w.heap.size w (w.alloc (.cells #[.bool f.s, .slice f.p f.n f.c] 65))) := ⟨hX0, hal0⟩
  generalize w.alloc (.cells #[.bool f.s, .slice f.p f.n f.c] 65) = W0 at *
  clear hal0 hX0
  go_loopw [5, 6] (fun sv iv wr => ∃ (k : Nat) (es : List Ent), k ≤ n ∧ iv = .int .i64 k ∧ Hid (es.length = k ∧ LG (w.heap.size + 1) 65 (fun w z e => RE w (M + N + 1) z e) wr sv es (vs.take k) ∧ Bx wr w.heap.size (.bool f.s) (.slice f.p f.n f.c) ∧ Below w.heap.size w wr)) (fun _ iv _ => n - (intOf iv).toNat)
  case atStart => exact ⟨0, [], Nat.zero_le _, by go_num, rfl, by rw [List.take_zero]; exact LG.nil _ _ _ _, HS0.out.1, HS0.out.2⟩
  case round =>
    obtain ⟨k, es, hk, rfl, H⟩ := hrel
    rcases Nat.lt_or_ge k n with hlt | hge
    · obtain ⟨hel, hLR, hbx, hB⟩ := H.out
      have hPR := HX.out.1.below hB
      obtain ⟨b, o, hp, hc⟩ := hPR.pl (by omega)
      subst hp
      obtain ⟨x0, x1⟩ := hc k (by omega)
      obtain ⟨d0, d1, -, -⟩ := id hbx
      have HC : Hid (w.cell? ⟨b, o + k * 2, none⟩ = some (.bool (ge es0 k).s) ∧ w.cell? ⟨b, o + k * 2 + 1, none⟩ = some (.slice (ge es0 k).p (ge es0 k).n (ge es0 k).c)) := by
        obtain ⟨b', o', hb', hc'⟩ := HX.out.1.pl (by omega)
        cases hb'
        exact hc' k (by omega)
      have hx := hPR.ev k hlt
      have hy := HX.out.2.below hB
      have i1 : (k : Int) < (n : Int) := by omega
      have hw1 : w.heap.size + 1 ≤ wr.heap.size := block_lt_of_cell d0
      have hdr : Below wr.heap.size wr wr.drew := (Below.refl _ _).drew
      have hmu := rMul_e (hy.below hdr) (hx.below hdr) (by omega) (by omega)
      obtain ⟨hi, hz0, hz1, hz2⟩ := HI.out
      clear hel hLR hB hc hPR hbx
      go_upto_region 5 with fail
      go_region_held3 (fun w' => w'.cell? ⟨b, o + k * 2, none⟩ = some (.bool (ge es0 k).s) ∧ w'.cell? ⟨b, o + k * 2 + 1, none⟩ = some (.slice (ge es0 k).p (ge es0 k).n (ge es0 k).c) ∧ w'.cell? ⟨w.heap.size, 0, none⟩ = some (.bool f.s) ∧ w'.cell? ⟨w.heap.size, 1, none⟩ = some (.slice f.p f.n f.c)) (first | with_reducible exact ⟨x0, x1, d0, d1⟩ | with_reducible exact K3 | (refine keep4R ⟨x0, x1, d0, d1⟩ ?_; (repeat (first | (with_reducible exact hB1) | (with_reducible exact Below.refl _ _) | (refine Bel_al ?_ (Nat.le_refl _)) | (refine Below.drew ?_))); done))
        (first
          | (go_at_call 65; go_fit hmu; rintro r w1 ⟨u, rfl, hN1, hF1', hb1⟩; have hF1 := unFr hF1'; clear hF1'; have hB1 := undrew hb1; have hown0 := own_below H.out.2.1.own hB1; rw [H.out.1] at hown0; have HO : Hid (w1.ownsRow (w.heap.size + 1) 65 2 u5 k (fl es)) := hown0; clear hown0; have hsz : w.heap.size + 1 ≤ w1.heap.size := Nat.le_trans hw1 hB1.size)
          | (refine step_append_lies _ rfl _ _ 31 rfl (w.heap.size + 1) 65 i0 (.agg #[.bool false, .slice none 0 0]) 2 32 Tryz.underlying31 hi hz0 hz1 hz2 rfl (by decide) u5 k (fl es) rfl (HO.out.alloc _) ⟨w1.heap.size, 0, none⟩ 1 1 [.bool u.s, .slice u.p u.n u.c] rfl rfl ?_ (fun x hx => by simp at hx; rcases hx with rfl | rfl <;> rfl) (by decide) (by unfold maxLen; omega) (by omega) (by simp; omega) _ rfl ?_; exact World.news_of_block (heap_alloc_new w1 _); intro g cap w3 hown3 hgrow3 hat3 hlt3; have hB3 : Below w.heap.size w w3 := ((bnext' H.out.2.2.2 hB1).alloc (by omega) _).grown hgrow3 (by simp; omega) (fun q hq => by have := (HO.out.lt q hq).1; omega); have hX3 : Bx w3 w.heap.size (.bool f.s) (.slice f.p f.n f.c) := Bx.kept ((H.out.2.2.1.later hB1).alloc _) hgrow3 (fun hq => by have := (HO.out.lt _ hq.symm).1; omega); have K3 := And.intro (cell_later hB3 HC.out.1) (And.intro (cell_later hB3 HC.out.2) (And.intro hX3.c0 hX3.c1)); have HA : Hid (LG (w.heap.size + 1) 65 (fun w z e => RE w (M + N + 1) z e) w3 (.slice (some ⟨g, 0, none⟩) (k + 1) cap) (es ++ [u]) (vs.take k ++ [y * gx zs k])) := LG.app (lasts_RE _) H.out.1 H.out.2.1 hB1 hN1 (fun h0 a ha => .inr (hF1 a ha)) hown3 hgrow3 hat3; clear hown3 hgrow3 hat3))
      all_goals
        clear hmu hx hy hN1 x0 x1 d0 d1
        go_wp2
        refine ⟨⟨k + 1, es ++ [u], by omega, by go_num, by have := H.out.1; simp; omega, ?_, hX3, hB3⟩, by simp [intOf]; omega⟩
        rw [take_snocg vs k (by have := HVS.out.2; omega), HVS.out.1 k]
        exact HA.out
    · obtain rfl : k = n := by omega
      obtain ⟨hel, hLR, hbx, hB⟩ := H.out
      have hvl := HVS.out.2
      rw [List.take_of_length_le (by omega)] at hLR
      obtain ⟨q, cap, hv, hPR, hF⟩ := hLR.pr
      subst hv
      rw [hel] at hPR ⊢
      have HB : Hid (Below w.heap.size w wr) := hB
      clear H hLR hB hge hk hbx
      go_wp2_with fail
      refine (rTrim_any (M + N + 1) q k cap es vs _ hPR (by omega)).mono ?_
      rintro e w1 ⟨rfl, hb1⟩
      have HP : Hid (PR wr (M + N + 1) q k cap es vs) := hPR
      clear hPR
      go_wp2
      go_ret
      have htl := tlen_le vs
      have hcap := HP.out.cap
      have hT := (HP.out.below hb1).take (tlen vs) (tlen vs) (by omega) (Nat.le_refl _) (by omega)
      exact ⟨q, tlen vs, es.take (tlen vs), rfl, hT, fun a ha => Nat.le_of_succ_le (hF a ha), tlen_tr vs, bnext' HB.out hb1⟩
set_option maxRecDepth 100000 in
theorem rpSub_any {w : World} {N M : Nat} {p q : Option Addr} {n nc m mc : Nat} {es0 fs0 : List Ent} {zs ys : List Int} (h : PR w N p n nc es0 zs) (h' : PR w M q m mc fs0 ys) (hn : n ≤ 100000) (hm : m ≤ 100000) (hN : N ≤ 390) (hM : M ≤ 390) (hN4 : 4 ≤ N) :
    Calls Tryz.prog 93 #[.slice p n nc, .slice q m mc] w (PrP (tr (pz (· - ·) zs ys)) (N + M + 6) w) := by
  have HT := (show Hid (tr (pz (· + ·) zs (tr (ys.map (-1 * ·)))) = tr (pz (· - ·) zs ys)) from pz_sub zs ys)
  have hyl := h'.zl
  go_enter Tryz.func93, Tryz.ntmps93
  go_wp2_with fail
  refine (rOf_n (-1) _ (by decide) (by decide)).mono ?_
  rintro e w1 ⟨u, rfl, hu, hF, hb1⟩
  go_wp2_with fail
  refine (rpScale_any (h'.below hb1) hu hm (by omega) (by decide)).mono ?_
  rintro e w2 ⟨p2, n2, es2, rfl, h2, hF2, hn2, hb2⟩
  have hn2' : n2 ≤ 100000 := by
    have h3 := h2.zl
    rw [length_tr] at h3
    have h4 := tlen_le (ys.map (-1 * ·))
    rw [List.length_map] at h4
    omega
  go_wp2_with fail
  refine (rpAdd_any (h.below (bnext' hb1 hb2)) h2 hn hn2' (by omega) (by omega) hN4 (by omega)).mono ?_
  rintro e w3 ⟨p3, n3, es3, rfl, h3, hF3, hn3, hb3⟩
  have HP : Hid (PR w3 (N + M + 6) p3 n3 n3 es3 (tr (pz (· - ·) zs ys)) ∧ tlen (tr (pz (· - ·) zs ys)) = n3) := by
    rw [HT.out] at h3 hn3
    exact ⟨⟨h3.el, h3.zl, h3.cap, h3.bnd, h3.pl, fun j hj => (h3.ev j hj).wide (by omega)⟩, hn3⟩
  have hs := (bnext' hb1 hb2).size
  have hB := bnext' (bnext' hb1 hb2) hb3
  clear h3 hn3 h2 hu h h'
  go_wp2
  go_ret
  exact ⟨p3, n3, es3, rfl, HP.out.1, fun a ha => Nat.le_trans hs (hF3 a ha), HP.out.2, hB⟩
def CutPost (s : Bool) (xs : List Int) (w : World) (e : Ending) (w' : World) : Prop :=
  ∃ p' n' nc', e = .returned (.agg #[.bool s, .slice p' n' nc']) ∧ AI w' p' n' nc' (xs.take 24) ∧ n' ≤ 24 ∧ From w.heap.size p' ∧ Below w.heap.size w w'
set_option maxRecDepth 100000 in
theorem Cut_some (s : Bool) (b off n nc k : Nat) (xs : List Int) (w : World) (hl : xs.length = n) (hnc : n ≤ nc) (hb : nc ≤ maxLen) (hX : Rd w (some ⟨b, off, none⟩) .u32 xs) (hU : U32 xs) (hk : k = min n 24) (hk0 : 0 < k) :
    Calls Tryz.prog 31 #[.agg #[.bool s, .slice (some ⟨b, off, none⟩) n nc]] w (CutPost s xs w) := by
  have hb' := hb
  unfold maxLen at hb'
  obtain ⟨i0, hi, hzz⟩ := Option.map_eq_some_iff.1 info_u32
  simp only [Prod.mk.injEq] at hzz
  obtain ⟨hz0, hz1, hz2⟩ := hzz
  have HI : Hid (Tryz.prog.info? 97 = some i0 ∧ i0.zero = some (.int .u32 0) ∧ i0.size = 1 ∧ i0.bytes = 4) := ⟨hi, hz0, hz1, hz2⟩
  clear hi hz0 hz1 hz2
  have HX : Hid (k = min n 24) := hk
  clear hk
  by_cases hn : 24 < n
  · have hn' : 24 < (n : Int) := by omega
    have h24 : (24 : Int) ≤ (nc : Int) := by omega
    have h24n : 24 ≤ nc := by omega
    have h24m : (24 : Int) ≤ (n : Int) := by omega
    obtain rfl : k = 24 := by have := HX.out; omega
    go_enter Tryz.func31, Tryz.ntmps31
    go_wp2
    have hb1 : Bx ((w.alloc (.cells #[.bool s, .slice (some ⟨b, off, none⟩) n nc] 50)).alloc (.cells #[.bool false, .slice none 0 0] 50)) w.heap.size (.bool s) (.slice (some ⟨b, off, none⟩) n nc) := (Bx.new _ _ _ rfl).alloc _
    have hb2 : Bx ((w.alloc (.cells #[.bool s, .slice (some ⟨b, off, none⟩) n nc] 50)).alloc (.cells #[.bool false, .slice none 0 0] 50)) (w.heap.size + 1) (.bool false) (.slice none 0 0) := Bx.new _ _ _ (World.size_alloc ..).symm
    have hbw : Below w.heap.size w ((w.alloc (.cells #[.bool s, .slice (some ⟨b, off, none⟩) n nc] 50)).alloc (.cells #[.bool false, .slice none 0 0] 50)) := ((Below.refl _ _).alloc (Nat.le_refl _) _).alloc (by simp) _
    have hsz : ((w.alloc (.cells #[.bool s, .slice (some ⟨b, off, none⟩) n nc] 50)).alloc (.cells #[.bool false, .slice none 0 0] 50)).heap.size = w.heap.size + 1 + 1 := by simp
    generalize ((w.alloc (.cells #[.bool s, .slice (some ⟨b, off, none⟩) n nc] 50)).alloc (.cells #[.bool false, .slice none 0 0] 50)) = W at *
    have HS : Hid (W.heap.size = w.heap.size + 1 + 1) := hsz
    clear hsz
    have k0 := hb1.c0
    have k1 := hb1.c1
    obtain ⟨hi, hz0, hz1, hz2⟩ := HI.out
    have hsrc : ∀ j v, ((xs.take 24).map (Value.int .u32))[j]? = some v → W.drew.cell? ((⟨b, off, none⟩ : Addr).add j) = some v := by
      obtain ⟨b', off', hp, hc⟩ := ((hX.below hbw).take 24).drew (by simp; omega)
      cases hp
      exact Rd.src hc
    go_region_held3 (fun w' => w'.cell? ⟨w.heap.size, 0, none⟩ = some (.bool s) ∧ w'.cell? ⟨w.heap.size, 1, none⟩ = some (.slice (some ⟨b, off, none⟩) n nc)) (first | (simp [go_sem, *]; done) | exact keepc2 (by assumption) (by assumption))
      (first
        | (refine step_append_lies _ rfl _ _ 48 rfl w.heap.size 97 i0 (.int .u32 0) 1 4 Tryz.underlying48 hi hz0 hz1 hz2 rfl (by decide) (.slice none 0 0) 0 [] rfl (World.ownsRow_nil _ _ _ _) ⟨b, off, none⟩ 24 nc ((xs.take 24).map (Value.int .u32)) rfl (by simp; omega) ?_ (oneCell_ca _ _) (by decide) (by unfold maxLen; decide) (by decide) hbw.size _ rfl ?_; exact hsrc; intro g cap w3 hown3 hgrow3 hat3 hlt3; have hb3 := below_of_grown (w := W.drew) hgrow3; obtain ⟨c0, c1, f0, f1⟩ := resbox (undrew hb3) hb2.c0 hb2.c1 hb2.f0 hb2.f1))
    go_wp2
    obtain rfl : g = W.heap.size := by rcases hat3 with h | h; cases h; exact h
    have hr3 : Rd w3 (some ⟨W.heap.size, 0, none⟩) .u32 (xs.take 24) := rd_owns (by simpa using hown3)
    have hs3 := HS.out
    have hcp : 24 ≤ cap ∧ cap ≤ maxLen := by
      rcases hown3.2 with ⟨h, _⟩ | ⟨g', cap', cur, h, _, _, h4, h5, _⟩
      · cases h
      · cases h; exact ⟨by omega, h5⟩
    refine bodyPost_ret (v := .agg #[.bool s, .slice (some ⟨W.heap.size, 0, none⟩) 24 cap]) (by simp [results, Tryz.results31, go_sem, c0, c1]) rfl ?_
    refine ⟨_, 24, cap, rfl, ⟨by simp; omega, hcp.1, hcp.2, by omega, ?_, u32_take hU 24⟩, by omega, from_new hbw.size, ?_⟩
    · skip
      exact (hr3.set_other _ _ (fun a ha => by cases ha; simp; omega)).set_other _ _ (fun a ha => by cases ha; simp; omega)
    · exact (((hbw.trans ((undrew hb3).mono hbw.size)).setCell (by simp) _).setCell (by simp) _)
  · have hn' : ¬ 24 < (n : Int) := by omega
    obtain rfl : k = n := by have := HX.out; omega
    have hkc : (k : Int) ≤ (nc : Int) := by omega
    have hk24 : k ≤ 24 := by omega
    go_enter Tryz.func31, Tryz.ntmps31
    go_wp2
    have hb1 : Bx ((w.alloc (.cells #[.bool s, .slice (some ⟨b, off, none⟩) k nc] 50)).alloc (.cells #[.bool false, .slice none 0 0] 50)) w.heap.size (.bool s) (.slice (some ⟨b, off, none⟩) k nc) := (Bx.new _ _ _ rfl).alloc _
    have hb2 : Bx ((w.alloc (.cells #[.bool s, .slice (some ⟨b, off, none⟩) k nc] 50)).alloc (.cells #[.bool false, .slice none 0 0] 50)) (w.heap.size + 1) (.bool false) (.slice none 0 0) := Bx.new _ _ _ (World.size_alloc ..).symm
    have hbw : Below w.heap.size w ((w.alloc (.cells #[.bool s, .slice (some ⟨b, off, none⟩) k nc] 50)).alloc (.cells #[.bool false, .slice none 0 0] 50)) := ((Below.refl _ _).alloc (Nat.le_refl _) _).alloc (by simp) _
    have hsz : ((w.alloc (.cells #[.bool s, .slice (some ⟨b, off, none⟩) k nc] 50)).alloc (.cells #[.bool false, .slice none 0 0] 50)).heap.size = w.heap.size + 1 + 1 := by simp
    generalize ((w.alloc (.cells #[.bool s, .slice (some ⟨b, off, none⟩) k nc] 50)).alloc (.cells #[.bool false, .slice none 0 0] 50)) = W at *
    have HS : Hid (W.heap.size = w.heap.size + 1 + 1) := hsz
    clear hsz
    have k0 := hb1.c0
    have k1 := hb1.c1
    obtain ⟨hi, hz0, hz1, hz2⟩ := HI.out
    have hsrc : ∀ j v, ((xs.take k).map (Value.int .u32))[j]? = some v → W.drew.cell? ((⟨b, off, none⟩ : Addr).add j) = some v := by
      obtain ⟨b', off', hp, hc⟩ := ((hX.below hbw).take k).drew (by simp; omega)
      cases hp
      exact Rd.src hc
    go_region_held3 (fun w' => w'.cell? ⟨w.heap.size, 0, none⟩ = some (.bool s) ∧ w'.cell? ⟨w.heap.size, 1, none⟩ = some (.slice (some ⟨b, off, none⟩) k nc)) (first | (simp [go_sem, *]; done) | exact keepc2 (by assumption) (by assumption))
      (first
        | (refine step_append_lies _ rfl _ _ 48 rfl w.heap.size 97 i0 (.int .u32 0) 1 4 Tryz.underlying48 hi hz0 hz1 hz2 rfl (by decide) (.slice none 0 0) 0 [] rfl (World.ownsRow_nil _ _ _ _) ⟨b, off, none⟩ k nc ((xs.take k).map (Value.int .u32)) rfl (by simp; omega) ?_ (oneCell_ca _ _) hk0 (by unfold maxLen; omega) (by omega) hbw.size _ rfl ?_; exact hsrc; intro g cap w3 hown3 hgrow3 hat3 hlt3; have hb3 := below_of_grown (w := W.drew) hgrow3; obtain ⟨c0, c1, f0, f1⟩ := resbox (undrew hb3) hb2.c0 hb2.c1 hb2.f0 hb2.f1))
    go_wp2
    obtain rfl : g = W.heap.size := by rcases hat3 with h | h; cases h; exact h
    have hr3 : Rd w3 (some ⟨W.heap.size, 0, none⟩) .u32 (xs.take k) := rd_owns (by simpa using hown3)
    have hs3 := HS.out
    have hcp : k ≤ cap ∧ cap ≤ maxLen := by
      rcases hown3.2 with ⟨h, _⟩ | ⟨g', cap', cur, h, _, _, h4, h5, _⟩
      · cases h
      · cases h; exact ⟨by omega, h5⟩
    refine bodyPost_ret (v := .agg #[.bool s, .slice (some ⟨W.heap.size, 0, none⟩) k cap]) (by simp [results, Tryz.results31, go_sem, c0, c1]) rfl ?_
    refine ⟨_, k, cap, rfl, ⟨by simp; omega, hcp.1, hcp.2, by omega, ?_, u32_take hU 24⟩, by omega, from_new hbw.size, ?_⟩
    · rw [List.take_of_length_le (l := xs) (i := k) (by omega)] at hr3
      rw [List.take_of_length_le (l := xs) (i := 24) (by omega)]
      exact (hr3.set_other _ _ (fun a ha => by cases ha; simp; omega)).set_other _ _ (fun a ha => by cases ha; simp; omega)
    · exact (((hbw.trans ((undrew hb3).mono hbw.size)).setCell (by simp) _).setCell (by simp) _)
theorem app_none (ty : TypeId) (q : Option Addr) (c : Nat) (w : World) : (Builtin.append_ #[48, 48] ty #[.slice none 0 0, .slice q 0 c]).run Tryz.prog w = .ok (.slice none 0 0) w := by
  obtain ⟨i0, hi, hzz⟩ := Option.map_eq_some_iff.1 info_u32
  cases q <;> simp [Builtin.append_, run_underlying Tryz.underlying48, sizeOf, typeInfo, hi, Builtin.lenOf, Builtin.firstCells, loadCells, loadCellsFrom]
set_option maxRecDepth 100000 in
theorem Cut_none1 (s : Bool)  (w : World) :
    Calls Tryz.prog 31 #[.agg #[.bool s, .slice none 0 0]] w (CutPost s [] w) := by
  have ha := fun ty w => app_none ty none 0 w
  go_enter Tryz.func31, Tryz.ntmps31
  go_wp2
  have hb1 : Bx ((w.alloc (.cells #[.bool s, .slice none 0 0] 50)).alloc (.cells #[.bool false, .slice none 0 0] 50)) w.heap.size (.bool s) (.slice none 0 0) := (Bx.new _ _ _ rfl).alloc _
  have hb2 : Bx ((w.alloc (.cells #[.bool s, .slice none 0 0] 50)).alloc (.cells #[.bool false, .slice none 0 0] 50)) (w.heap.size + 1) (.bool false) (.slice none 0 0) := Bx.new _ _ _ (World.size_alloc ..).symm
  have hbw : Below w.heap.size w ((w.alloc (.cells #[.bool s, .slice none 0 0] 50)).alloc (.cells #[.bool false, .slice none 0 0] 50)) := ((Below.refl _ _).alloc (Nat.le_refl _) _).alloc (by simp) _
  generalize ((w.alloc (.cells #[.bool s, .slice none 0 0] 50)).alloc (.cells #[.bool false, .slice none 0 0] 50)) = W at *
  have k0 := hb1.c0
  have k1 := hb1.c1
  have c0 := hb2.c0
  have c1 := hb2.c1
  have f0 := hb2.f0
  have f1 := hb2.f1
  go_region_held3 (fun w' => w'.cell? ⟨w.heap.size, 0, none⟩ = some (.bool s) ∧ w'.cell? ⟨w.heap.size, 1, none⟩ = some (.slice none 0 0)) (first | (simp [go_sem, *]; done) | exact keepc2 (by assumption) (by assumption)) (fail)
  go_wp2
  refine bodyPost_ret (v := .agg #[.bool s, .slice none 0 0]) (by simp [results, Tryz.results31, go_sem, c0, c1]) rfl ?_
  exact ⟨none, 0, 0, rfl, ⟨rfl, Nat.le_refl _, by unfold maxLen; decide, by decide, Rd.nil, u32_nil⟩, by decide, from_none, (hbw.drew.setCell (by simp) _).setCell (by simp) _⟩
set_option maxRecDepth 100000 in
theorem Cut_none2 (s : Bool) (a : Addr) (nc : Nat) (w : World) (hb : nc ≤ maxLen) :
    Calls Tryz.prog 31 #[.agg #[.bool s, .slice (some a) 0 nc]] w (CutPost s [] w) := by
  have hb' := hb
  unfold maxLen at hb'
  have ha := fun ty w => app_none ty (some a) nc w
  have hnc0 : (0 : Int) ≤ (nc : Int) := by omega
  go_enter Tryz.func31, Tryz.ntmps31
  go_wp2
  have hb1 : Bx ((w.alloc (.cells #[.bool s, .slice (some a) 0 nc] 50)).alloc (.cells #[.bool false, .slice none 0 0] 50)) w.heap.size (.bool s) (.slice (some a) 0 nc) := (Bx.new _ _ _ rfl).alloc _
  have hb2 : Bx ((w.alloc (.cells #[.bool s, .slice (some a) 0 nc] 50)).alloc (.cells #[.bool false, .slice none 0 0] 50)) (w.heap.size + 1) (.bool false) (.slice none 0 0) := Bx.new _ _ _ (World.size_alloc ..).symm
  have hbw : Below w.heap.size w ((w.alloc (.cells #[.bool s, .slice (some a) 0 nc] 50)).alloc (.cells #[.bool false, .slice none 0 0] 50)) := ((Below.refl _ _).alloc (Nat.le_refl _) _).alloc (by simp) _
  generalize ((w.alloc (.cells #[.bool s, .slice (some a) 0 nc] 50)).alloc (.cells #[.bool false, .slice none 0 0] 50)) = W at *
  have k0 := hb1.c0
  have k1 := hb1.c1
  have c0 := hb2.c0
  have c1 := hb2.c1
  have f0 := hb2.f0
  have f1 := hb2.f1
  go_region_held3 (fun w' => w'.cell? ⟨w.heap.size, 0, none⟩ = some (.bool s) ∧ w'.cell? ⟨w.heap.size, 1, none⟩ = some (.slice (some a) 0 nc)) (first | (simp [go_sem, *]; done) | exact keepc2 (by assumption) (by assumption)) (fail)
  go_wp2
  refine bodyPost_ret (v := .agg #[.bool s, .slice none 0 0]) (by simp [results, Tryz.results31, go_sem, c0, c1]) rfl ?_
  exact ⟨none, 0, 0, rfl, ⟨rfl, Nat.le_refl _, by unfold maxLen; decide, by decide, Rd.nil, u32_nil⟩, by decide, from_none, (hbw.drew.setCell (by simp) _).setCell (by simp) _⟩
theorem Cut_any (s : Bool) (p : Option Addr) (n nc : Nat) (xs : List Int) (w : World) (hl : xs.length = n) (hnc : n ≤ nc) (hb : nc ≤ maxLen) (hX : Rd w p .u32 xs) (hU : U32 xs) (hp : p = none → nc = 0) :
    Calls Tryz.prog 31 #[.agg #[.bool s, .slice p n nc]] w (CutPost s xs w) := by
  rcases Nat.eq_zero_or_pos n with h | h
  · subst h
    obtain rfl : xs = [] := List.eq_nil_of_length_eq_zero hl
    cases p with
    | none => rw [hp rfl]; exact Cut_none1 s w
    | some a => exact Cut_none2 s a nc w hb
  · obtain ⟨b, off, rfl, _⟩ := hX (by omega)
    exact Cut_some s b off n nc (min n 24) xs w hl hnc hb hX hU rfl (by omega)
open Go.ChangeShapes Go.WideShapes Go.ChangeAt Go.RowKit Go.Joins
theorem own : ownKnob Tryz.prog.godebug = none := by kernel_rfl
theorem laidOut : laidOutB Tryz.prog = true := by kernel_rfl
def RawE (w : World) (e : Ent) : Prop := ∃ xs, xs.length = e.n ∧ e.n ≤ e.c ∧ e.c ≤ maxLen ∧ Rd w e.p .u32 xs ∧ U32 xs ∧ (e.p = none → e.c = 0)
structure PZ (w : World) (p : Option Addr) (n nc : Nat) (es : List Ent) : Prop where
  el : es.length = n
  cap : n ≤ nc
  bnd : nc ≤ maxLen
  pn : p = none → nc = 0
  pl : PL w p es
  ev : ∀ j, j < n → RawE w (ge es j)
theorem RawE.below {w w' : World} {e : Ent} (h : RawE w e) (hb : Below w.heap.size w w') : RawE w' e := by
  obtain ⟨xs, h1, h2, h3, h4, h5, h6⟩ := h
  exact ⟨xs, h1, h2, h3, h4.below hb, h5, h6⟩
theorem PZ.below {w w' : World} {p : Option Addr} {n nc : Nat} {es : List Ent} (h : PZ w p n nc es) (hb : Below w.heap.size w w') : PZ w' p n nc es :=
  ⟨h.el, h.cap, h.bnd, h.pn, h.pl.below hb, fun j hj => (h.ev j hj).below hb⟩
theorem cellsI2 : Tryz.prog.cellsOf 50 = 2 := by kernel_rfl
theorem cellsU : Tryz.prog.cellsOf 97 = 1 := by kernel_rfl
theorem cellsUs : Tryz.prog.cellsOf 48 = 1 := by kernel_rfl
theorem cellsB : Tryz.prog.cellsOf 4 = 1 := by kernel_rfl
def entOf : Value → Value → Ent
  | .bool s, .slice p n c => ⟨s, p, n, c⟩
  | _, _ => ez
set_option maxRecDepth 100000 in
theorem rawCells {H : Type} {enc : TypeId × Value → H} {W : World} {fuel : Nat} {v0 v1 : Value} {y0 y1 : DataW H × List MemPlace}
    (hy0 : DataW.trod enc Tryz.prog W 0 (fun _ => true) true fuel 4 [v0] = some y0) (hy1 : DataW.trod enc Tryz.prog W 0 (fun _ => true) true fuel 48 [v1] = some y1) :
    v0 = .bool (entOf v0 v1).s ∧ v1 = .slice (entOf v0 v1).p (entOf v0 v1).n (entOf v0 v1).c ∧ RawE W (entOf v0 v1) := by
  obtain ⟨s, e0, -⟩ := DataW.trod_bool Tryz.underlying4 hy0
  simp only [List.cons.injEq, and_true] at e0
  subst e0
  rcases open_ints Tryz.underlying48 Tryz.underlying97 cellsU hy1 with ⟨hcs, -⟩ | ⟨a, len, cap, zs, hcs, -, hl, hm, hz, -, hcell, hwz⟩
  · simp only [List.cons.injEq, and_true] at hcs
    subst hcs
    exact ⟨rfl, rfl, [], rfl, Nat.le_refl _, Nat.zero_le _, Rd.nil, u32_nil, fun _ => rfl⟩
  · simp only [List.cons.injEq, and_true] at hcs
    subst hcs
    simp only [if_true] at hz
    refine ⟨rfl, rfl, zs.take len, by show (zs.take len).length = len; simp; omega, hl, hm, ?_, ?_, fun h => by cases h⟩
    · intro hp
      have hp' : 0 < zs.length := by simp at hp; omega
      obtain ⟨b, off, rfl, hc⟩ := ints_at hcell hp'
      refine ⟨b, off, rfl, fun j hj => ?_⟩
      have hj' : j < len ∧ j < zs.length := by simp at hj; omega
      rw [gx_take _ _ _ hj'.1]
      exact hc j hj'.2
    · refine u32_take (fun j => ?_) len
      by_cases hj : j < zs.length
      · have := hwz zs[j] (List.getElem_mem hj)
        rw [gx_mem zs j hj]
        have h4 : 0 ≤ zs[j] ∧ zs[j] ≤ 4294967295 := by
          simpa [Lit.wf, IntKind.min, IntKind.max, IntKind.signed, IntKind.bits] using this
        exact ⟨h4.1, by omega⟩
      · rw [gx_past zs _ (Nat.le_refl _) j (by omega)]; decide
set_option maxRecDepth 100000 in
theorem openPoly {H : Type} {enc : TypeId × Value → H} {W : World} {base : Nat} {v0 : Value} {d0 : DataW H} {p0 : List MemPlace} (hv : Value.okWide Tryz.prog W .any base 25 v0)
    (h0 : DataW.Trod enc Tryz.prog W 0 (fun _ => true) true 25 v0 d0 p0) : ∃ (p : Option Addr) (n nc : Nat) (es : List Ent), v0 = .slice p n nc ∧ PZ W p n nc es := by
  obtain ⟨a0, len, cap, rfl⟩ := okWide_slice Tryz.underlying25 hv
  obtain ⟨fuel, hf⟩ := h0
  rcases Go.Deep.open_slice_pairs Tryz.underlying25 Tryz.underlying50 cellsI2 rfl rfl cellsB cellsUs hf with ⟨hcs, -⟩ | ⟨a, len', cap', m, k, V0, V1, D0, D1, P0, P1, hcs, -, hl, hm, hmm, -, hcell⟩
  · simp [Value.cells] at hcs
    obtain ⟨rfl, rfl, rfl⟩ := hcs
    exact ⟨none, 0, 0, [], rfl, ⟨rfl, Nat.le_refl _, Nat.zero_le _, fun _ => rfl, PL.nil, fun j hj => absurd hj (by omega)⟩⟩
  · simp [Value.cells] at hcs
    obtain ⟨rfl, rfl, rfl⟩ := hcs
    simp only [if_true] at hmm
    have hr : ∀ i, i < len → V0 i = .bool (entOf (V0 i) (V1 i)).s ∧ V1 i = .slice (entOf (V0 i) (V1 i)).p (entOf (V0 i) (V1 i)).n (entOf (V0 i) (V1 i)).c ∧ RawE W (entOf (V0 i) (V1 i)) := fun i hi => by
      obtain ⟨-, -, g0, g1⟩ := hcell i (by omega)
      exact rawCells g0 g1
    have hge : ∀ i, i < len → ge ((List.range len).map fun i => entOf (V0 i) (V1 i)) i = entOf (V0 i) (V1 i) := fun i hi => by simp [ge, hi]
    refine ⟨some a, len, cap, (List.range len).map fun i => entOf (V0 i) (V1 i), rfl, ⟨by simp, hl, hm, nofun, ?_, fun j hj => by rw [hge j hj]; exact (hr j hj).2.2⟩⟩
    intro hp
    have hp' : 0 < len := by simpa using hp
    obtain ⟨b, off, spot⟩ := a
    have hspot : spot = none := by simpa [Addr.add] using World.cell?_spot (hcell 0 (by omega)).1
    subst hspot
    refine ⟨b, off, rfl, fun j hj => ?_⟩
    have hj' : j < len := by simpa using hj
    obtain ⟨c0, c1, -, -⟩ := hcell j (by omega)
    obtain ⟨e0, e1, -⟩ := hr j hj'
    rw [hge j hj', ← e0, ← e1]
    rw [add_plain] at c0 c1
    exact ⟨c0, c1⟩
theorem zb_zero : zb 0 = 0 := rfl
set_option maxRecDepth 100000 in
theorem rpAt_neg {w : World} (p : Option Addr) (n nc : Nat) :
    Calls Tryz.prog 94 #[.slice p n nc, .int .i64 (-1)] w fun r w' => ∃ u : Ent, r = .returned (.agg #[.bool u.s, .slice u.p u.n u.c]) ∧ RE w' 4 0 u ∧ Go.Proofs.YtdjjlghlcffflaaGreatDoor.From (w.heap.size + 1) u.p ∧ Below w.heap.size w w' := by
  have hal := bel_al (o := .cells #[.bool false, .slice none 0 0] 65) (Below.refl w.heap.size w)
  have hX : Bx (w.alloc (.cells #[.bool false, .slice none 0 0] 65)) w.heap.size (.bool false) (.slice none 0 0) := Bx.new _ _ _ rfl
  go_enter Tryz.func94, Tryz.ntmps94
  go_upto_region 1 with fail
  generalize w.alloc (.cells #[.bool false, .slice none 0 0] 65) = W at *
  go_wp2_with fail
  refine (rOf_e 0 _ (by decide) (by decide)).mono ?_
  rintro e w1 ⟨u, rfl, hO, hF, hb1⟩
  obtain ⟨r0, r1, f0, f1⟩ := hX.later hb1
  have hlt : w.heap.size < W.heap.size := block_lt_of_cell hX.c0
  have hB := bnext' hal hb1
  go_wp2
  refine bodyPost_ret (v := .agg #[.bool u.s, .slice u.p u.n u.c]) (by simp [results, Tryz.results94, go_sem, r0, r1]) rfl ⟨u, rfl, ?_, fun a ha => Nat.le_trans hlt (hF a ha), bset2 hB (Nat.le_refl _) _ _⟩
  exact hO.set2 (fun _ a ha => by have := hF a ha; omega)
set_option maxRecDepth 100000 in
theorem rpLead_none {w : World} (p : Option Addr) (nc : Nat) :
    Calls Tryz.prog 45 #[.slice p 0 nc] w fun r w' => ∃ u : Ent, r = .returned (.agg #[.bool u.s, .slice u.p u.n u.c]) ∧ RE w' 4 0 u ∧ Below w.heap.size w w' := by
  have hal := bel_al (o := .cells #[.bool false, .slice none 0 0] 65) (Below.refl w.heap.size w)
  have hX : Bx (w.alloc (.cells #[.bool false, .slice none 0 0] 65)) w.heap.size (.bool false) (.slice none 0 0) := Bx.new _ _ _ rfl
  have ha := rpAt_neg (w := w.alloc (.cells #[.bool false, .slice none 0 0] 65)) p 0 nc
  go_enter Tryz.func45, Tryz.ntmps45
  go_upto_region 1 with fail
  generalize w.alloc (.cells #[.bool false, .slice none 0 0] 65) = W at *
  go_wp2_with fail
  refine ha.mono ?_
  rintro r w1 ⟨u, rfl, hO, hF, hb1⟩
  obtain ⟨r0, r1, f0, f1⟩ := hX.later hb1
  have hlt : w.heap.size < W.heap.size := block_lt_of_cell hX.c0
  clear ha
  go_wp2
  refine bodyPost_ret (v := .agg #[.bool u.s, .slice u.p u.n u.c]) (by simp [results, Tryz.results45, go_sem, r0, r1]) rfl ⟨u, rfl, ?_, bset2 (bnext' hal hb1) (Nat.le_refl _) _ _⟩
  exact hO.set2 (fun _ a ha => by have := hF a ha; omega)
theorem rpLead_any {w : World} {N : Nat} {p : Option Addr} {n nc : Nat} {es : List Ent} {zs : List Int} (h : PR w N p n nc es zs) (hn : n ≤ 1000000) (hN : 4 ≤ N) :
    Calls Tryz.prog 45 #[.slice p n nc] w fun r w' => ∃ u : Ent, r = .returned (.agg #[.bool u.s, .slice u.p u.n u.c]) ∧ RE w' N (gx zs (n - 1)) u ∧ Below w.heap.size w w' := by
  rcases Nat.eq_zero_or_pos n with h0 | h0
  · subst h0
    refine (rpLead_none p nc).mono ?_
    rintro r w1 ⟨u, rfl, hu, hb⟩
    rw [gx_past zs 0 (by rw [h.zl]; exact Nat.le_refl _) _ (Nat.zero_le _)]
    exact ⟨u, rfl, hu.wide hN, hb⟩
  · refine (rpLead_in h h0 hn).mono ?_
    rintro r w1 ⟨rfl, hb⟩
    exact ⟨_, rfl, (h.ev _ (by omega)).below hb, hb⟩
theorem PR.gset {w : World} {N : Nat} {p : Option Addr} {n nc : Nat} {es : List Ent} {zs : List Int} {g o : Nat} {u v : Value} (h : PR w N p n nc es zs) (hp : 0 < n → Off g p) (hq : ∀ j, j < n → 0 < (ge es j).n → Off g (ge es j).p) : PR ((w.setCell ⟨g, o, none⟩ u).setCell ⟨g, o + 1, none⟩ v) N p n nc es zs := by
  refine ⟨h.el, h.zl, h.cap, h.bnd, ?_, fun j hj => (h.ev j hj).set2 (hq j hj)⟩
  intro hx
  have h0 := hp (by rw [← h.el]; exact hx)
  exact ((h.pl.set_other ⟨g, o, none⟩ u h0).set_other ⟨g, o + 1, none⟩ v h0) hx
end Go.Proofs.YtdjjlghlcffflaaGreatDoor
