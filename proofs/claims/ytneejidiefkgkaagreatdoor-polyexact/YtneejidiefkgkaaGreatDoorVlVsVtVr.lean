/-
  ashlarref3.Under.
-/
import Derived.Test.YtneejidiefkgkaaGreatDoorYpRn
import Derived.Test.YtneejidiefkgkaaGreatDoorVbDaCxRbCyViVuPr
import Derived.Test.YtneejidiefkgkaaGreatDoorUpUqRm
import Derived.Deep.CutRange
import Derived.Deep.RegionHeld3
import Derived.Test.YtneejidiefkgkaaGreatDoorDcPmInDf
import Derived.Test.YtneejidiefkgkaaGreatDoorUl
import Derived.Test.YtneejidiefkgkaaGreatDoorUvUwUm
import Derived.Deep.DeepFit
import Derived.Test.YtneejidiefkgkaaGreatDoorPvPwUoPx
import Derived.Test.YtneejidiefkgkaaGreatDoorRkVq
namespace Go.Proofs.YtneejidiefkgkaaGreatDoor
open Go.RowKit
set_option linter.unusedVariables false
set_option linter.unusedSimpArgs false

theorem rQuo_e {w : World} {N M : Nat} {x y : Int} {e f : Ent} (h : RE w N x e) (k : RE w M y f) (hy : y ≠ 0) (hd : y ∣ x) (hN : N ≤ 1000) (hM : M ≤ 1000) :
    Calls Tryz.prog 32 #[.agg #[.bool e.s, .slice e.p e.n e.c], .agg #[.bool f.s, .slice f.p f.n f.c]] w fun r w' => ∃ u v : Ent, r = .returned (.tuple #[.agg #[.bool u.s, .slice u.p u.n u.c], .agg #[.bool v.s, .slice v.p v.n v.c]]) ∧ RE w' N (x / y) u ∧ Go.Proofs.YtneejidiefkgkaaGreatDoor.From w.heap.size u.p ∧ Below w.heap.size w w' := by
  have hb := h.1.bd
  obtain ⟨⟨ds, h1, rfl, h3⟩, h4⟩ := h
  obtain ⟨⟨es, k1, rfl, k3⟩, k4⟩ := k
  rw [h4, k4]
  have hx : ∃ c, vd ds = c * vd es := by
    obtain ⟨c, hc⟩ := hd
    rw [rval_abs e.s h1.u, rval_abs f.s k1.u, hc, Int.natAbs_mul]
    exact ⟨(c.natAbs : Int), by push_cast; rw [Int.mul_comm]⟩
  have hm0 : 0 < f.n := by
    rcases Nat.eq_zero_or_pos f.n with h0 | h0
    · exfalso
      apply hy
      have : vd es = 0 := (tlen_zero_iff16 k1.u).1 (by rw [k1.nrm, h0])
      unfold rval
      split <;> omega
    · exact h0
  refine (rQuo_s e.s f.s e.p f.p e.n f.n ds es w h1 k1 (by omega) (by omega) hm0 hx).mono ?_
  rintro r w' ⟨s1, p1, n1, d1, p2, g1, g2, g3, g4, g5⟩
  have g6 : rval e.s ds / rval f.s es = rval s1 d1 := by rw [← g3, Int.mul_ediv_cancel _ hy]
  have hle : n1 ≤ N := g2.fit (by
    rw [← g6]
    have := Int.natAbs_ediv_le_natAbs (rval e.s ds) (rval f.s es)
    omega)
  rw [g6]
  exact ⟨⟨s1, p1, n1, n1⟩, ⟨false, p2, 0, 0⟩, g1, ⟨⟨d1, g2, rfl, hle⟩, rfl⟩, g4, g5⟩
/-- The quotient in its variable. -/
structure UX (wr wc : World) (g1 N : Nat) (z : Int) (u : Ent) : Prop where
  b : Bx wc g1 (.bool u.s) (.slice u.p u.n u.c)
  r : RE wc N z u
  f : 0 < u.n → ∀ a, u.p = some a → wr.heap.size ≤ a.block
  bw : Below wr.heap.size wr wc
set_option maxHeartbeats 4000000 in
set_option maxRecDepth 100000 in
/-- ashlarref3.Under. -/
theorem rpUnder_any {w : World} {N M : Nat} {p : Option Addr} {n nc : Nat} {es0 : List Ent} {zs : List Int} {y : Int} {f : Ent} (h : PR w N p n nc es0 zs) (hf : RE w M y f) (hy : y ≠ 0) (hd : ∀ j, y ∣ gx zs j) (hn : n ≤ 100000) (hN : N ≤ 1000) (hM : M ≤ 1000) :
    Calls Tryz.prog 94 #[.slice p n nc, .agg #[.bool f.s, .slice f.p f.n f.c]] w (PrP (tr (zs.map (· / y))) N w) := by
  obtain ⟨i0, hi, hzz⟩ := Option.map_eq_some_iff.1 info_ref
  simp only [Prod.mk.injEq] at hzz
  obtain ⟨hz0, hz1, hz2⟩ := hzz
  have HI : Hid (Tryz.prog.info? 50 = some i0 ∧ i0.zero = some (.agg #[.bool false, .slice none 0 0]) ∧ i0.size = 2 ∧ i0.bytes = 32) := ⟨hi, hz0, hz1, hz2⟩
  have HX : Hid (PR w N p n nc es0 zs ∧ RE w M y f ∧ y ≠ 0 ∧ ∀ j, y ∣ gx zs j) := ⟨h, hf, hy, hd⟩
  have hel0 := h.el
  have hzl0 := h.zl
  have hvl : (zs.map (· / y)).length = n := by simp [hzl0]
  have hvg : ∀ j, gx (zs.map (· / y)) j = gx zs j / y := fun j => gx_map0 (· / y) (by simp) zs j
  generalize hvs : zs.map (· / y) = vs at *
  have HVS : Hid ((∀ j, gx vs j = gx zs j / y) ∧ vs.length = n) := ⟨hvg, hvl⟩
  clear h hf hy hd hi hz0 hz1 hz2 hvs hvg hvl
  go_enter Tryz.func94, Tryz.ntmps94
  go_wp2_with fail
  have hal0 := bel_al (o := .cells #[.bool f.s, .slice f.p f.n f.c] 50) (Below.refl w.heap.size w)
  have hX0 : Bx (w.alloc (.cells #[.bool f.s, .slice f.p f.n f.c] 50)) w.heap.size (.bool f.s) (.slice f.p f.n f.c) := Bx.new _ _ _ rfl
  have HS0 : Hid (Bx (w.alloc (.cells #[.bool f.s, .slice f.p f.n f.c] 50)) w.heap.size (.bool f.s) (.slice f.p f.n f.c) ∧ Below w.heap.size w (w.alloc (.cells #[.bool f.s, .slice f.p f.n f.c] 50))) := ⟨hX0, hal0⟩
  generalize w.alloc (.cells #[.bool f.s, .slice f.p f.n f.c] 50) = W0 at *
  clear hal0 hX0
  go_loopw [5, 6, 7, 8] (fun sv iv _ _ wr => ∃ (k : Nat) (es : List Ent), k ≤ n ∧ iv = .int .i64 k ∧ Hid (es.length = k ∧ LG (w.heap.size + 1) 50 (fun w z e => RE w N z e) wr sv es (vs.take k) ∧ Bx wr w.heap.size (.bool f.s) (.slice f.p f.n f.c) ∧ Below w.heap.size w wr)) (fun _ iv _ _ _ => n - (intOf iv).toNat)
  case atStart => exact ⟨0, [], Nat.zero_le _, by go_num, rfl, by rw [List.take_zero]; exact LG.nil _ _ _ _, HS0.out.1, HS0.out.2⟩
  case round =>
    obtain ⟨k, es, hk, rfl, H⟩ := hrel
    rcases Nat.lt_or_ge k n with hlt | hge
    · obtain ⟨hel, hLR, hbx, hB⟩ := H.out
      have hPR := HX.out.1.below hB
      obtain ⟨b, o, hp, hc⟩ := hPR.pl (by omega)
      subst hp
      obtain ⟨x0, x1⟩ := hc k (by omega)
      obtain ⟨d0, d1, -, -⟩ := id hbx
      have hx := hPR.ev k hlt
      have hy := HX.out.2.1.below hB
      have i1 : (k : Int) < (n : Int) := by omega
      have hq0 := HX.out.2.2.1
      have hq1 := HX.out.2.2.2 k
      clear hel hLR hB hc hPR hbx
      go_wp2_with fail
      go_cut [7, 8] from 9 to 27 (fun qv lv wc => ∃ (u : Ent) (g1 : Nat), qv = .pointer (some ⟨g1, 0, none⟩) ∧ Hid (UX wr wc g1 N (gx zs k / y) u))
      case first =>
        go_region_held3 (fun w' => w'.cell? ⟨b, o + k * 2, none⟩ = some (.bool (ge es0 k).s) ∧ w'.cell? ⟨b, o + k * 2 + 1, none⟩ = some (.slice (ge es0 k).p (ge es0 k).n (ge es0 k).c) ∧ w'.cell? ⟨w.heap.size, 0, none⟩ = some (.bool f.s) ∧ w'.cell? ⟨w.heap.size, 1, none⟩ = some (.slice f.p f.n f.c)) (first | with_reducible exact ⟨x0, x1, d0, d1⟩ | (refine keep4R ⟨x0, x1, d0, d1⟩ ?_; (repeat (first | (with_reducible exact hW1) | (with_reducible exact Below.refl _ _) | (refine Bel_al ?_ (Nat.le_refl _)) | (refine Bel_st ?_ ?_) | (refine Below.drew ?_))); all_goals ((try simp only [World.size_alloc]); (try dsimp only); omega)))
          ((go_at_call 32; go_fit (rQuo_e (hx.below (by first | exact (Below.refl _ _).drew | exact (bel_al (Below.refl _ _)).drew | exact (bel_al (bel_al (Below.refl _ _))).drew)) (hy.below (by first | exact (Below.refl _ _).drew | exact (bel_al (Below.refl _ _)).drew | exact (bel_al (bel_al (Below.refl _ _))).drew)) hq0 hq1 hN hM); rintro r v1 ⟨u, v, rfl, hN1, hF1', hb1⟩; have hF1 := unFr hF1'; clear hF1'; have hB1 := undrew hb1; have hW1 := comp (X2 := wr) (w2 := wr) (Below.refl _ _) (by (repeat apply bel_al); exact Below.refl _ _) hB1; obtain ⟨hc2, hf2, hz2, -, -⟩ := brules hB1; obtain ⟨o1, o2, o3, o4⟩ := bne hB1; have t1 := hW1.size; have t1b := hB1.size))
        all_goals (go_wp2_with fail; go_meet)
        all_goals
          refine ⟨u, _, rfl, ⟨?_, ?_, ?_, ?_⟩⟩
          · (repeat (first | exact Bx_new (by simp; done) | refine Bx_set (u := .bool false) (v := .slice none 0 0) ?_ | refine Bx_oth ?_ (by have h1 := t1; have h2 := t1b; (try simp only [World.size_alloc] at h1 h2); (try simp only [World.size_alloc]); (try dsimp only); omega) | apply Bx_al)); all_goals exact ⟨by simp [go_sem, *], by simp [go_sem, *], by simp [go_sem, *], by simp [go_sem, *]⟩
          · (repeat (first | apply RE_al | refine RE_st3 hF1 (by have h1 := t1; have h2 := t1b; (try simp only [World.size_alloc] at h1 h2); (try simp only [World.size_alloc]); (try dsimp only); omega) ?_ | refine RE_st2 hN1.lt (by have h1 := t1; have h2 := t1b; (try simp only [World.size_alloc] at h1 h2); (try simp only [World.size_alloc]); (try dsimp only); omega) ?_)); exact hN1
          · exact fun _ a ha => Nat.le_trans (by have h1 := t1; have h2 := t1b; (try simp only [World.size_alloc] at h1 h2); (try simp only [World.size_alloc]); (try dsimp only); omega) (hF1 a ha)
          · (repeat (first | exact hW1 | refine Bel_al ?_ (Nat.le_refl _) | refine Bel_st ?_ (by have h1 := t1; have h2 := t1b; (try simp only [World.size_alloc] at h1 h2); (try simp only [World.size_alloc]); (try dsimp only); omega)))
      case rest =>
        obtain ⟨u, g1, rfl, HU⟩ := hcut
        clear x0 x1 d0 d1 hx hy hq0 hq1
        obtain ⟨q0, q1, -, -⟩ := id HU.out.b
        have hb2 := HU.out.bw
        obtain ⟨hi, hz0, hz1, hz2⟩ := HI.out
        have hown0 := own_below H.out.2.1.own hb2
        rw [H.out.1] at hown0
        have HO : Hid (wc.ownsRow (w.heap.size + 1) 50 2 u5 k (fl es)) := hown0
        have hw1 : w.heap.size + 1 ≤ wr.heap.size := block_lt_of_cell H.out.2.2.1.c0
        have hsz : w.heap.size + 1 ≤ wc.heap.size := Nat.le_trans hw1 hb2.size
        clear hown0
        go_wp2_with (refine wpList_append_lies _ rfl _ _ 27 rfl (w.heap.size + 1) 50 i0 (.agg #[.bool false, .slice none 0 0]) 2 32 Tryz.underlying27 hi hz0 hz1 hz2 rfl (by decide) u5 k (fl es) rfl (HO.out.alloc _) ⟨wc.heap.size, 0, none⟩ 1 1 [.bool u.s, .slice u.p u.n u.c] rfl rfl ?_ (fun x hx => by simp at hx; rcases hx with rfl | rfl <;> rfl) (by decide) (by unfold maxLen; omega) (by omega) (by simp; omega) _ rfl ?_; exact World.news_of_block (heap_alloc_new wc _); intro g cap w3 hown3 hgrow3 hat3 hlt3; have hB3 : Below w.heap.size w w3 := ((bnext' H.out.2.2.2 hb2).alloc (by omega) _).grown hgrow3 (by simp; omega) (fun q hq => by have := (HO.out.lt q hq).1; omega); have hX3 : Bx w3 w.heap.size (.bool f.s) (.slice f.p f.n f.c) := Bx.kept ((H.out.2.2.1.later hb2).alloc _) hgrow3 (fun hq => by have := (HO.out.lt _ hq.symm).1; omega); have HA : Hid (LG (w.heap.size + 1) 50 (fun w z e => RE w N z e) w3 (.slice (some ⟨g, 0, none⟩) (k + 1) cap) (es ++ [u]) (vs.take k ++ [gx zs k / y])) := LG.app (lasts_RE N) H.out.1 H.out.2.1 hb2 HU.out.r (fun h0 a ha => .inr (HU.out.f h0 a ha)) hown3 hgrow3 hat3; clear hown3 hgrow3 hat3)
        refine ⟨⟨k + 1, es ++ [u], by omega, by go_num, by have := H.out.1; simp; omega, ?_, hX3, hB3⟩, by simp [intOf]; omega⟩
        rw [take_snocg vs k (by have := HVS.out.2; omega), HVS.out.1 k]
        exact HA.out
    · obtain rfl : k = n := by omega
      obtain ⟨hel, hLR, hbx, hB⟩ := H.out
      have hvl := HVS.out.2
      rw [List.take_of_length_le (by omega)] at hLR
      obtain ⟨q, cap, hv, hPR, hF⟩ := hLR.pr
      subst hv
      rw [hel] at hPR ⊢
      have HB : Hid (Below w.heap.size w wr) := hB
      clear H hLR hB hge hk hbx
      go_wp2_with fail
      refine (rTrim_any N q k cap es vs _ hPR (by omega)).mono ?_
      rintro e w1 ⟨rfl, hb1⟩
      have HP : Hid (PR wr N q k cap es vs) := hPR
      clear hPR
      go_wp2
      go_ret
      have htl := tlen_le vs
      have hcap := HP.out.cap
      have hT := (HP.out.below hb1).take (tlen vs) (tlen vs) (by omega) (Nat.le_refl _) (by omega)
      exact ⟨q, tlen vs, es.take (tlen vs), rfl, hT, fun a ha => Nat.le_of_succ_le (hF a ha), tlen_tr vs, bnext' HB.out hb1⟩
end Go.Proofs.YtneejidiefkgkaaGreatDoor
/-
  ashlarref3.Mul.
-/
namespace Go.Proofs.YtneejidiefkgkaaGreatDoor
open Go.RowKit
set_option linter.unusedVariables false
set_option linter.unusedSimpArgs false

theorem mk_rpoly (n : Nat) (h : n ≤ 1000000000) (w : World) : (Instr.makeSlice 27 (.int .i64 n) (.int .i64 n)).run Tryz.prog w =
    .ok (.slice (some ⟨w.heap.size, 0, none⟩) n n) (w.alloc (.cells (ca2 (ezs n)) 50)) := by
  have hi := info_ref
  cases hq : Tryz.prog.info? 50 with
  | none => rw [hq] at hi; cases hi
  | some i =>
    rw [hq] at hi
    simp only [Option.map_some, Option.some.injEq, Prod.mk.injEq] at hi
    obtain ⟨h1, h2, h3⟩ := hi
    have hr := run_make (P := Tryz.prog) w 27 50 i (.agg #[.bool false, .slice none 0 0]) Tryz.underlying27 hq h1 .i64 .i64 n n (by omega) (Int.le_refl _) (by rw [h3]; omega) (by omega)
    rw [Int.toNat_natCast, h2] at hr
    rw [hr]
    exact congrArg (fun c => Result.ok (Value.slice (some ⟨w.heap.size, 0, none⟩) n n) (w.alloc (.cells c 50))) (made_ez n)
/-- A number of the reference that lies from block B on. -/
def RF (B : Nat) (w : World) (N : Nat) (z : Int) (e : Ent) : Prop := RE w N z e ∧ Go.Proofs.YtneejidiefkgkaaGreatDoor.From B e.p
theorem RF.below {B : Nat} {w w' : World} {N : Nat} {z : Int} {e : Ent} (h : RF B w N z e) (hb : Below w.heap.size w w') : RF B w' N z e := ⟨h.1.below hb, h.2⟩
theorem RF.mono {B B' : Nat} {w : World} {N : Nat} {z : Int} {e : Ent} (h : RF B w N z e) (hB : B' ≤ B) : RF B' w N z e := ⟨h.1, fun a ha => Nat.le_trans hB (h.2 a ha)⟩
theorem RF.set2 {B : Nat} {w : World} {N : Nat} {z : Int} {e : Ent} {g o : Nat} (h : RF B w N z e) (hg : g < B) (u v : Value) : RF B ((w.setCell ⟨g, o, none⟩ u).setCell ⟨g, o + 1, none⟩ v) N z e :=
  ⟨h.1.set2 (fun _ a ha => by have := h.2 a ha; omega), h.2⟩
theorem RF.le {B : Nat} {w : World} {N M : Nat} {z : Int} {e : Ent} (h : RF B w N z e) (hz : (z.natAbs : Int) < pd M) : RF B w M z e := by
  obtain ⟨⟨⟨ds, h1, h2, h3⟩, h4⟩, h5⟩ := h
  exact ⟨⟨⟨ds, h1, h2, h1.fit (by rw [h2]; exact hz)⟩, h4⟩, h5⟩
theorem RF.ez (B : Nat) (w : World) (N : Nat) : RF B w N 0 ez := ⟨⟨⟨[], ⟨rfl, Rd.nil, fun j => by simp [gx], by decide, fun _ => rfl, Nat.zero_le _⟩, by decide, Nat.zero_le _⟩, rfl⟩, fun a ha => by cases ha⟩
/-- Behind some rows of a product. -/
def PrR (F : Nat → Int) (M g N : Nat) (W0 wr : World) : Prop :=
  ∃ es, Row2 wr g 50 es ∧ es.length = N ∧ (∀ t, t < N → RF (g + 1) wr M (F t) (ge es t)) ∧ Below g W0 wr
/-- One entry of a row. -/
theorem rrows_step {w W0 W2 v2 v3 : World} {M M' N i j t : Nat} {zs ys : List Int} {us : List Ent} {e2 : Ent} (hR1 : Row2 W2 w.heap.size 50 us) (hul : us.length = N) (hev : ∀ t, t < N → RF (w.heap.size + 1) W2 M (pj zs ys i j t) (ge us t)) (hB1 : Below w.heap.size W0 W2)
    (hpb : ((pj zs ys i (j + 1) t).natAbs : Int) < pd M) (ht : t = i + j) (htN : t < N) (hs0 : w.heap.size + 1 ≤ W0.heap.size)
    (hV2 : Below W2.heap.size W2 v2) (hb3 : Below v2.heap.size v2 v3) (hN2 : RF v2.heap.size v3 M' (pj zs ys i j t + gx zs i * gx ys j) e2) :
    PrR (pj zs ys i (j + 1)) M w.heap.size N W0 ((v3.setCell ⟨w.heap.size, t * 2, none⟩ (.bool e2.s)).setCell ⟨w.heap.size, t * 2 + 1, none⟩ (.slice e2.p e2.n e2.c)) := by
  have hb := bnext' hV2 hb3
  have hR3 := hR1.below hb hR1.lt
  have hs1 := hB1.size
  have hs2 := hV2.size
  have hval : pj zs ys i j t + gx zs i * gx ys j = pj zs ys i (j + 1) t := by subst ht; exact (pj_succ_same zs ys i j).symm
  rw [hval] at hN2
  refine ⟨us.set t e2, hR3.set t e2 (by omega), by simpa using hul, fun t' ht' => ?_, ?_⟩
  · by_cases he : t' = t
    · subst he
      rw [ge_set_same _ _ _ (by omega)]
      exact ((hN2.le hpb).mono (by omega)).set2 (by omega) _ _
    · rw [ge_set_other _ _ _ _ he, pj_succ_other _ _ _ _ _ (by omega)]
      exact ((hev t' ht').below hb).set2 (by omega) _ _
  · exact ((hB1.trans (hb.mono (by omega))).setCell (p := ⟨w.heap.size, t * 2, none⟩) (Nat.le_refl _) _).setCell (p := ⟨w.heap.size, t * 2 + 1, none⟩) (Nat.le_refl _) _
set_option maxHeartbeats 4000000 in
set_option maxRecDepth 100000 in
/-- ashlarref3.Mul of two that are not zero. -/
theorem rpMul_some {w : World} {A B K L : Nat} {p q : Option Addr} {n nc m mc : Nat} {es fs : List Ent} {zs ys : List Int} (h : PR w A p n nc es zs) (k : PR w B q m mc fs ys) (hn : n ≤ 1000) (hm : m ≤ 1000) (hn1 : 1 ≤ n) (hm1 : 1 ≤ m) (hA : A ≤ 200) (hB : B ≤ 200) (hX : ∀ i, ((gx zs i).natAbs : Int) < pw K) (hY : ∀ i, ((gx ys i).natAbs : Int) < pw L) (hKL : K + L ≤ 100) :
    Calls Tryz.prog 10 #[.slice p n nc, .slice q m mc] w (PrP (tr (mulz zs ys)) (2 * (K + L + 1)) w) := by
  have hel := h.el
  have hfl := k.el
  have hzl := h.zl
  have hyl := k.zl
  obtain ⟨N, hN⟩ : ∃ N, N = n + m - 1 := ⟨_, rfl⟩
  have hNI : (n : Int) + (m : Int) - 1 = (N : Int) := by omega
  have w1 : IntKind.i64.wrap ((n : Int) + (m : Int)) = (n : Int) + (m : Int) := by rw [IntKind.wrap_i64]; omega
  have w2 : IntKind.i64.wrap (N : Int) = (N : Int) := by rw [IntKind.wrap_i64]; omega
  have g1 : ((n : Int) == 0) = false := by rw [beq_eq_false_iff_ne]; omega
  have g2 : ((m : Int) == 0) = false := by rw [beq_eq_false_iff_ne]; omega
  have g3 : ¬ (n : Int) = 0 := by omega
  have g4 : ¬ (m : Int) = 0 := by omega
  have HN : Hid (N = n + m - 1) := hN
  have hN3 : N ≤ 2000 := by omega
  obtain ⟨S, hS⟩ : ∃ S, S = 2 * (K + L + 1) := ⟨_, rfl⟩
  rw [← hS]
  have HS : Hid (S = 2 * (K + L + 1)) := hS
  have hS2 : S ≤ 202 := by omega
  clear hN hS
  have hmk := mk_rpoly N (by omega)
  have HX := (show Hid (∀ i, ((gx zs i).natAbs : Int) < pw K) from hX)
  have HY := (show Hid (∀ i, ((gx ys i).natAbs : Int) < pw L) from hY)
  clear hX hY
  go_enter Tryz.func10, Tryz.ntmps10
  go_wp2_with fail
  have hR0 := Row2.new w 50 (ezs N)
  have hW0 : Below w.heap.size w (w.alloc (.cells (ca2 (ezs N)) 50)) := (Below.refl _ _).alloc (Nat.le_refl _) _
  have hs0 : w.heap.size + 1 ≤ (w.alloc (.cells (ca2 (ezs N)) 50)).heap.size := by simp
  generalize w.alloc (.cells (ca2 (ezs N)) 50) = W0 at *
  clear hmk
  go_loopw [6, 7] (fun iv jv wr => ∃ i : Nat, i ≤ n ∧ iv = .int .i64 i ∧ Hid (PrR (ps zs ys i) S w.heap.size N W0 wr)) (fun iv _ _ => n - (intOf iv).toNat)
  case atStart => exact ⟨0, Nat.zero_le _, by go_num, ezs N, hR0, length_ezs N, fun t ht => by rw [ge_ezs]; exact RF.ez _ _ _, Below.refl _ _⟩
  case round =>
    obtain ⟨i, hi, rfl, H⟩ := hrel
    rcases Nat.lt_or_ge i n with hlt | hge
    · have i1 : (i : Int) < (n : Int) := by omega
      go_wp2_with fail
      go_loopw [7] (fun jv w3 => ∃ j : Nat, j ≤ m ∧ jv = .int .i64 j ∧ Hid (PrR (pj zs ys i j) S w.heap.size N W0 w3)) (fun jv _ => m - (intOf jv).toNat)
      case atStart =>
        obtain ⟨es', hR, hel', hev, hB⟩ := H.out
        exact ⟨0, Nat.zero_le _, by go_num, es', hR, hel', fun t ht => by rw [pj_zero]; exact hev t ht, hB⟩
      case round =>
        obtain ⟨j, hj, rfl, HJ⟩ := hrel
        rcases Nat.lt_or_ge j m with hjm | hjm
        · obtain ⟨us, hR1, hul, hev, hB1⟩ := HJ.out
          have hBw : Below w.heap.size w wr := hW0.trans hB1
          have hPA := h.below hBw
          have hQA := k.below hBw
          obtain ⟨b, o, hp, hc⟩ := hPA.pl (by omega)
          obtain ⟨c, r, hq, hd⟩ := hQA.pl (by omega)
          subst hp hq
          obtain ⟨c0, c1⟩ := hc i (by omega)
          obtain ⟨d0, d1⟩ := hd j (by omega)
          have hv := hPA.ev i hlt
          have hu := hQA.ev j hjm
          have j1 : (j : Int) < (m : Int) := by omega
          obtain ⟨t, ht⟩ : ∃ t, t = i + j := ⟨_, rfl⟩
          have hwt : IntKind.i64.wrap ((i : Int) + (j : Int)) = (t : Int) := by rw [IntKind.wrap_i64]; omega
          have htN : t < N := by have := HN.out; omega
          have HT : Hid (t = i + j) := ht
          obtain ⟨x0, x1⟩ := hR1.cell t (by omega)
          have HE : Hid (∀ t, t < N → RF (w.heap.size + 1) wr S (pj zs ys i j t) (ge us t)) := hev
          have hpb : Hid (((pj zs ys i (j + 1) t).natAbs : Int) < pd S) := by
            show _ < _
            rw [HS.out, pd_two]
            exact pj_bd HX.out HY.out i (j + 1) t (by omega)
          have hmu := rMul_e hv.drew hu.drew (by omega) (by omega)
          clear ht hev hc hd hPA hQA HJ
          go_wp2_with fail
          go_region_with (first
            | (go_at_call 29; go_fit hmu; rintro r v2 ⟨e1, rfl, hN1, hF1, hb2⟩; have hV2 := undrew hb2; have hR2 := hR1.below hV2 hR1.lt; obtain ⟨y0, y1⟩ := hR2.cell t (by omega); have had := rAdd_e ((HE.out t htN).1.below hV2) hN1 (by omega) (by omega))
            | (go_at_call 28; go_fit had; rintro r v3 ⟨e2, rfl, hN2, hF2, hb3⟩; have hR3 := hR2.below hb3 hR2.lt; obtain ⟨z0, z1⟩ := hR3.cell t (by omega); have f0 := hR3.frozen (t * 2); have f1 := hR3.frozen (t * 2 + 1)))
          all_goals
            have hstep := rrows_step (zs := zs) (ys := ys) (i := i) (j := j) hR1 hul HE.out hB1 hpb.out HT.out htN hs0 hV2 hb3 ⟨hN2, hF2⟩
            have HST := (show Hid _ from hstep)
            clear hstep x0 x1 y0 y1 c0 c1 d0 d1 hR1 hB1 HE hN1 hN2 hR2 hR3 hv hu hmu had
            go_wp2
            refine ⟨⟨j + 1, by omega, by go_num, HST.out⟩, by simp [intOf]; omega⟩
        · obtain rfl : j = m := by omega
          have HQ : Hid (PrR (ps zs ys (i + 1)) S w.heap.size N W0 wr) := by
            obtain ⟨us, hR, hul, hev, hB⟩ := HJ.out
            exact ⟨us, hR, hul, fun t ht => by rw [← pj_all, hyl]; exact hev t ht, hB⟩
          clear HJ hjm
          go_wp2
          refine ⟨⟨i + 1, by omega, by go_num, HQ.out⟩, by simp [intOf]; omega⟩
    · obtain rfl : i = n := by omega
      obtain ⟨us, hR, hul, hev, hB⟩ := H.out
      have hvl := length_mulz zs ys
      have hPR : PR wr S (some ⟨w.heap.size, 0, none⟩) N N us (mulz zs ys) := ⟨hul, by have := HN.out; omega, Nat.le_refl _, by unfold maxLen; omega, hR.pl, fun t ht => by
        rw [gx_mulz _ _ _ (by have := HN.out; omega), hzl]
        exact (hev t ht).1⟩
      have HB : Hid (Below w.heap.size w wr) := hW0.trans hB
      clear H hge hR hev hB
      go_wp2_with fail
      refine (rTrim_any S _ N N us (mulz zs ys) _ hPR (by omega)).mono ?_
      rintro e w1 ⟨rfl, hb1⟩
      have HP : Hid (PR wr S (some ⟨w.heap.size, 0, none⟩) N N us (mulz zs ys)) := hPR
      clear hPR
      go_wp2
      go_ret
      have htl := tlen_le (mulz zs ys)
      have hvk := HP.out.zl
      have hT := (HP.out.below hb1).take (tlen (mulz zs ys)) (tlen (mulz zs ys)) (by omega) (Nat.le_refl _) (by omega)
      exact ⟨_, tlen (mulz zs ys), us.take (tlen (mulz zs ys)), rfl, hT, (fun a ha => by cases ha; exact Nat.le_refl _), tlen_tr _, bnext' HB.out hb1⟩
end Go.Proofs.YtneejidiefkgkaaGreatDoor
/-
  ashlarref3.Mul.
-/
namespace Go.Proofs.YtneejidiefkgkaaGreatDoor
open Go.RowKit
set_option linter.unusedVariables false
set_option linter.unusedSimpArgs false

theorem pr_nil (w : World) (N : Nat) : PR w N none 0 0 [] [] := ⟨rfl, rfl, Nat.le_refl _, Nat.zero_le _, PL.nil, fun j hj => by omega⟩
set_option maxHeartbeats 2000000 in
set_option maxRecDepth 100000 in
theorem rpMul_nil (w : World) (N : Nat) (p q : Option Addr) (n m nc mc : Nat) (hn : n ≤ 1000000) (hm : m ≤ 1000000) (h : n = 0 ∨ m = 0) :
    Calls Tryz.prog 10 #[.slice p n nc, .slice q m mc] w (PrP [] N w) := by
  by_cases h0 : n = 0
  · subst h0
    go_enter Tryz.func10, Tryz.ntmps10
    go_wp2
    go_ret
    exact ⟨none, 0, [], rfl, pr_nil _ _, (fun a ha => by cases ha), rfl, Below.refl _ _⟩
  · have h1 : m = 0 := by omega
    subst h1
    have g1 : ((n : Int) == 0) = false := by rw [beq_eq_false_iff_ne]; omega
    have g3 : ¬ (n : Int) = 0 := by omega
    go_enter Tryz.func10, Tryz.ntmps10
    go_wp2
    go_ret
    exact ⟨none, 0, [], rfl, pr_nil _ _, (fun a ha => by cases ha), rfl, Below.refl _ _⟩
/-- ashlarref3.Mul of two normal polynomials. -/
theorem rpMul_any {w : World} {A B K L : Nat} {p q : Option Addr} {n nc m mc : Nat} {es fs : List Ent} {zs ys : List Int} (h : PR w A p n nc es zs) (k : PR w B q m mc fs ys) (hz : tlen zs = zs.length) (hy : tlen ys = ys.length) (hn : n ≤ 1000) (hm : m ≤ 1000) (hA : A ≤ 200) (hB : B ≤ 200) (hX : ∀ i, ((gx zs i).natAbs : Int) < pw K) (hY : ∀ i, ((gx ys i).natAbs : Int) < pw L) (hKL : K + L ≤ 100) :
    Calls Tryz.prog 10 #[.slice p n nc, .slice q m mc] w (PrP (mulp zs ys) (2 * (K + L + 1)) w) := by
  rw [mulp, h.zl, k.zl]
  by_cases h0 : n = 0 ∨ m = 0
  · rw [if_pos h0]
    exact rpMul_nil w _ p q n m nc mc (by omega) (by omega) h0
  · rw [if_neg h0]
    have hzl := h.zl
    have hyl := k.zl
    have := rpMul_some h k hn hm (by omega) (by omega) hA hB hX hY hKL
    rwa [tr_of_tlen (by rw [mulz_top hz hy (by omega) (by omega), length_mulz])] at this
end Go.Proofs.YtneejidiefkgkaaGreatDoor
/-
  ashlarref3.Sub.
-/
namespace Go.Proofs.YtneejidiefkgkaaGreatDoor
open Go.RowKit
set_option linter.unusedVariables false
set_option linter.unusedSimpArgs false

set_option maxHeartbeats 4000000 in
set_option maxRecDepth 100000 in
/-- ashlarref3.Sub. -/
theorem rpSub_any {w : World} {N M : Nat} {p q : Option Addr} {n nc m mc : Nat} {es0 fs0 : List Ent} {zs ys : List Int} (h : PR w N p n nc es0 zs) (h' : PR w M q m mc fs0 ys) (hn : n ≤ 100000) (hm : m ≤ 100000) (hN : N ≤ 390) (hM : M ≤ 390) (hN4 : 4 ≤ N) :
    Calls Tryz.prog 36 #[.slice p n nc, .slice q m mc] w (PrP (tr (pz (· - ·) zs ys)) (N + M + 6) w) := by
  have HT := (show Hid (tr (pz (· + ·) zs (tr (ys.map (-1 * ·)))) = tr (pz (· - ·) zs ys)) from pz_sub zs ys)
  have hyl := h'.zl
  go_enter Tryz.func36, Tryz.ntmps36
  go_wp2_with fail
  refine (rOf_n (-1) _ (by decide) (by decide)).mono ?_
  rintro e w1 ⟨u, rfl, hu, hF, hb1⟩
  go_wp2_with fail
  refine (rpScale_any (h'.below hb1) hu hm (by omega) (by decide)).mono ?_
  rintro e w2 ⟨p2, n2, es2, rfl, h2, hF2, hn2, hb2⟩
  have hn2' : n2 ≤ 100000 := by
    have h3 := h2.zl
    rw [length_tr] at h3
    have h4 := tlen_le (ys.map (-1 * ·))
    rw [List.length_map] at h4
    omega
  go_wp2_with fail
  refine (rpAdd_any (h.below (bnext' hb1 hb2)) h2 hn hn2' (by omega) (by omega) hN4 (by omega)).mono ?_
  rintro e w3 ⟨p3, n3, es3, rfl, h3, hF3, hn3, hb3⟩
  have HP : Hid (PR w3 (N + M + 6) p3 n3 n3 es3 (tr (pz (· - ·) zs ys)) ∧ tlen (tr (pz (· - ·) zs ys)) = n3) := by
    rw [HT.out] at h3 hn3
    exact ⟨⟨h3.el, h3.zl, h3.cap, h3.bnd, h3.pl, fun j hj => (h3.ev j hj).wide (by omega)⟩, hn3⟩
  have hs := (bnext' hb1 hb2).size
  have hB := bnext' (bnext' hb1 hb2) hb3
  clear h3 hn3 h2 hu h h'
  go_wp2
  go_ret
  exact ⟨p3, n3, es3, rfl, HP.out.1, fun a ha => Nat.le_trans hs (hF3 a ha), HP.out.2, hB⟩
end Go.Proofs.YtneejidiefkgkaaGreatDoor
