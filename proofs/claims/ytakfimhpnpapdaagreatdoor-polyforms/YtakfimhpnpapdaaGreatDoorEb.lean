/-
  PolyForms, its walk.
-/
import Derived.Test.YtakfimhpnpapdaaGreatDoorDcPmCu
import Derived.Test.YtakfimhpnpapdaaGreatDoorVkJoUz
import Derived.Test.YtakfimhpnpapdaaGreatDoorUhHe
import Derived.Test.YtakfimhpnpapdaaGreatDoorVsVtVd
import Derived.Test.YtakfimhpnpapdaaGreatDoorWfUuUx
namespace Go.Proofs.YtakfimhpnpapdaaGreatDoor
open Go.RowKit
set_option linter.unusedVariables false
set_option linter.unusedSimpArgs false

/-- A list and its limbs, which may be written. -/
structure XI (B2 B3 : Nat) (w : World) (p : Option Addr) (n : Nat) (es : List Ent) : Prop where
  el : es.length = n
  pl : PL w p es
  sml : ∀ i, i < n → (ge es i).n ≤ 1000
  lim : ∀ i, i < n → 0 < (ge es i).n → ∃ b o, (ge es i).p = some ⟨b, o, none⟩ ∧ B2 ≤ b ∧ b < B3 ∧ ∀ j, j < (ge es i).n → (∃ z, w.cell? ⟨b, o + j, none⟩ = some (.int .u32 z)) ∧ w.frozen? ⟨b, o + j, none⟩ = false
theorem xi_of {B2 K : Nat} {w : World} {p : Option Addr} {n : Nat} {es : List Ent} {zs : List Int} (h : PN B2 w K p n es zs) (hK : K ≤ 1000) : XI B2 w.heap.size w p n es :=
  ⟨h.el, h.pl, fun i hi => by obtain ⟨xs, h1, h2, h3⟩ := h.ev i hi; omega, fun i hi h0 => by
    obtain ⟨xs, h1, h2, h3⟩ := h.ev i hi
    obtain ⟨b, o, hp, hc⟩ := h1.rd (by rw [h1.len]; exact h0)
    obtain ⟨hl, hf⟩ := h1.fz _ hp
    exact ⟨b, o, hp, h1.fr _ hp, hl, fun j hj => ⟨⟨_, hc j (by rw [h1.len]; exact hj)⟩, hf _⟩⟩⟩
theorem XI.below {B2 B3 : Nat} {w w' : World} {p : Option Addr} {n : Nat} {es : List Ent} (h : XI B2 B3 w p n es) (hb : Below w.heap.size w w') : XI B2 B3 w' p n es :=
  ⟨h.el, h.pl.below hb, h.sml, fun i hi h0 => by
    obtain ⟨b, o, hp, h1, h2, h3⟩ := h.lim i hi h0
    refine ⟨b, o, hp, h1, h2, fun j hj => ?_⟩
    obtain ⟨⟨z, hz⟩, hf⟩ := h3 j hj
    exact ⟨⟨z, cell_later hb hz⟩, (hb.frozen (p := ⟨b, o + j, none⟩) (block_lt_of_cell hz)).trans hf⟩⟩
theorem XI.put {B2 B3 : Nat} {w : World} {p : Option Addr} {n : Nat} {es : List Ent} (h : XI B2 B3 w p n es) {b o : Nat} {z : Int} (hc : w.cell? ⟨b, o, none⟩ = some (.int .u32 z)) (v : Int) : XI B2 B3 (w.setCell ⟨b, o, none⟩ (.int .u32 v)) p n es := by
  have oth : ∀ (a : Addr) (u : Value), w.cell? a = some u → (∀ y, u ≠ .int .u32 y) → (w.setCell ⟨b, o, none⟩ (.int .u32 v)).cell? a = some u := fun a u ha hne => by
    rw [World.cell?_setCell_other _ _ _ _ (fun e => by subst e; rw [hc] at ha; cases ha; exact hne z rfl)]
    exact ha
  refine ⟨h.el, fun hx => ?_, h.sml, fun i hi h0 => ?_⟩
  · obtain ⟨b', o', hp, hcs⟩ := h.pl hx
    exact ⟨b', o', hp, fun j hj => ⟨oth _ _ (hcs j hj).1 (fun y => by simp), oth _ _ (hcs j hj).2 (fun y => by simp)⟩⟩
  · obtain ⟨b', o', hp, h1, h2, h3⟩ := h.lim i hi h0
    refine ⟨b', o', hp, h1, h2, fun j hj => ?_⟩
    obtain ⟨⟨y, hy⟩, hf⟩ := h3 j hj
    refine ⟨?_, by rw [World.frozen?_setCell]; exact hf⟩
    by_cases e : (⟨b, o, none⟩ : Addr) = ⟨b', o' + j, none⟩
    · rw [← e]
      exact ⟨v, World.cell?_setCell_same' _ _ _ (by rw [hc]; rfl)⟩
    · exact ⟨y, by rw [World.cell?_setCell_other _ _ _ _ e]; exact hy⟩
theorem PN.put {B : Nat} {w : World} {K : Nat} {p : Option Addr} {n : Nat} {es : List Ent} {zs : List Int} (h : PN B w K p n es zs) {b o : Nat} (hb : b < B) (v : Value) : PN B (w.setCell ⟨b, o, none⟩ v) K p n es zs :=
  ⟨h.el, h.zl, h.nrm, h.pl.set_other _ _ (off_from h.fr hb), h.fr, fun j hj => by
    obtain ⟨xs, c1, c2, c3⟩ := h.ev j hj
    exact ⟨xs, c1.set (a := ⟨b, o, none⟩) hb v, c2, c3⟩⟩
/-- The list with zeros behind. -/
def SG (W : World) (zs : List Int) (n j : Nat) (sv : Value) (wr : World) : Prop :=
  ∃ us : List Ent, us.length = n + j ∧ LG W.heap.size 29 (fun w z e => EV w 4 z e) wr sv us (zs ++ zeros j) ∧ Below W.heap.size W wr
theorem sg_none (W : World) : SG W [] 0 0 (.slice none 0 0) W := ⟨[], rfl, LG.nil _ _ _ _, Below.refl _ _⟩
theorem sg_whole {W w3 : World} {p : Option Addr} {n nc g cap : Nat} {es : List Ent} {zs : List Int} (h : PA W 4 p n nc es zs) (hown : w3.ownsRow W.heap.size 29 2 (.slice (some ⟨g, 0, none⟩) n cap) n (fl es)) (hg : W.grownBy w3 none) (hat : g = W.heap.size) : SG W zs n 0 (.slice (some ⟨g, 0, none⟩) n cap) w3 := by
  refine ⟨es, h.el, ⟨by rw [h.el]; exact hown, by rw [show zeros 0 = [] from rfl, List.append_nil, h.zl, h.el], fun j hj => ?_, fun j hj h0 a ha e => ?_⟩, below_of_grown hg⟩
  · rw [show zeros 0 = [] from rfl, List.append_nil]
    exact (lasts_EV 4).grown (h.ev j (by rw [← h.el]; exact hj)) hg (fun _ a _ e => by cases e)
  · have h1 := (lasts_EV 4).lt (h.ev j (by rw [← h.el]; exact hj)) h0 a ha
    have h2 : a.block = g := Option.some.inj e
    omega
theorem zeros_one (j : Nat) : zeros (j + 1) = zeros j ++ [0] := by simp [zeros, List.replicate_succ']
theorem ev_zero {w : World} {t : TypeId} : EV (w.alloc (.cells #[.int .u32 0, .int .u32 0] t)) 4 0 ⟨true, some ⟨w.heap.size, 0, none⟩, 2, 2⟩ := by
  refine ⟨[0, 0], ⟨rfl, Nat.le_refl _, by show 2 ≤ maxLen; decide, by show 2 ≤ 100000000; decide, ?_, ?_⟩, rfl, by show 2 ≤ 4; decide⟩
  · exact (show Row (w.alloc (.cells #[.int .u32 0, .int .u32 0] t)) w.heap.size t .u32 [0, 0] from heap_alloc_new w _).rd_all
  · intro j
    match j with
    | 0 => decide
    | 1 => decide
    | (j + 2) => simp [gx]
theorem news2 (w : World) (A : Obj) (x y : Value) (t : TypeId) : ∀ j u, [x, y][j]? = some u → ((w.alloc A).alloc (.cells #[x, y] t)).cell? ((⟨w.heap.size + 1, 0, none⟩ : Addr).add j) = some u := by
  have h := World.news_of_block (heap_alloc_new (w.alloc A) (.cells #[x, y] t))
  rwa [World.size_alloc] at h
theorem sg_more {W wr w3 : World} {zs : List Int} {n j g cap : Nat} {v : Value} {us : List Ent} {A o : Obj} (hul : us.length = n + j) (hLG : LG W.heap.size 29 (fun w z e => EV w 4 z e) wr v us (zs ++ zeros j)) (hB : Below W.heap.size W wr) (hE : EV (wr.alloc A) 4 0 ⟨true, some ⟨wr.heap.size, 0, none⟩, 2, 2⟩)
    (hown : w3.ownsRow W.heap.size 29 2 (.slice (some ⟨g, 0, none⟩) (n + j + 1) cap) (n + j + 1) (fl us ++ [.bool true, .slice (some ⟨wr.heap.size, 0, none⟩) 2 2])) (hgrow : ((wr.alloc A).alloc o).grownBy w3 v.ownBlock) (hat : v.ownBlock = some g ∨ g = ((wr.alloc A).alloc o).heap.size) : SG W zs n (j + 1) (.slice (some ⟨g, 0, none⟩) (n + j + 1) cap) w3 := by
  have hal := bel_al (o := A) (Below.refl wr.heap.size wr)
  have h1 := lg_app (lasts_EV 4) hul hLG hal hE (from_new (Nat.le_refl _)) hown hgrow hat
  rw [List.append_assoc, ← zeros_one] at h1
  refine ⟨_, ?_, h1, ((bnext' hB hal).alloc (Nat.le_trans hB.size hal.size) _).grown hgrow (Nat.le_trans hB.size (Nat.le_trans hal.size (by simp))) (fun q hq => (hLG.own.lt q hq).1)⟩
  rw [List.length_append, hul]
  rfl
/-- What holds behind both products. -/
structure FP (w W2 wr : World) (B3 : Nat) (p q s px py : Option Addr) (n nc m mc ns cs nx ny : Nat) (es fs us ex ey : List Ent) (zs ys ss : List Int) : Prop where
  p : PA W2 4 p n nc es zs
  q : PA W2 4 q m mc fs ys
  s : PA W2 4 s ns cs us ss
  x : XI W2.heap.size B3 wr px nx ex
  y : PN B3 wr 9 py ny ey (mulp (tr zs) (tr ys))
  b : Below W2.heap.size W2 wr
  bw : Below w.heap.size w W2
theorem FP.put {w W2 wr : World} {B3 : Nat} {p q s px py : Option Addr} {n nc m mc ns cs nx ny : Nat} {es fs us ex ey : List Ent} {zs ys ss : List Int} (h : FP w W2 wr B3 p q s px py n nc m mc ns cs nx ny es fs us ex ey zs ys ss) {b o : Nat} {z : Int} (hc : wr.cell? ⟨b, o, none⟩ = some (.int .u32 z)) (h1 : W2.heap.size ≤ b) (h2 : b < B3) (v : Int) : FP w W2 (wr.setCell ⟨b, o, none⟩ (.int .u32 v)) B3 p q s px py n nc m mc ns cs nx ny es fs us ex ey zs ys ss :=
  ⟨h.p, h.q, h.s, h.x.put hc v, h.y.put h2 _, h.b.setCell (p := ⟨b, o, none⟩) h1 _, h.bw⟩
set_option maxHeartbeats 4000000 in
set_option maxRecDepth 100000 in
/-- PolyForms. -/
theorem PolyForms_walk {w : World} {p q : Option Addr} {n nc m mc : Nat} {es fs : List Ent} {kk : Int} (h : PZ w p n nc es) (k : PZ w q m mc fs) :
    Calls Tryz.prog 3 #[.slice p n nc, .slice q m mc, .int .i64 kk] w fun r w' => r = .returned (.bool true) ∧ Below w.heap.size w w' := by
  obtain ⟨i0, hi, hzz⟩ := Option.map_eq_some_iff.1 info_api
  simp only [Prod.mk.injEq] at hzz
  obtain ⟨hz0, hz1, hz2⟩ := hzz
  have HI : Hid (Tryz.prog.info? 29 = some i0 ∧ i0.zero = some (.agg #[.bool false, .slice none 0 0]) ∧ i0.size = 2 ∧ i0.bytes = 32) := ⟨hi, hz0, hz1, hz2⟩
  have HX : Hid (PZ w p n nc es ∧ PZ w q m mc fs) := ⟨h, k⟩
  clear h k hi hz0 hz1 hz2
  go_enter Tryz.func3, Tryz.ntmps3
  go_wp2_with fail
  refine (begun3_any w).mono ?_
  rintro r W1 ⟨rfl, hb0⟩
  have hc1 := few_any (HX.out.1.below hb0)
  go_wp2_with fail
  refine hc1.mono ?_
  rintro r w1 ⟨p1, n1, nc1, es1, zs, rfl, hP1, hn1, -, -, hb1⟩
  have hn9 : n1 ≤ 9 := by omega
  clear hn1
  have hc2 := few_any ((HX.out.2.below hb0).below hb1)
  clear hc1
  go_wp2_with fail
  refine hc2.mono ?_
  rintro r W ⟨q1, m1, mc1, fs1, ys, rfl, hQ1, hm1, -, -, hb2⟩
  have hm9 : m1 ≤ 9 := by omega
  have HP : Hid (PA W 4 p1 n1 nc1 es1 zs ∧ PA W 4 q1 m1 mc1 fs1 ys ∧ Below w.heap.size w W) := ⟨hP1.below hb2, hQ1, bnext' (bnext' hb0 hb1) hb2⟩
  clear hc2 hP1 hQ1 hm1 hb0 hb1 hb2 HX
  obtain ⟨hi, hz0, hz1, hz2⟩ := HI.out
  go_upto_region 3 with fail
  go_cut [8] (fun sv wc => Hid (SG W zs n1 0 sv wc))
  case first =>
    have hcs : Hid (n1 = 0 ∨ 1 ≤ n1) := by show _ ∨ _; omega
    rcases hcs.out with h0 | h1
    · subst h0
      have hzn : zs = [] := List.eq_nil_of_length_eq_zero HP.out.1.zl
      subst hzn
      clear hcs
      rcases p1 with _ | ⟨b, o, sp⟩
      · have hnc : nc1 = 0 := HP.out.1.pn rfl
        subst hnc
        go_wp2
        go_meet
        exact sg_none W
      · go_wp2
        go_meet
        exact sg_none W
    · obtain ⟨b, o, hp, hc⟩ := HP.out.1.pl (by rw [HP.out.1.el]; exact h1)
      subst hp
      have hel := HP.out.1.el
      have hcc := PL.cells hc
      clear hcs hc
      go_wp2_with (refine wpList_append_lies _ rfl _ _ 23 rfl W.heap.size 29 i0 (.agg #[.bool false, .slice none 0 0]) 2 32 Tryz.underlying23 hi hz0 hz1 hz2 rfl (by decide) (.slice none 0 0) 0 [] rfl (World.ownsRow_nil _ _ _ _) ⟨b, o, none⟩ n1 nc1 (fl es1) rfl (by rw [length_fl, hel]) (fun j u hu => by rw [Addr.add_mid]; exact hcc j u hu) (one_flat es1) h1 (by unfold maxLen; omega) (by omega) (Nat.le_refl _) _ rfl ?_; intro g cap w3 hown3 hgrow3 hat3 hlt3; rw [Nat.zero_add, List.nil_append] at hown3; have HS : Hid (SG W zs n1 0 (.slice (some ⟨g, 0, none⟩) n1 cap) w3) := sg_whole HP.out.1 hown3 hgrow3 (by rcases hat3 with h9 | h9; cases h9; exact h9); rw [Nat.zero_add]; clear hown3 hgrow3 hat3 hlt3)
      go_meet
      exact HS.out
  case rest =>
    have HS0 := hcut
    clear hcut
    go_wp2_with fail
    go_loopw [8, 9] (fun sv iv wr => ∃ j : Nat, j ≤ 4 ∧ iv = .int .i64 j ∧ Hid (SG W zs n1 j sv wr)) (fun _ iv _ => 4 - (intOf iv).toNat)
    case atStart => exact ⟨0, by decide, by go_num, HS0.out⟩
    case round =>
      clear HS0
      obtain ⟨j, hj, rfl, H⟩ := hrel
      have hcs : Hid (((j : Int) < kk ∧ (j : Int) < 4) ∨ (¬ (j : Int) < kk) ∨ ((j : Int) < kk ∧ ¬ (j : Int) < 4)) := by show _ ∨ _; omega
      rcases hcs.out with ⟨j1, j2⟩ | j1 | ⟨j1, j2⟩
      · clear hcs
        obtain ⟨us, hul, hLG, hB⟩ := H.out
        have HE : Hid (EV (wr.alloc (.cells #[.int .u32 0, .int .u32 0] 26)) 4 0 ⟨true, some ⟨wr.heap.size, 0, none⟩, 2, 2⟩) := ev_zero
        have hal := bel_al (o := .cells #[.int .u32 0, .int .u32 0] 26) (Below.refl wr.heap.size wr)
        have hown0 := own_below hLG.own hal
        rw [hul] at hown0
        have HO : Hid ((wr.alloc (.cells #[.int .u32 0, .int .u32 0] 26)).ownsRow W.heap.size 29 2 u8 (n1 + j) (fl us)) := hown0
        have hsz : W.heap.size ≤ wr.heap.size := hB.size
        have HH : Hid (us.length = n1 + j ∧ LG W.heap.size 29 (fun w z e => EV w 4 z e) wr u8 us (zs ++ zeros j) ∧ Below W.heap.size W wr) := ⟨hul, hLG, hB⟩
        clear hown0 hul hLG hB H
        go_wp2_with (refine wpList_append_lies _ rfl _ _ 23 rfl W.heap.size 29 i0 (.agg #[.bool false, .slice none 0 0]) 2 32 Tryz.underlying23 hi hz0 hz1 hz2 rfl (by decide) u8 (n1 + j) (fl us) rfl (HO.out.alloc _) ⟨wr.heap.size + 1, 0, none⟩ 1 1 [.bool true, .slice (some ⟨wr.heap.size, 0, none⟩) 2 2] rfl rfl (news2 wr _ _ _ _) (fun x hx => by simp at hx; rcases hx with rfl | rfl <;> rfl) (by decide) (by unfold maxLen; omega) (by omega) (by simp; omega) _ rfl ?_; intro g cap w3 hown3 hgrow3 hat3 hlt3; have HS3 : Hid (SG W zs n1 (j + 1) (.slice (some ⟨g, 0, none⟩) (n1 + j + 1) cap) w3) := sg_more HH.out.1 HH.out.2.1 HH.out.2.2 HE.out hown3 hgrow3 hat3; clear hown3 hgrow3 hat3)
        refine ⟨⟨j + 1, by omega, by go_num, HS3.out⟩, by simp [intOf]; omega⟩
      · as_aux_lemma =>
          clear hcs
          obtain ⟨us, hul, hLG, hB⟩ := H.out
          obtain ⟨qs, cap, hv, hc1, hc2, hPL, -, hpn⟩ := hLG.pl
          subst hv
          rw [hul] at hc1
          have HS : Hid (PA wr 4 qs (n1 + j) cap us (zs ++ zeros j) ∧ Below W.heap.size W wr ∧ tr (zs ++ zeros j) = tr zs) := by
            refine ⟨⟨hul, by rw [hLG.zl, hul], hc1, hc2, hpn, hPL, fun t ht => hLG.ev t (by omega)⟩, hB, tr_same fun t => ?_⟩
            rcases Nat.lt_or_ge t zs.length with h9 | h9
            · rw [gx_append_left _ _ _ h9]
            · rw [gx_append_right _ _ _ h9, gx_zeros, gx_past zs zs.length (Nat.le_refl _) t h9]
          rw [hul]
          clear hul hLG hB hPL hpn hc1 hc2 H
          generalize zs ++ zeros j = ss at *
          generalize hns : n1 + j = ns at *
          have hns13 : ns ≤ 13 := by omega
          clear hns
          have HB : Hid (PA wr 4 p1 n1 nc1 es1 zs ∧ PA wr 4 q1 m1 mc1 fs1 ys ∧ Below w.heap.size w wr) := ⟨HP.out.1.below HS.out.2.1, HP.out.2.1.below HS.out.2.1, bnext' HP.out.2.2 HS.out.2.1⟩
          have HD : Hid ((∀ t, ((gx zs t).natAbs : Int) < 2 ^ 128) ∧ (∀ t, ((gx ys t).natAbs : Int) < 2 ^ 128) ∧ tlen zs ≤ 9 ∧ tlen ys ≤ 9 ∧ tlen ss = tlen zs) := ⟨fun t => HP.out.1.lt t, fun t => HP.out.2.1.lt t, by have := tlen_le zs; have := HP.out.1.zl; omega, by have := tlen_le ys; have := HP.out.2.1.zl; omega, by rw [← length_tr, HS.out.2.2, length_tr]⟩
          have hmul := uMul_w HS.out.1 HB.out.2.1 (by omega) (by omega) (by decide) 9 (fun a b => by
            rw [HS.out.2.2]
            exact wd_bits (a := 128) (b := 128) (c := 4) (pb_of fun t => by rw [gx_tr]; exact HD.out.1 t) (pb_of fun t => by rw [gx_tr]; exact HD.out.2.1 t) (by rw [length_tr]; have := HD.out.2.2.2.2; omega) (by rw [length_tr]; omega) (by rw [length_tr]; have := HD.out.2.2.1; omega) (by decide) (by decide)) (by have := HD.out; omega) (by have := HD.out; omega)
          go_wp2_with fail
          refine hmul.mono ?_
          rintro r w3 ⟨px, nx, ex, rfl, hx3, hb3⟩
          clear hmul
          have hnx : nx ≤ 18 := by
            rw [← hx3.zl]
            unfold mulp
            split
            · exact Nat.zero_le _
            · rw [length_mulz, length_tr, length_tr]; have := HD.out; omega
          have hmul := uMul_any (HB.out.1.below hb3) (HB.out.2.1.below hb3) (by omega) (by omega) (by decide) (by omega) (by omega)
          go_wp2_with fail
          refine hmul.mono ?_
          rintro r w4 ⟨py, ny, ey, rfl, hy4, hb4⟩
          clear hmul
          have HF0 : Hid (FP w wr w4 w3.heap.size p1 q1 qs px py n1 nc1 m1 mc1 ns cap nx ny es1 fs1 us ex ey zs ys ss) := ⟨HB.out.1, HB.out.2.1, HS.out.1, (xi_of hx3 (by decide)).below hb4, hy4, bnext' hb3 hb4, HB.out.2.2⟩
          have HT : Hid (tr ss = tr zs) := HS.out.2.2
          clear hx3 hy4 hb3 hb4 HB HS HP
          generalize w3.heap.size = B3 at *
          obtain ⟨W2, rfl⟩ : ∃ W2, W2 = wr := ⟨_, rfl⟩
          go_wp2_with fail
          go_loopw [13, 14] (fun iv _ wq => ∃ i : Nat, i ≤ nx ∧ iv = .int .i64 i ∧ Hid (FP w W2 wq B3 p1 q1 qs px py n1 nc1 m1 mc1 ns cap nx ny es1 fs1 us ex ey zs ys ss)) (fun iv _ _ => nx - (intOf iv).toNat)
          case atStart => exact ⟨0, Nat.zero_le _, by go_num, HF0.out⟩
          case round =>
            clear HF0
            obtain ⟨i, hin, rfl, HI2⟩ := hrel
            rcases Nat.lt_or_ge i nx with hlt | hge
            · have i1 : (i : Int) < (nx : Int) := by omega
              have hni := HI2.out.x.sml i hlt
              go_wp2_with fail
              go_loopw [14] (fun jv wq => ∃ t : Nat, t ≤ (ge ex i).n ∧ jv = .int .i64 t ∧ Hid (FP w W2 wq B3 p1 q1 qs px py n1 nc1 m1 mc1 ns cap nx ny es1 fs1 us ex ey zs ys ss)) (fun jv _ => (ge ex i).n - (intOf jv).toNat)
              case atStart => exact ⟨0, Nat.zero_le _, by go_num, HI2.out⟩
              case round =>
                clear HI2
                obtain ⟨t, htn, rfl, HJ⟩ := hrel
                obtain ⟨b, o, hpx, hc⟩ := HJ.out.x.pl (by rw [HJ.out.x.el]; omega)
                have HPX : Hid (px = some ⟨b, o, none⟩) := hpx
                subst hpx
                obtain ⟨c0, c1⟩ := hc i (by rw [HJ.out.x.el]; exact hlt)
                clear hc
                rcases Nat.lt_or_ge t (ge ex i).n with hlt2 | hge2
                · obtain ⟨b2, o2, hp2, h1, h2, h3⟩ := HJ.out.x.lim i hlt (by omega)
                  obtain ⟨⟨z, hz⟩, hf⟩ := h3 t hlt2
                  rw [hp2] at c1
                  have HV := (show Hid _ from HJ.out.put hz h1 h2 9)
                  clear h1 h2 h3 hp2
                  generalize (ge ex i).n = ni at *
                  generalize (ge ex i).c = ci at *
                  have t1 : (t : Int) < (ni : Int) := by omega
                  go_wp2
                  refine ⟨⟨t + 1, by omega, by go_num, HV.out⟩, by simp [intOf]; omega⟩
                · obtain rfl : t = (ge ex i).n := by omega
                  have HJ2 := (show Hid _ from HJ.out)
                  clear HJ hge2 htn
                  go_wp2
                  refine ⟨⟨i + 1, by omega, by go_num, HJ2.out⟩, by simp [intOf]; omega⟩
            · obtain rfl : i = nx := by omega
              clear hge hin
              have HB := HI2.out.b
              have hf1 := rpFrom_any (HI2.out.p.below HB) (by omega) (by decide)
              go_wp2_with fail
              refine hf1.mono ?_
              rintro r v1 ⟨pa, na, ea, rfl, hRa, -, hta, hc1⟩
              clear hf1
              have hf2 := rpFrom_any ((HI2.out.q.below HB).below hc1) (by omega) (by decide)
              go_wp2_with fail
              refine hf2.mono ?_
              rintro r v2 ⟨pb', nb, eb, rfl, hRb, -, htb, hc2⟩
              clear hf2
              have hna : na ≤ 9 := by rw [← hta, tlen_tr]; exact HD.out.2.2.1
              have hnb : nb ≤ 9 := by rw [← htb, tlen_tr]; exact HD.out.2.2.2.1
              have hmu := rpMul_any (K := 4) (L := 4) (hRa.below hc2) hRb (by rw [tlen_tr, length_tr]) (by rw [tlen_tr, length_tr]) (by omega) (by omega) (by decide) (by decide) (fun t => by rw [gx_tr]; exact HI2.out.p.gbd t) (fun t => by rw [gx_tr]; exact HI2.out.q.gbd t) (by decide)
              go_wp2_with fail
              refine hmu.mono ?_
              rintro r v3 ⟨pm, nm, em, rfl, hRm, -, htm, hc3⟩
              clear hmu
              have hC3 := bnext' (bnext' hc1 hc2) hc3
              have hny : ny ≤ 18 := by
                rw [← HI2.out.y.zl]
                unfold mulp
                split
                · exact Nat.zero_le _
                · rw [length_mulz, length_tr, length_tr]; have := HD.out; omega
              obtain rfl : nm = ny := by rw [← hRm.zl, ← HI2.out.y.zl]
              have his := rpIs_any (HI2.out.y.below hC3) hRm (by decide) (by decide) (by omega)
              clear hRa hRb hta htb htm
              go_wp2_with fail
              refine his.mono ?_
              rintro r v4 ⟨rfl, hc4⟩
              clear his hRm
              have hC4 := bnext' (bnext' HB hC3) hc4
              have heq := uEq_any (HI2.out.s.below hC4) (HI2.out.p.below hC4) (by omega) (by omega)
              rw [decide_eq_true HT.out] at heq
              have HZ : Hid (Below w.heap.size w v4) := bnext' HI2.out.bw hC4
              clear hC4 hC3 hc1 hc2 hc3 hc4 HI2 HB
              go_wp2_with fail
              refine heq.mono ?_
              rintro r v5 ⟨rfl, hc5⟩
              clear heq
              go_wp2
              go_ret
              exact ⟨by simp, bnext' HZ.out hc5⟩
      · as_aux_lemma =>
          clear hcs
          obtain ⟨us, hul, hLG, hB⟩ := H.out
          obtain ⟨qs, cap, hv, hc1, hc2, hPL, -, hpn⟩ := hLG.pl
          subst hv
          rw [hul] at hc1
          have HS : Hid (PA wr 4 qs (n1 + j) cap us (zs ++ zeros j) ∧ Below W.heap.size W wr ∧ tr (zs ++ zeros j) = tr zs) := by
            refine ⟨⟨hul, by rw [hLG.zl, hul], hc1, hc2, hpn, hPL, fun t ht => hLG.ev t (by omega)⟩, hB, tr_same fun t => ?_⟩
            rcases Nat.lt_or_ge t zs.length with h9 | h9
            · rw [gx_append_left _ _ _ h9]
            · rw [gx_append_right _ _ _ h9, gx_zeros, gx_past zs zs.length (Nat.le_refl _) t h9]
          rw [hul]
          clear hul hLG hB hPL hpn hc1 hc2 H
          generalize zs ++ zeros j = ss at *
          generalize hns : n1 + j = ns at *
          have hns13 : ns ≤ 13 := by omega
          clear hns
          have HB : Hid (PA wr 4 p1 n1 nc1 es1 zs ∧ PA wr 4 q1 m1 mc1 fs1 ys ∧ Below w.heap.size w wr) := ⟨HP.out.1.below HS.out.2.1, HP.out.2.1.below HS.out.2.1, bnext' HP.out.2.2 HS.out.2.1⟩
          have HD : Hid ((∀ t, ((gx zs t).natAbs : Int) < 2 ^ 128) ∧ (∀ t, ((gx ys t).natAbs : Int) < 2 ^ 128) ∧ tlen zs ≤ 9 ∧ tlen ys ≤ 9 ∧ tlen ss = tlen zs) := ⟨fun t => HP.out.1.lt t, fun t => HP.out.2.1.lt t, by have := tlen_le zs; have := HP.out.1.zl; omega, by have := tlen_le ys; have := HP.out.2.1.zl; omega, by rw [← length_tr, HS.out.2.2, length_tr]⟩
          have hmul := uMul_w HS.out.1 HB.out.2.1 (by omega) (by omega) (by decide) 9 (fun a b => by
            rw [HS.out.2.2]
            exact wd_bits (a := 128) (b := 128) (c := 4) (pb_of fun t => by rw [gx_tr]; exact HD.out.1 t) (pb_of fun t => by rw [gx_tr]; exact HD.out.2.1 t) (by rw [length_tr]; have := HD.out.2.2.2.2; omega) (by rw [length_tr]; omega) (by rw [length_tr]; have := HD.out.2.2.1; omega) (by decide) (by decide)) (by have := HD.out; omega) (by have := HD.out; omega)
          go_wp2_with fail
          refine hmul.mono ?_
          rintro r w3 ⟨px, nx, ex, rfl, hx3, hb3⟩
          clear hmul
          have hnx : nx ≤ 18 := by
            rw [← hx3.zl]
            unfold mulp
            split
            · exact Nat.zero_le _
            · rw [length_mulz, length_tr, length_tr]; have := HD.out; omega
          have hmul := uMul_any (HB.out.1.below hb3) (HB.out.2.1.below hb3) (by omega) (by omega) (by decide) (by omega) (by omega)
          go_wp2_with fail
          refine hmul.mono ?_
          rintro r w4 ⟨py, ny, ey, rfl, hy4, hb4⟩
          clear hmul
          have HF0 : Hid (FP w wr w4 w3.heap.size p1 q1 qs px py n1 nc1 m1 mc1 ns cap nx ny es1 fs1 us ex ey zs ys ss) := ⟨HB.out.1, HB.out.2.1, HS.out.1, (xi_of hx3 (by decide)).below hb4, hy4, bnext' hb3 hb4, HB.out.2.2⟩
          have HT : Hid (tr ss = tr zs) := HS.out.2.2
          clear hx3 hy4 hb3 hb4 HB HS HP
          generalize w3.heap.size = B3 at *
          obtain ⟨W2, rfl⟩ : ∃ W2, W2 = wr := ⟨_, rfl⟩
          go_wp2_with fail
          go_loopw [13, 14] (fun iv _ wq => ∃ i : Nat, i ≤ nx ∧ iv = .int .i64 i ∧ Hid (FP w W2 wq B3 p1 q1 qs px py n1 nc1 m1 mc1 ns cap nx ny es1 fs1 us ex ey zs ys ss)) (fun iv _ _ => nx - (intOf iv).toNat)
          case atStart => exact ⟨0, Nat.zero_le _, by go_num, HF0.out⟩
          case round =>
            clear HF0
            obtain ⟨i, hin, rfl, HI2⟩ := hrel
            rcases Nat.lt_or_ge i nx with hlt | hge
            · have i1 : (i : Int) < (nx : Int) := by omega
              have hni := HI2.out.x.sml i hlt
              go_wp2_with fail
              go_loopw [14] (fun jv wq => ∃ t : Nat, t ≤ (ge ex i).n ∧ jv = .int .i64 t ∧ Hid (FP w W2 wq B3 p1 q1 qs px py n1 nc1 m1 mc1 ns cap nx ny es1 fs1 us ex ey zs ys ss)) (fun jv _ => (ge ex i).n - (intOf jv).toNat)
              case atStart => exact ⟨0, Nat.zero_le _, by go_num, HI2.out⟩
              case round =>
                clear HI2
                obtain ⟨t, htn, rfl, HJ⟩ := hrel
                obtain ⟨b, o, hpx, hc⟩ := HJ.out.x.pl (by rw [HJ.out.x.el]; omega)
                have HPX : Hid (px = some ⟨b, o, none⟩) := hpx
                subst hpx
                obtain ⟨c0, c1⟩ := hc i (by rw [HJ.out.x.el]; exact hlt)
                clear hc
                rcases Nat.lt_or_ge t (ge ex i).n with hlt2 | hge2
                · obtain ⟨b2, o2, hp2, h1, h2, h3⟩ := HJ.out.x.lim i hlt (by omega)
                  obtain ⟨⟨z, hz⟩, hf⟩ := h3 t hlt2
                  rw [hp2] at c1
                  have HV := (show Hid _ from HJ.out.put hz h1 h2 9)
                  clear h1 h2 h3 hp2
                  generalize (ge ex i).n = ni at *
                  generalize (ge ex i).c = ci at *
                  have t1 : (t : Int) < (ni : Int) := by omega
                  go_wp2
                  refine ⟨⟨t + 1, by omega, by go_num, HV.out⟩, by simp [intOf]; omega⟩
                · obtain rfl : t = (ge ex i).n := by omega
                  have HJ2 := (show Hid _ from HJ.out)
                  clear HJ hge2 htn
                  go_wp2
                  refine ⟨⟨i + 1, by omega, by go_num, HJ2.out⟩, by simp [intOf]; omega⟩
            · obtain rfl : i = nx := by omega
              clear hge hin
              have HB := HI2.out.b
              have hf1 := rpFrom_any (HI2.out.p.below HB) (by omega) (by decide)
              go_wp2_with fail
              refine hf1.mono ?_
              rintro r v1 ⟨pa, na, ea, rfl, hRa, -, hta, hc1⟩
              clear hf1
              have hf2 := rpFrom_any ((HI2.out.q.below HB).below hc1) (by omega) (by decide)
              go_wp2_with fail
              refine hf2.mono ?_
              rintro r v2 ⟨pb', nb, eb, rfl, hRb, -, htb, hc2⟩
              clear hf2
              have hna : na ≤ 9 := by rw [← hta, tlen_tr]; exact HD.out.2.2.1
              have hnb : nb ≤ 9 := by rw [← htb, tlen_tr]; exact HD.out.2.2.2.1
              have hmu := rpMul_any (K := 4) (L := 4) (hRa.below hc2) hRb (by rw [tlen_tr, length_tr]) (by rw [tlen_tr, length_tr]) (by omega) (by omega) (by decide) (by decide) (fun t => by rw [gx_tr]; exact HI2.out.p.gbd t) (fun t => by rw [gx_tr]; exact HI2.out.q.gbd t) (by decide)
              go_wp2_with fail
              refine hmu.mono ?_
              rintro r v3 ⟨pm, nm, em, rfl, hRm, -, htm, hc3⟩
              clear hmu
              have hC3 := bnext' (bnext' hc1 hc2) hc3
              have hny : ny ≤ 18 := by
                rw [← HI2.out.y.zl]
                unfold mulp
                split
                · exact Nat.zero_le _
                · rw [length_mulz, length_tr, length_tr]; have := HD.out; omega
              obtain rfl : nm = ny := by rw [← hRm.zl, ← HI2.out.y.zl]
              have his := rpIs_any (HI2.out.y.below hC3) hRm (by decide) (by decide) (by omega)
              clear hRa hRb hta htb htm
              go_wp2_with fail
              refine his.mono ?_
              rintro r v4 ⟨rfl, hc4⟩
              clear his hRm
              have hC4 := bnext' (bnext' HB hC3) hc4
              have heq := uEq_any (HI2.out.s.below hC4) (HI2.out.p.below hC4) (by omega) (by omega)
              rw [decide_eq_true HT.out] at heq
              have HZ : Hid (Below w.heap.size w v4) := bnext' HI2.out.bw hC4
              clear hC4 hC3 hc1 hc2 hc3 hc4 HI2 HB
              go_wp2_with fail
              refine heq.mono ?_
              rintro r v5 ⟨rfl, hc5⟩
              clear heq
              go_wp2
              go_ret
              exact ⟨by simp, bnext' HZ.out hc5⟩
end Go.Proofs.YtakfimhpnpapdaaGreatDoor
