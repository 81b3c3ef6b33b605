/-
  RootsWith' walk.
-/
import Derived.Test.YtejnhpjejcpekaaGreatDoorIuW2W4
import Derived.Deep.DeepCutAuto
import Derived.Test.YtejnhpjejcpekaaGreatDoorCuOaOfJpDhFr
namespace Go.Proofs.YtejnhpjejcpekaaGreatDoor
open Go.RowKit
set_option linter.unusedVariables false
set_option linter.unusedSimpArgs false
set_option maxHeartbeats 8000000
theorem PZ.cutn {w : World} {p : Option Addr} {n nc : Nat} {es : List Ent} (h : PZ w p n nc es) (m : Nat) (hm : m ≤ n) : PZ w p m nc (es.take m) :=
  ⟨by have := h.el; simp; omega, by have := h.cap; omega, h.bnd, h.pn, h.pl.take m, fun j hj => by rw [ge_take _ _ _ hj]; exact h.ev j (by omega)⟩
def OffR (row : Option Nat) (q : Option Addr) (m : Nat) (qs : List Ent) : Prop := (0 < m → ∀ a, q = some a → some a.block ≠ row) ∧ ∀ j, j < m → 0 < (ge qs j).n → ∀ a, (ge qs j).p = some a → some a.block ≠ row
theorem PR.grow {w w' : World} {N : Nat} {p : Option Addr} {n nc : Nat} {es : List Ent} {zs : List Int} {row : Option Nat} (h : PR w N p n nc es zs) (hg : w.grownBy w' row) (ho : OffR row p n es) : PR w' N p n nc es zs :=
  ⟨h.el, h.zl, h.cap, h.bnd, fun hx => (h.pl.same fun a ha hlt => hg.block a.block hlt fun e => ho.1 (by rw [← h.el]; exact hx) a ha e) hx, fun j hj => (lasts_RE N).grown (h.ev j hj) hg (ho.2 j hj)⟩
structure RwL (w0 wr : World) (Z : List Int) (i : Nat) (lv : Value) (es : List Ent) (vs : List Int) (q : Option Addr) (m : Nat) (qs : List Ent) : Prop where
  el : es.length = i
  l : LG w0.heap.size 26 (fun w z e => EV w 2 z e) wr lv es vs
  qp : PR wr 40 q m m qs (mln vs Z i)
  qo : OffR lv.ownBlock q m qs
  b : Below w0.heap.size w0 wr
theorem RwL.later {w0 wr wr' : World} {Z : List Int} {i : Nat} {lv : Value} {es : List Ent} {vs : List Int} {q : Option Addr} {m : Nat} {qs : List Ent} (k : RwL w0 wr Z i lv es vs q m qs) (hb : Below wr.heap.size wr wr') : RwL w0 wr' Z i lv es vs q m qs :=
  ⟨k.el, k.l.below (lasts_EV 2) hb, k.qp.below hb, k.qo, bnext' k.b hb⟩
theorem rwl_kept {w0 wr W4 w5 : World} {Z : List Int} {i gxx : Nat} {lv : Value} {es : List Ent} {vs : List Int} {q : Option Addr} {m : Nat} {qs : List Ent} {o : Obj} {x : Int} {xe : Ent} (H : RwL w0 wr Z i lv es vs q m qs) (hB4 : Below wr.heap.size wr W4) (hgw : wr.heap.size ≤ gxx) (hgl : gxx < W4.heap.size) (hX4 : Bx W4 gxx (.bool xe.s) (.slice xe.p xe.n xe.c)) (hxv : EV W4 2 x xe) (hxf : 0 < xe.n → ∀ a, xe.p = some a → wr.heap.size ≤ a.block) (hgrow : (W4.alloc o).grownBy w5 lv.ownBlock) :
    w5.cell? ⟨gxx, 0, none⟩ = some (.bool xe.s) ∧ w5.cell? ⟨gxx, 1, none⟩ = some (.slice xe.p xe.n xe.c) ∧ EV w5 2 x xe ∧ PR w5 40 q m m qs (mln vs Z i) := by
  have hne : some gxx ≠ lv.ownBlock := fun e => by
    have := (H.l.own.lt gxx e.symm).2
    omega
  have hal : Below W4.heap.size W4 (W4.alloc o) := bel_al (Below.refl _ _)
  have hbk : w5.heap[gxx]? = (W4.alloc o).heap[gxx]? := hgrow.block gxx (by have := hal.size; omega) hne
  refine ⟨(World.cell?_of_block (a := ⟨gxx, 0, none⟩) hbk).trans (cell_later hal hX4.c0), (World.cell?_of_block (a := ⟨gxx, 1, none⟩) hbk).trans (cell_later hal hX4.c1), (lasts_EV 2).grown (hxv.below hal) hgrow (fun h0 a ha e => ?_), ((H.qp.below hB4).below hal).grow hgrow H.qo⟩
  have h1 := (H.l.own.lt a.block e.symm).2
  have h2 := hxf h0 a ha
  omega
theorem lin_bd {x : Int} (h : (x.natAbs : Int) < pw 2) : ∀ t, ((gx (lin x) t).natAbs : Int) < pw 2 := fun t => by
  rcases t with _ | _ | t
  · show ((-x).natAbs : Int) < pw 2
    rw [Int.natAbs_neg]
    exact h
  · show ((1 : Int).natAbs : Int) < pw 2
    decide
  · rw [gx_past (lin x) 2 (by simp [lin]) _ (by omega)]
    exact pw_pos 2
theorem mln_snoc {vs Z : List Int} {x : Int} {i : Nat} (h : vs.length = i) : mln (vs ++ [x]) Z (i + 1) = mulp (mln vs Z i) (lin x) := by
  rw [mln, mln_congr (ys := vs) fun j hj => gx_app_lo _ _ _ (by omega)]
  have h1 := gx_app_hi vs [x] 0
  rw [h, Nat.add_zero] at h1
  rw [h1]
  rfl
theorem lg_bd {base : Nat} {wr : World} {lv : Value} {es : List Ent} {vs : List Int} (h : LG base 26 (fun w z e => EV w 2 z e) wr lv es vs) (j : Nat) : ((gx vs j).natAbs : Int) < pw 2 := by
  rcases Nat.lt_or_ge j es.length with h1 | h1
  · exact (h.ev j h1).bd
  · rw [gx_past vs _ (Nat.le_of_eq h.zl) j h1]
    exact pw_pos 2
structure RvL (w0 wr : World) (vs Z : List Int) (i : Nat) (q : Option Addr) (m : Nat) (qs : List Ent) (ys : List Int) (k0 : Nat) : Prop where
  p : PR wr 110 q m m qs ys
  nr : tlen ys = m
  m1 : 1 ≤ m
  mk0 : m + k0 ≤ 9
  bd : ∀ t, ((gx ys t).natAbs : Int) < 9 ^ k0 * pw 15
  c : chn vs i Z ys
  b : Below w0.heap.size w0 wr
set_option maxRecDepth 100000 in
theorem RootsWith_walk {w : World} {p : Option Addr} {n nc : Nat} {es0 : List Ent} {xp : Option Addr} {n2 xc : Nat} {xs0 : List Ent} (h : PZ w p n nc es0) (hx : PZ w xp n2 xc xs0) :
    Calls Tryz.prog 4 #[.slice p n nc, .slice xp n2 xc] w fun r w' => r = .returned (.bool true) ∧ Below w.heap.size w w' := by
  obtain ⟨i0, hi0, hzz⟩ := Option.map_eq_some_iff.1 info_apiI
  simp only [Prod.mk.injEq] at hzz
  obtain ⟨hz0, hz1, hz2⟩ := hzz
  have HI : Hid (Tryz.prog.info? 26 = some i0 ∧ i0.zero = some (.agg #[.bool false, .slice none 0 0]) ∧ i0.size = 2 ∧ i0.bytes = 32) := ⟨hi0, hz0, hz1, hz2⟩
  have HX : Hid (PZ w p n nc es0 ∧ PZ w xp n2 xc xs0) := ⟨h, hx⟩
  have hnm : n2 ≤ 9223372036854775807 := by have h1 := hx.cap; have h2 := hx.bnd; unfold maxLen at h2; omega
  have hcm : n2 ≤ xc := hx.cap
  clear h hx hi0 hz0 hz1 hz2
  go_enter Tryz.func4, Tryz.ntmps4
  go_wp2_with fail
  go_fit (begun4_any _)
  rintro e1 W ⟨rfl, hW⟩
  go_wp2_with fail
  go_fit (Cut3_any (HX.out.1.below hW) 5 2 (by decide) (by decide))
  rintro r w1 ⟨q1, m1, c1, f1, zs, rfl, hP1, hm1, -, -, hb1⟩
  have hm5 : m1 ≤ 5 := by omega
  have HP1 : Hid (PA w1 2 q1 m1 c1 f1 zs ∧ Below w.heap.size w w1 ∧ m1 ≤ 5) := ⟨hP1, bnext' hW hb1, hm5⟩
  clear hm1 hP1 hb1 hW hm5
  go_upto_if 21 with fail
  go_cut [1] from 22 to 23 (fun xv wc => ∃ n3 : Nat, n3 ≤ 4 ∧ n3 ≤ n2 ∧ xv = .slice xp n3 xc ∧ wc = w1)
  case first =>
    rcases Nat.lt_or_ge 4 n2 with h4 | h4
    · have i1 : (4 : Int) < (n2 : Int) := by omega
      have i2 : (4 : Int) ≤ (xc : Int) := by omega
      go_wp2_with fail
      go_meet
      exact ⟨4, by decide, by omega, rfl, rfl⟩
    · have i1 : ¬ (4 : Int) < (n2 : Int) := by omega
      go_wp2_with fail
      go_meet
      exact ⟨n2, h4, Nat.le_refl _, rfl, rfl⟩
  case rest =>
    obtain ⟨n3, hn3, hn32, rfl, rfl⟩ := hcut
    have HXS : Hid (PZ w xp n3 xc (xs0.take n3) ∧ n3 ≤ 4) := ⟨HX.out.2.cutn n3 hn32, hn3⟩
    clear HX hn32 hcm hnm
    have hfr := rpFrom_any HP1.out.1 (by have := HP1.out.2.2; omega) (by decide)
    go_wp2_with fail
    go_fit hfr
    rintro r w2 ⟨ql, ml, fl', rfl, hL, hF2, ht2, hb2⟩
    have HV : Hid (tlen (tr zs) = (tr zs).length ∧ (tr zs).length = ml ∧ ml ≤ 5 ∧ ∀ t, ((gx (tr zs) t).natAbs : Int) < pw 2) := by
      have h1 := hL.zl
      have h2 := HP1.out.1.zl
      have h3 := length_tr zs
      have h4 := tlen_le zs
      have h5 := HP1.out.2.2
      exact ⟨by omega, h1, by omega, fun t => by rw [gx_tr]; exact HP1.out.1.gbd t⟩
    have H0 : Hid (RwL w2 w2 (tr zs) 0 (.slice none 0 0) [] [] ql ml fl') := ⟨rfl, LG.nil _ _ _ _, hL.wide (by decide), ⟨fun _ a _ e => (nomatch e), fun _ _ _ a _ e => (nomatch e)⟩, Below.refl _ _⟩
    have HQ : Hid (PZ w xp n3 xc (xs0.take n3) ∧ n3 ≤ 4 ∧ m1 ≤ 5 ∧ PA w2 2 q1 m1 c1 f1 zs ∧ PR w2 4 ql ml ml fl' (tr zs) ∧ Below w.heap.size w w2) := ⟨HXS.out.1, HXS.out.2, HP1.out.2.2, HP1.out.1.below hb2, hL, bnext' HP1.out.2.1 hb2⟩
    have HZZ : Hid (tr zs = tr zs) := rfl
    clear hfr hL hF2 ht2 hb2 HP1 HXS HZZ
    have HTZ : Hid (∃ Z', tr zs = Z') := ⟨_, rfl⟩
    clear HTZ
    generalize hZZ : tr zs = Z at *
    have HZ' : Hid (tr zs = Z) := hZZ
    clear hZZ
    generalize xs0.take n3 = xs at *
    go_wp2_with fail
    go_loopw [6, 7, 9, 10] (fun lv qv iv _ wr => ∃ (i : Nat) (es : List Ent) (vs : List Int) (q : Option Addr) (m : Nat) (qs : List Ent), i ≤ n3 ∧ qv = .slice q m m ∧ iv = .int .i64 i ∧ Hid (RwL w2 wr Z i lv es vs q m qs)) (fun _ _ iv _ _ => n3 - (intOf iv).toNat)
    case atStart => exact ⟨0, [], [], ql, ml, fl', Nat.zero_le _, rfl, by go_num, H0.out⟩
    case round =>
      clear H0
      obtain ⟨i, es, vs, q, m, qs, hi, rfl, rfl, H⟩ := hrel
      rcases Nat.lt_or_ge i n3 with hlt | hge
      · have hPZ := HQ.out.1.below (bnext' HQ.out.2.2.2.2.2 H.out.b)
        obtain ⟨b, o, hp, hc⟩ := hPZ.pl (by rw [hPZ.el]; omega)
        subst hp
        obtain ⟨c0, c1'⟩ := hc i (by rw [hPZ.el]; omega)
        have hraw := HQ.out.1.ev i hlt
        have i1 : (i : Int) < (n3 : Int) := by omega
        have hal := bel_al (o := .cells #[.bool (ge xs i).s, .slice (ge xs i).p (ge xs i).n (ge xs i).c] 26) (Below.refl wr.heap.size wr)
        obtain ⟨d0, d1⟩ := cells_lit wr (.bool (ge xs i).s) (.slice (ge xs i).p (ge xs i).n (ge xs i).c) 26
        have hcut := cutOne_any hraw (bnext' (bnext' HQ.out.2.2.2.2.2 H.out.b) hal) d0 d1 2 (by decide)
        have HA : Hid (Below wr.heap.size wr (wr.alloc (.cells #[.bool (ge xs i).s, .slice (ge xs i).p (ge xs i).n (ge xs i).c] 26))) := hal
        clear hPZ hc hraw d0 d1 hal
        go_wp2_with fail
        generalize (wr.alloc (.cells #[.bool (ge xs i).s, .slice (ge xs i).p (ge xs i).n (ge xs i).c] 26)) = W2 at *
        go_fit hcut
        rintro r w3 ⟨b3, o3, c3, xe, x, rfl, d0, d1, hxv, hxf, hb3⟩
        have hB3 := bnext' HA.out hb3
        have hxf' : 0 < xe.n → ∀ a, xe.p = some a → wr.heap.size ≤ a.block := fun h0 a ha => Nat.le_trans HA.out.size (hxf h0 a ha)
        clear hcut hxf hb3 HA c0 c1'
        go_upto_region 12 with fail
        have hal := bel_al (o := .cells #[.bool xe.s, .slice xe.p xe.n xe.c] 26) (Below.refl w3.heap.size w3)
        have hX4 : Bx (w3.alloc (.cells #[.bool xe.s, .slice xe.p xe.n xe.c] 26)) w3.heap.size (.bool xe.s) (.slice xe.p xe.n xe.c) := Bx.new _ _ _ rfl
        have hB4 := bnext' hB3 hal
        have hxv4 := hxv.below hal
        have hgl : w3.heap.size < (w3.alloc (.cells #[.bool xe.s, .slice xe.p xe.n xe.c] 26)).heap.size := by simp
        have hgw : wr.heap.size ≤ w3.heap.size := hB3.size
        clear hal hB3 d0 d1 hxv
        generalize w3.alloc (.cells #[.bool xe.s, .slice xe.p xe.n xe.c] 26) = W4 at *
        generalize w3.heap.size = gxx at *
        obtain ⟨x0, x1, -, -⟩ := id hX4
        have hown0 := own_below H.out.l.own hB4
        rw [H.out.el] at hown0
        have HO : Hid (W4.ownsRow w2.heap.size 26 2 u6 i (fl es)) := hown0
        have hsz : w2.heap.size ≤ W4.heap.size := Nat.le_trans H.out.b.size hB4.size
        have hnn : i ≤ 4 := by have := HQ.out.2.1; omega
        clear hown0
        obtain ⟨hi', hz0, hz1, hz2⟩ := HI.out
        go_wp2_with (refine wpList_append_lies _ rfl _ _ 22 rfl w2.heap.size 26 i0 (.agg #[.bool false, .slice none 0 0]) 2 32 Tryz.underlying22 hi' hz0 hz1 hz2 rfl (by decide) u6 i (fl es) rfl (HO.out.alloc _) ⟨W4.heap.size, 0, none⟩ 1 1 [.bool xe.s, .slice xe.p xe.n xe.c] rfl rfl ?_ (fun x hx => by simp at hx; rcases hx with rfl | rfl <;> rfl) (by decide) (by unfold maxLen; omega) (by omega) (by simp; omega) _ rfl ?_; exact World.news_of_block (heap_alloc_new W4 _); intro g cap w5 hown3 hgrow3 hat3 hlt3; obtain ⟨y0, y1, hxv5, hq5⟩ := rwl_kept H.out hB4 hgw hgl hX4 hxv4 hxf' hgrow3)
        have HN5 : Hid (LG w2.heap.size 26 (fun w z e => EV w 2 z e) w5 (.slice (some ⟨g, 0, none⟩) (i + 1) cap) (es ++ [xe]) (vs ++ [x]) ∧ Below w2.heap.size w2 w5 ∧ g < w5.heap.size) := ⟨LG.app (lasts_EV 2) H.out.el H.out.l hB4 hxv4 (fun h0 a ha => .inr (hxf' h0 a ha)) hown3 hgrow3 hat3, ((bnext' H.out.b hB4).alloc hsz _).grown hgrow3 (by simp; omega) (fun q hq => (HO.out.lt q hq).1), hlt3⟩
        have HM5 : Hid (EV w5 2 x xe ∧ PR w5 40 q m m qs (mln vs Z i) ∧ vs.length = i ∧ es.length = i ∧ ∀ t, ((gx (mln vs Z i) t).natAbs : Int) < pw (2 + 3 * i)) := ⟨hxv5, hq5, by rw [H.out.l.zl, H.out.el], H.out.el, mln_bd HV.out.2.2.2 (lg_bd H.out.l) i⟩
        clear hown3 hgrow3 hat3 hlt3 hxv5 hq5 hX4 hxv4 x0 x1 HO hi' hz0 hz1 hz2 H hxf' hB4 hsz
        go_fit (rFrom_e HM5.out.1)
        rintro r w6 ⟨ne, rfl, hne, -, hb6⟩
        go_wp2_with fail
        go_fit (rLine_any hne)
        rintro r w7 ⟨g7, f7, rfl, hL7, -, hb7⟩
        have hB7 := bnext' hb6 hb7
        have hmu := rpMul_new (K := 2 + 3 * i) (L := 2) (HM5.out.2.1.below hB7) hL7 (mln_nrm HV.out.1 i) (by rw [lin_tl]; rfl) (by have h1 := HM5.out.2.1.zl; have h2 := mln_lenl (xs := vs) (zs := Z) i; have h3 := HV.out.2.1; have h4 := HV.out.2.2.1; omega) (by decide) (by decide) (by decide) HM5.out.2.2.2.2 (lin_bd HM5.out.1.bd) (by omega)
        have HB7 : Hid (Below w5.heap.size w5 w7) := hB7
        clear hne hb6 hL7 hb7 hB7
        go_wp2_with fail
        go_fit hmu
        rintro r w8 ⟨q8, m8, f8, rfl, hP8, hF8, -, hE8, hb8⟩
        have HN : Hid (RwL w2 w8 Z (i + 1) (.slice (some ⟨g, 0, none⟩) (i + 1) cap) (es ++ [xe]) (vs ++ [x]) q8 m8 f8) := by
          have hB8 := bnext' HB7.out hb8
          have hs := HB7.out.size
          have hg := HN5.out.2.2
          refine ⟨by rw [List.length_append, HM5.out.2.2.2.1]; rfl, HN5.out.1.below (lasts_EV 2) hB8, ?_, ⟨fun h0 a ha e => ?_, fun j hj h0 a ha e => ?_⟩, bnext' HN5.out.2.1 hB8⟩
          · rw [mln_snoc HM5.out.2.2.1]
            exact hP8.wide (by omega)
          · have h1 := hF8 a ha
            have h2 : a.block = g := by simpa [Value.ownBlock] using e
            omega
          · have h1 := hE8 j hj h0 a ha
            have h2 : a.block = g := by simpa [Value.ownBlock] using e
            omega
        clear hmu hP8 hF8 hE8 hb8 HB7 HM5 HN5
        go_wp2
        exact ⟨⟨i + 1, es ++ [xe], vs ++ [x], q8, m8, f8, by omega, rfl, by go_num, HN.out⟩, by simp [intOf]; omega⟩
      · obtain rfl : i = n3 := by omega
        obtain ⟨lq, lc, hlv, hc1, hc2, hPL, -, hpn⟩ := H.out.l.pl
        rw [H.out.el] at hlv hc1
        have hvl : vs.length = i := by rw [H.out.l.zl, H.out.el]
        have HL : Hid (PA wr 2 lq i lc es vs) := ⟨H.out.el, hvl, hc1, hc2, hpn, hPL, fun j hj => H.out.l.ev j (by rw [H.out.el]; exact hj)⟩
        have HW : Hid (PR wr 40 q m m qs (mln vs Z i) ∧ Below w.heap.size w wr ∧ PA wr 2 q1 m1 c1 f1 zs ∧ PR wr 4 ql ml ml fl' Z ∧ m1 ≤ 5) := ⟨H.out.qp, bnext' HQ.out.2.2.2.2.2 H.out.b, HQ.out.2.2.2.1.below H.out.b, HQ.out.2.2.2.2.1.below H.out.b, HQ.out.2.2.1⟩
        have HT : Hid (tlen (mln vs Z i) = (mln vs Z i).length ∧ (mln vs Z i).length ≤ 9 ∧ vs.length = i) := ⟨mln_nrm HV.out.1 i, by have h1 := mln_lenl (xs := vs) (zs := Z) i; have h2 := HV.out.2.1; have h3 := HV.out.2.2.1; omega, hvl⟩
        clear H HQ hPL hc1 hc2 hpn hi hge hvl
        generalize u6 = lv0 at *
        subst hlv
        have hwi := rtWith_any HW.out.2.2.1 HL.out (by have := HW.out.2.2.2.2; omega) (by omega) (by decide)
        rw [HZ'.out] at hwi
        go_wp2_with fail
        go_fit hwi
        rintro r w3 ⟨q3, m3, f3, rfl, hP3, hm3, hb3⟩
        have H3 : Hid (PN wr.heap.size w3 (2 + i * 3) q3 m3 f3 (mln vs Z i) ∧ PR w3 40 q m m qs (mln vs Z i) ∧ PR w3 4 ql ml ml fl' Z ∧ PA w3 2 lq i lc es vs ∧ Below w.heap.size w w3 ∧ m3 ≤ 9) := ⟨hP3, HW.out.1.below hb3, HW.out.2.2.2.1.below hb3, HL.out.below hb3, bnext' HW.out.2.1 hb3, by have h1 := hP3.zl; have h2 := HT.out.2.1; omega⟩
        have his := rpIs_c (pc := m3) H3.out.1 H3.out.2.1 (by omega) (by decide) (by have := H3.out.2.2.2.2.2; omega)
        clear hwi hP3 hm3 hb3 HW HL
        go_wp2_with fail
        go_fit his
        rintro r w4 ⟨rfl, hb4⟩
        have H4 : Hid (PA w4 14 q3 m3 m3 f3 (mln vs Z i) ∧ PR w4 4 ql ml ml fl' Z ∧ PA w4 2 lq i lc es vs ∧ Below w.heap.size w w4 ∧ m3 ≤ 9) := ⟨((H3.out.1.below hb4).wider (by omega)).pa (by decide) (by have := H3.out.2.2.2.2.2; omega), H3.out.2.2.1.below hb4, H3.out.2.2.2.1.below hb4, bnext' H3.out.2.2.2.2.1 hb4, H3.out.2.2.2.2.2⟩
        have hK : 14 + (i + 1) * m3 ≤ 70 := by
          have h1 := Nat.mul_le_mul (show i + 1 ≤ 5 by omega) H4.out.2.2.2.2
          omega
        have hwo := without_told H4.out.1 H4.out.2.2.1 (by have := H4.out.2.2.2.2; omega) hK (by decide) (by omega)
        clear his hb4 H3 hK
        go_wp2_with fail
        go_fit hwo
        rintro r w5 ⟨q5, m5, c5, e5, rfl, HWI, hb5⟩
        have H5 : Hid (PR w5 4 ql ml ml fl' Z ∧ PA w5 2 lq i lc es vs ∧ Below w.heap.size w w5) := ⟨H4.out.2.1.below hb5, H4.out.2.2.1.below hb5, bnext' H4.out.2.2.2.1 hb5⟩
        have HG : Hid ((tlen (mln vs Z i) = 0 → m5 = 0 ∧ e5 = 2) ∧ (tlen (mln vs Z i) ≠ 0 → e5 = 0 ∧ ∃ qs ys, PC 0 w5 70 q5 m5 c5 qs ys ∧ m5 ≤ 9 ∧ chn vs i (mln vs Z i) ys)) := ⟨HWI.out.1, fun h0 => by
          obtain ⟨a1, qs', ys', a2, a3, a4⟩ := HWI.out.2 h0
          have h1 := Nat.mul_le_mul (show i ≤ 4 by omega) H4.out.2.2.2.2
          rw [tr_self HT.out.1] at a4
          exact ⟨a1, qs', ys', ⟨(a2.pn.mono (Nat.zero_le _)).wider (by omega), a2.cap, a2.bnd, a2.nil⟩, by have := H4.out.2.2.2.2; omega, a4⟩⟩
        clear hwo hb5 HWI H4
        have hml : Hid (ml = 0 ∨ 0 < ml) := by show _ ∨ _; omega
        rcases hml.out with h7 | h7
        · subst h7
          have hZ0 : Z = [] := List.length_eq_zero_iff.1 HV.out.2.1
          have hM0 : ∀ j, mln vs Z j = [] := fun j => by
            induction j with
            | zero => exact hZ0
            | succ j ih => rw [mln, ih, mlin_nil]
          obtain ⟨rfl, rfl⟩ := HG.out.1 (by rw [hM0]; rfl)
          have HB : Hid (Below w.heap.size w w5) := H5.out.2.2
          clear H5 HG HT HV hml hZ0 hM0 HZ'
          go_wp2_with fail
          go_ret
          exact ⟨rfl, HB.out⟩
        have hne0 : tlen (mln vs Z i) ≠ 0 := by
          have h1 : ∀ j, 0 < (mln vs Z j).length := fun j => by
            induction j with
            | zero => show 0 < Z.length; rw [HV.out.2.1]; exact h7
            | succ j ih => rw [mln, mlin_len _ ih]; omega
          have := h1 i
          rw [HT.out.1]
          omega
        obtain ⟨rfl, qs5, y5, hP5, hm59, hC5⟩ := HG.out.2 hne0
        have HK : Hid (PC 0 w5 70 q5 m5 c5 qs5 y5 ∧ m5 ≤ 9 ∧ chn vs i (mln vs Z i) y5) := ⟨hP5, hm59, hC5⟩
        have g7 : ((ml : Int) == 0) = false := by rw [beq_eq_false_iff_ne]; omega
        have H0 : Hid (RvL w5 w5 vs Z 0 ql ml fl' Z 0) := ⟨H5.out.1.wide (by decide), by rw [HV.out.1, HV.out.2.1], h7, by have := HV.out.2.2.1; omega, fun t => by
          have h1 := HV.out.2.2.2 t
          have h2 := pw_mono (show 2 ≤ 15 by decide)
          rw [Int.pow_zero, Int.one_mul]
          omega, rfl, Below.refl _ _⟩
        clear hP5 hm59 hC5 HG hne0 hml
        go_wp2_with fail
        go_loopw [8, 15] (fun qv iv wr => ∃ (k : Nat) (q : Option Addr) (m : Nat) (qs : List Ent) (ys : List Int) (k0 : Nat), k ≤ i ∧ qv = .slice q m m ∧ iv = .int .i64 k ∧ Hid (RvL w5 wr vs Z k q m qs ys k0)) (fun _ iv _ => i - (intOf iv).toNat)
        case atStart => exact ⟨0, ql, ml, fl', Z, 0, Nat.zero_le _, rfl, by go_num, H0.out⟩
        case round =>
          clear H0
          obtain ⟨k, q, m, qs, ys, k0, hk, rfl, rfl, H⟩ := hrel
          rcases Nat.lt_or_ge k i with hlt | hge
          · have hXX := H5.out.2.1.below H.out.b
            obtain ⟨b, o, hp, hc⟩ := hXX.pl (by rw [hXX.el]; omega)
            subst hp
            obtain ⟨c0, c1'⟩ := hc k (by rw [hXX.el]; exact hlt)
            have hv := hXX.ev k hlt
            have i1 : (k : Int) < (i : Int) := by omega
            clear hXX hc
            go_wp2_with fail
            go_fit (rFrom_e hv)
            rintro r w6 ⟨ne, rfl, hne, -, hb6⟩
            have hrw := rrWithout_any (k0 := k0) (H.out.p.below hb6) H.out.nr H.out.m1 H.out.mk0 H.out.bd hne
            have HB6 : Hid (Below wr.heap.size wr w6) := hb6
            clear hv hne hb6 c0 c1'
            go_wp2_with fail
            go_fit hrw
            rintro r w7 ⟨q7, m7, f7, y7, k7, rfl, hP7, hn7, h17, h97, hR7, hbd7, hmk7, hb7⟩
            have HN : Hid (RvL w5 w7 vs Z (k + 1) q7 m7 f7 y7 (k0 + k7)) := ⟨hP7, hn7, h17, by have h1 := H.out.mk0; have h2 := H.out.p.zl; omega, hbd7, ⟨ys, k7, H.out.c, hR7⟩, bnext' (bnext' H.out.b HB6.out) hb7⟩
            clear hrw hP7 hR7 hbd7 hb7 HB6 H hn7 h17 h97 hmk7
            go_wp2
            exact ⟨⟨k + 1, q7, m7, f7, y7, k0 + k7, by omega, rfl, by go_num, HN.out⟩, by simp [intOf]; omega⟩
          · obtain rfl : k = i := by omega
            have hyy : y5 = ys := chn_one HK.out.2.2 (chn_mln HV.out.1 H.out.c k (Nat.le_refl _))
            subst hyy
            have hiv := rpIs_c (pc := c5) (HK.out.1.pn.below H.out.b) H.out.p (by decide) (by decide) (by have := HK.out.2.1; omega)
            have HB7 : Hid (Below w.heap.size w wr) := bnext' H5.out.2.2 H.out.b
            clear H H5 HK HV HT HZ'
            go_wp2_with fail
            go_fit hiv
            rintro r w8 ⟨rfl, hb8⟩
            have HB8 : Hid (Below w.heap.size w w8) := bnext' HB7.out hb8
            clear hiv hb8 HB7
            go_wp2
            go_ret
            exact ⟨rfl, HB8.out⟩
open Go.ChangeShapes Go.WideShapes Go.ChangeAt Go.RowKit Go.Joins
set_option maxRecDepth 100000 in
theorem openIntL {H : Type} {enc : TypeId × Value → H} {W : World} {base : Nat} {v0 : Value} {d0 : DataW H} {p0 : List MemPlace} (hv : Value.okWide Tryz.prog W .any base 22 v0)
    (h0 : DataW.Trod enc Tryz.prog W 0 (fun _ => true) true 22 v0 d0 p0) : ∃ (p : Option Addr) (n nc : Nat) (es : List Ent), v0 = .slice p n nc ∧ PZ W p n nc es := by
  obtain ⟨a0, len, cap, rfl⟩ := okWide_slice Tryz.underlying22 hv
  obtain ⟨fuel, hf⟩ := h0
  rcases Go.Deep.open_slice_pairs Tryz.underlying22 Tryz.underlying26 cellsI2 rfl rfl cellsB cellsUs hf with ⟨hcs, -⟩ | ⟨a, len', cap', m, k, V0, V1, D0, D1, P0, P1, hcs, -, hl, hm, hmm, -, hcell⟩
  · simp [Value.cells] at hcs
    obtain ⟨rfl, rfl, rfl⟩ := hcs
    exact ⟨none, 0, 0, [], rfl, ⟨rfl, Nat.le_refl _, Nat.zero_le _, fun _ => rfl, PL.nil, fun j hj => absurd hj (by omega)⟩⟩
  · simp [Value.cells] at hcs
    obtain ⟨rfl, rfl, rfl⟩ := hcs
    simp only [if_true] at hmm
    have hr : ∀ i, i < len → V0 i = .bool (entOf (V0 i) (V1 i)).s ∧ V1 i = .slice (entOf (V0 i) (V1 i)).p (entOf (V0 i) (V1 i)).n (entOf (V0 i) (V1 i)).c ∧ RawE W (entOf (V0 i) (V1 i)) := fun i hi => by
      obtain ⟨-, -, g0, g1⟩ := hcell i (by omega)
      exact rawCells g0 g1
    have hge : ∀ i, i < len → ge ((List.range len).map fun i => entOf (V0 i) (V1 i)) i = entOf (V0 i) (V1 i) := fun i hi => by simp [ge, hi]
    refine ⟨some a, len, cap, (List.range len).map fun i => entOf (V0 i) (V1 i), rfl, ⟨by simp, hl, hm, nofun, ?_, fun j hj => by rw [hge j hj]; exact (hr j hj).2.2⟩⟩
    intro hp
    have hp' : 0 < len := by simpa using hp
    obtain ⟨b, off, spot⟩ := a
    have hspot : spot = none := by simpa [Addr.add] using World.cell?_spot (hcell 0 (by omega)).1
    subst hspot
    refine ⟨b, off, rfl, fun j hj => ?_⟩
    have hj' : j < len := by simpa using hj
    obtain ⟨c0, c1, -, -⟩ := hcell j (by omega)
    obtain ⟨e0, e1, -⟩ := hr j hj'
    rw [hge j hj', ← e0, ← e1]
    rw [add_plain] at c0 c1
    exact ⟨c0, c1⟩
end Go.Proofs.YtejnhpjejcpekaaGreatDoor
