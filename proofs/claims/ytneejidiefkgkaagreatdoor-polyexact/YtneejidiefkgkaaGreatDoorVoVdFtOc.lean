/-
  ashlarref3.To; upoly.Prim.
-/
import Derived.Test.YtneejidiefkgkaaGreatDoorRzCwVkJoUr
import Derived.Test.YtneejidiefkgkaaGreatDoorPqReRxRf
import Derived.Test.YtneejidiefkgkaaGreatDoorUvUwUm
import Derived.Test.YtneejidiefkgkaaGreatDoorRhCqRrRwVa
import Derived.Test.YtneejidiefkgkaaGreatDoorUbUcUdOwRa
import Derived.Test.YtneejidiefkgkaaGreatDoorFsTaTbTc
import Derived.Test.YtneejidiefkgkaaGreatDoorFr
import Derived.Test.YtneejidiefkgkaaGreatDoorHcHdUhHe
import Derived.Deep.DeepFit
import Derived.Test.YtneejidiefkgkaaGreatDoorCuOaOfJpDh
namespace Go.Proofs.YtneejidiefkgkaaGreatDoor
open Go.RowKit
set_option linter.unusedVariables false
set_option linter.unusedSimpArgs false

theorem rTo_e {w : World} {N K : Nat} {z : Int} {e : Ent} (h : RE w N z e) (hN : N ≤ 1000) (hK : N ≤ 2 * K) :
    Calls Tryz.prog 27 #[.agg #[.bool e.s, .slice e.p e.n e.c]] w fun r w' => ∃ u : Ent, r = .returned (.agg #[.bool u.s, .slice u.p u.n u.c]) ∧ EV w' K z u ∧ Go.Proofs.YtneejidiefkgkaaGreatDoor.From w.heap.size u.p ∧ Below w.heap.size w w' := by
  obtain ⟨⟨ds, h1, h2, h3⟩, h4⟩ := h
  refine (rTo_anyF e.s e.p e.n e.c ds w h1.len (by omega) h1.rd h1.u).mono ?_
  rintro r w' ⟨p', m, cap, g1, g2, g3, g4, g5⟩
  have hm := g3.out
  refine ⟨⟨e.s, p', m, cap⟩, g1, ⟨jn ds m, g2, ?_, by show m ≤ K; omega⟩, g4, g5⟩
  show ival e.s (jn ds m) = z
  rw [← h2, ival, rval, val_jn, List.take_of_length_le (by rw [h1.len]; omega)]
/-- What To answers. -/
def ToP (zs : List Int) (K : Nat) (w : World) (e : Ending) (w' : World) : Prop :=
  ∃ q m mc fs, e = .returned (.slice q m mc) ∧ PA w' K q m mc fs zs ∧ Below w.heap.size w w'
set_option maxHeartbeats 2000000 in
set_option maxRecDepth 100000 in
/-- ashlarref3.To. -/
theorem rpTo_any {w : World} {N K : Nat} {p : Option Addr} {n nc : Nat} {es0 : List Ent} {zs : List Int} (h : PR w N p n nc es0 zs) (hn : n ≤ 100000) (hN : N ≤ 1000) (hK : N ≤ 2 * K) :
    Calls Tryz.prog 9 #[.slice p n nc] w (ToP zs K w) := by
  obtain ⟨i0, hi, hzz⟩ := Option.map_eq_some_iff.1 info_apiI
  simp only [Prod.mk.injEq] at hzz
  obtain ⟨hz0, hz1, hz2⟩ := hzz
  have HI : Hid (Tryz.prog.info? 47 = some i0 ∧ i0.zero = some (.agg #[.bool false, .slice none 0 0]) ∧ i0.size = 2 ∧ i0.bytes = 32) := ⟨hi, hz0, hz1, hz2⟩
  have HX : Hid (PR w N p n nc es0 zs) := h
  have hzl := h.zl
  clear h hi hz0 hz1 hz2
  go_enter Tryz.func9, Tryz.ntmps9
  go_wp2_with fail
  go_loopw [3, 4] (fun qv iv wr => ∃ (k : Nat) (es : List Ent), k ≤ n ∧ iv = .int .i64 k ∧ Hid (es.length = k ∧ LG w.heap.size 47 (fun w z e => EV w K z e) wr qv es (zs.take k) ∧ Below w.heap.size w wr)) (fun _ iv _ => n - (intOf iv).toNat)
  case atStart => exact ⟨0, [], Nat.zero_le _, by go_num, rfl, by rw [List.take_zero]; exact LG.nil _ _ _ _, Below.refl _ _⟩
  case round =>
    obtain ⟨k, es, hk, rfl, H⟩ := hrel
    rcases Nat.lt_or_ge k n with hlt | hge
    · obtain ⟨hel, hLR, hB⟩ := H.out
      have hPR := HX.out.below hB
      obtain ⟨b, o, hp, hc⟩ := hPR.pl (by rw [hPR.el]; omega)
      subst hp
      obtain ⟨c0, c1⟩ := hc k (by rw [hPR.el]; omega)
      have hto := rTo_e (hPR.ev k hlt) hN hK
      clear hel hLR hB hc hPR
      go_wp2_with fail
      refine hto.mono ?_
      rintro e w1 ⟨u, rfl, hu, hF1, hb1⟩
      clear c0 c1 hto
      obtain ⟨hi, hz0, hz1, hz2⟩ := HI.out
      have hown0 := own_below H.out.2.1.own hb1
      rw [H.out.1] at hown0
      have HO : Hid (w1.ownsRow w.heap.size 47 2 u3 k (fl es)) := hown0
      have hsz : w.heap.size ≤ w1.heap.size := Nat.le_trans H.out.2.2.size hb1.size
      have HE : Hid (EV w1 K (gx zs k) u) := hu
      clear hown0 hu
      go_wp2_with (refine wpList_append_lies _ rfl _ _ 23 rfl w.heap.size 47 i0 (.agg #[.bool false, .slice none 0 0]) 2 32 Tryz.underlying23 hi hz0 hz1 hz2 rfl (by decide) u3 k (fl es) rfl (HO.out.alloc _) ⟨w1.heap.size, 0, none⟩ 1 1 [.bool u.s, .slice u.p u.n u.c] rfl rfl ?_ (fun x hx => by simp at hx; rcases hx with rfl | rfl <;> rfl) (by decide) (by unfold maxLen; omega) (by omega) (by simp; omega) _ rfl ?_; exact World.news_of_block (heap_alloc_new w1 _); intro g cap w3 hown3 hgrow3 hat3 hlt3; have hB3 : Below w.heap.size w w3 := ((bnext' H.out.2.2 hb1).alloc hsz _).grown hgrow3 (by simp; omega) (fun q hq => (HO.out.lt q hq).1); have HA : Hid (LG w.heap.size 47 (fun w z e => EV w K z e) w3 (.slice (some ⟨g, 0, none⟩) (k + 1) cap) (es ++ [u]) (zs.take k ++ [gx zs k])) := LG.app (lasts_EV K) H.out.1 H.out.2.1 hb1 HE.out (fun h0 a ha => .inr (hF1 a ha)) hown3 hgrow3 hat3; clear hown3 hgrow3 hat3)
      refine ⟨⟨k + 1, es ++ [u], by omega, by go_num, by have := H.out.1; simp; omega, by rw [take_snocg zs k (by omega)]; exact HA.out, hB3⟩, by simp [intOf]; omega⟩
    · obtain rfl : k = n := by omega
      obtain ⟨hel, hLR, hB⟩ := H.out
      rw [List.take_of_length_le (by omega)] at hLR
      obtain ⟨q, cap, hv, hc1, hc2, hPL, hF, hpn⟩ := hLR.pl
      have hev := hLR.ev
      subst hv
      rw [hel] at hev hc1 ⊢
      have HR : Hid (ToP zs K w (.returned (.slice q k cap)) wr) := ⟨q, _, cap, es, rfl, ⟨hel, hzl, hc1, hc2, hpn, hPL, hev⟩, hB⟩
      clear H hLR hev hPL hF hB hge
      go_wp2
      go_ret
      exact HR.out
theorem prml_nil : prml [] = [] := rfl
set_option maxHeartbeats 2000000 in
set_option maxRecDepth 100000 in
/-- upoly.parts of the zero polynomial. -/
theorem parts_nil {w : World} {p : Option Addr} {es : List Ent} (K : Nat) (hK : K < 150) (hK1 : 1 ≤ K) (h : PA w K p 0 0 es []) :
    Calls Tryz.prog 38 #[.slice p (0 : Nat) (0 : Nat)] w (PtP [] K w) := by
  go_enter Tryz.func38, Tryz.ntmps38
  go_wp2_with fail
  have hal0 := bel_al (o := .cells #[.bool false, .slice none 0 0] 47) (Below.refl w.heap.size w)
  have hR0 : Bx (w.alloc (.cells #[.bool false, .slice none 0 0] 47)) w.heap.size (.bool false) (.slice none 0 0) := Bx.new _ _ _ rfl
  generalize w.alloc (.cells #[.bool false, .slice none 0 0] 47) = W0 at *
  refine (Content_any (h.below hal0) (by decide) hK hK1).mono ?_
  rintro r w1 ⟨u, rfl, hN, hb1⟩
  have sR : w.heap.size < W0.heap.size := block_lt_of_cell hR0.c0
  have hal := bel_al (o := .cells #[.bool u.s, .slice u.p u.n u.c] 47) (Below.refl w1.heap.size w1)
  have hC : Bx (w1.alloc (.cells #[.bool u.s, .slice u.p u.n u.c] 47)) w1.heap.size (.bool u.s) (.slice u.p u.n u.c) := Bx.new _ _ _ rfl
  obtain ⟨q0, q1, -, -⟩ := id hC
  obtain ⟨r0, r1, f0, f1⟩ := (hR0.later hb1).later hal
  have hN2 := hN.below hal
  have hB2 := bnext' (bnext' hal0 hb1) hal
  clear hN
  go_wp2_with fail
  generalize w1.alloc (.cells #[.bool u.s, .slice u.p u.n u.c] 47) = W2 at *
  refine bodyPost_ret (v := .tuple #[.agg #[.bool u.s, .slice u.p u.n u.c], .slice none 0 0]) (by simp [results, Tryz.results38, go_sem, r0, r1]) rfl ?_
  exact ⟨u, none, 0, [], rfl, (hN2.set2 (g := w.heap.size) (o := 0) sR _ _).mono (Nat.le_of_lt sR), ⟨rfl, rfl, rfl, PL.nil, nofun, fun j hj => absurd hj (by omega)⟩, bset2 hB2 (Nat.le_refl _) _ _⟩
set_option maxHeartbeats 2000000 in
set_option maxRecDepth 100000 in
/-- upoly.Prim. -/
theorem uPrim_any {w : World} {K : Nat} {p : Option Addr} {n nc : Nat} {es : List Ent} {zs : List Int} (h : PA w K p n nc es zs) (hn : n ≤ 100000) (hK : K < 150) (hK1 : 1 ≤ K) :
    Calls Tryz.prog 86 #[.slice p n nc] w (PnP (prml (tr zs)) K w) := by
  go_enter Tryz.func86, Tryz.ntmps86
  go_wp2_with fail
  refine (read_any K p n nc es zs w h (by omega) (by omega)).mono ?_
  rintro r w1 ⟨p1, n1, es1, rfl, h1, hb1⟩
  have hn1 := h1.zl
  rw [length_tr] at hn1
  have hle := tlen_le zs
  have hzl := h.zl
  have hpt : Calls Tryz.prog 38 #[.slice p1 n1 n1] w1 (PtP (tr zs) K w1) := by
    rcases Nat.eq_zero_or_pos n1 with h0 | h0
    · have e : tr zs = [] := List.eq_nil_of_length_eq_zero (by rw [length_tr]; omega)
      rw [e] at h1 ⊢
      subst h0
      exact parts_nil K hK hK1 (h1.pa (by omega))
    · exact parts_any h1 (by omega) h0 hK hK1
  have HB : Hid (Below w.heap.size w w1) := hb1
  clear h1 hn1 hle hzl h hb1
  go_wp2_with fail
  refine hpt.mono ?_
  rintro r w2 ⟨u, p2, n2, es2, rfl, -, h2, hb2⟩
  have hal := bel_al (o := .cells #[.bool u.s, .slice u.p u.n u.c] 47) (Below.refl w2.heap.size w2)
  have HR : Hid (PnP (prml (tr zs)) K w (.returned (.slice p2 n2 n2)) (w2.alloc (.cells #[.bool u.s, .slice u.p u.n u.c] 47))) := ⟨p2, n2, es2, rfl, (h2.below hal).mono HB.out.size, bnext' (bnext' HB.out hb2) hal⟩
  clear hpt h2
  go_wp2
  go_ret
  exact HR.out
end Go.Proofs.YtneejidiefkgkaaGreatDoor
/-
  ashlarref3.Is of an answer that is right.
-/
namespace Go.Proofs.YtneejidiefkgkaaGreatDoor
open Go.RowKit
set_option linter.unusedVariables false
set_option linter.unusedSimpArgs false

theorem rIs_e {B : Nat} {w : World} {K N : Nat} {z : Int} {e f : Ent} (h : NV B w K z e) (hK : K ≤ 1000) (k : RE w N z f) (hN : N ≤ 1000) :
    Calls Tryz.prog 30 #[.agg #[.bool e.s, .slice e.p e.n e.c], .agg #[.bool f.s, .slice f.p f.n f.c]] w fun r w' => r = .returned (.bool true) ∧ Below w.heap.size w w' := by
  obtain ⟨xs, h1, h2, h3⟩ := h
  obtain ⟨⟨ds, k1, k2, k3⟩, k4⟩ := k
  rw [h2, k4]
  exact rIs_any h1 (by omega) k1.len (by omega) k1.rd k1.u k1.nrm k1.sg k2
theorem NV.drew {B : Nat} {w : World} {K : Nat} {z : Int} {e : Ent} (h : NV B w K z e) : NV B w.drew K z e := by
  obtain ⟨xs, h1, h2⟩ := h
  exact ⟨xs, h1.drew, h2⟩
set_option maxHeartbeats 2000000 in
set_option maxRecDepth 100000 in
/-- ashlarref3.Is. -/
theorem rpIs_any {B : Nat} {w : World} {K N : Nat} {p q : Option Addr} {n nc : Nat} {es fs : List Ent} {zs : List Int} (h : PN B w K p n es zs) (k : PR w N q n nc fs zs) (hK : K ≤ 1000) (hN : N ≤ 1000) (hn : n ≤ 1000000) :
    Calls Tryz.prog 11 #[.slice p n n, .slice q n nc] w fun r w' => r = .returned (.bool true) ∧ Below w.heap.size w w' := by
  have hel := h.el
  have hfl := k.el
  go_enter Tryz.func11, Tryz.ntmps11
  go_wp2_with fail
  go_loopw [5, 6] (fun iv sv wr => ∃ j : Nat, j ≤ n ∧ iv = .int .i64 j ∧ Hid (Below w.heap.size w wr)) (fun iv _ _ => n - (intOf iv).toNat)
  case atStart => exact ⟨0, Nat.zero_le _, by go_num, Below.refl _ _⟩
  case round =>
    obtain ⟨j, hj, rfl, H⟩ := hrel
    rcases Nat.lt_or_ge j n with hlt | hge
    · have hh := h.below H.out
      have hk := k.below H.out
      have hv := hh.ev j hlt
      have hw := hk.ev j hlt
      obtain ⟨b, o, hp, hc⟩ := hh.pl (by omega)
      obtain ⟨c, r, hq, hd⟩ := hk.pl (by omega)
      subst hp hq
      obtain ⟨c0, c1⟩ := hc j (by omega)
      obtain ⟨d0, d1⟩ := hd j (by omega)
      clear hc hd hh hk
      go_wp2_with fail
      go_region_held3 (fun w' => w'.cell? ⟨b, o + j * 2, none⟩ = some (.bool (ge es j).s) ∧ w'.cell? ⟨b, o + j * 2 + 1, none⟩ = some (.slice (ge es j).p (ge es j).n (ge es j).c) ∧ w'.cell? ⟨c, r + j * 2, none⟩ = some (.bool (ge fs j).s) ∧ w'.cell? ⟨c, r + j * 2 + 1, none⟩ = some (.slice (ge fs j).p (ge fs j).n (ge fs j).c)) (first | with_reducible exact ⟨c0, c1, d0, d1⟩ | with_reducible exact keepc4 ⟨c0, c1, d0, d1⟩ hV1 | (simp [go_sem, *]; done))
        (first
          | (go_at_call 30; refine (rIs_e (hv.drew) hK hw.drew hN).mono ?_; rintro e w1 ⟨rfl, hb1⟩; have hV1 := undrew hb1))
      have hB := bnext' H.out hV1
      clear c0 c1 d0 d1 hv hw
      go_wp2
      go_roundw
      case rel => exact ⟨j + 1, by omega, by go_num, hB⟩
      case measure => simp [intOf]; omega
    · obtain rfl : j = n := by omega
      go_wp2
      go_ret
      exact ⟨rfl, H.out⟩
end Go.Proofs.YtneejidiefkgkaaGreatDoor
/-
  PolyExact, its walk.
-/
namespace Go.Proofs.YtneejidiefkgkaaGreatDoor
open Go.RowKit
set_option linter.unusedVariables false
set_option linter.unusedSimpArgs false

theorem mulp_zero {p ys : List Int} {m : Nat} (hl : ys.length = m + 1) (hy : gx ys m ≠ 0) (h : ∀ t, gx (mulp p ys) t = 0) : tlen p = 0 := by
  rcases Nat.eq_zero_or_pos (tlen p) with h0 | h0
  · exact h0
  · exfalso
    obtain ⟨a, ha⟩ : ∃ a, tlen p = a + 1 := ⟨tlen p - 1, by omega⟩
    have h1 := mulp_topp (p := p) hl a ha
    rw [h] at h1
    have h2 := tlen_top p h0
    rw [ha, Nat.add_sub_cancel] at h2
    exact Int.mul_ne_zero h2 hy h1.symm
/-- There is one quotient alone. -/
theorem quo_one {a b ys : List Int} {m : Nat} (hl : ys.length = m + 1) (hy : gx ys m ≠ 0) (ha : tlen a = a.length) (hb : tlen b = b.length) (h : ∀ t, gx (mulp a ys) t = gx (mulp b ys) t) : a = b := by
  have h0 := mulp_zero (p := pz (· - ·) a b) hl hy (fun t => by
    have h1 := mulp_lin1 (a := a) (b := b) (c := pz (· - ·) a b) (ys := ys) (fun j => by rw [gx_pz0 _ rfl]; omega) t
    have h2 := h t
    omega)
  have h1 : ∀ j, gx a j = gx b j := fun j => by
    have h2 := tlen_zero (pz (· - ·) a b) j (by omega)
    rw [gx_pz0 _ rfl] at h2
    omega
  have h3 : a.length = b.length := by rw [← ha, ← hb]; exact tlen_same h1
  exact gx_ext _ _ h3 (fun j _ => h1 j)
set_option maxHeartbeats 2000000 in
set_option maxRecDepth 100000 in
theorem rpIs_empty (w : World) (q : Option Addr) (n nc : Nat) (hn : n ≤ 1000000) :
    Calls Tryz.prog 11 #[.slice none (0 : Nat) (0 : Nat), .slice q n nc] w fun r w' => (∃ b, r = .returned (.bool b)) ∧ Below w.heap.size w w' := by
  rcases Nat.eq_zero_or_pos n with h0 | h0
  · subst h0
    go_enter Tryz.func11, Tryz.ntmps11
    go_wp2_with fail
    go_loopw [5, 6] (fun iv sv wr => iv = .int .i64 0 ∧ Hid (Below w.heap.size w wr)) (fun _ _ _ => 0)
    case atStart => exact ⟨by go_num, Below.refl _ _⟩
    case round =>
      obtain ⟨rfl, H⟩ := hrel
      go_wp2
      go_ret
      exact ⟨⟨true, rfl⟩, H.out⟩
  · have i1 : ¬ (0 : Int) = (n : Int) := by omega
    have i2 : ((0 : Int) == (n : Int)) = false := by rw [beq_eq_false_iff_ne]; exact i1
    go_enter Tryz.func11, Tryz.ntmps11
    go_wp2
    go_ret
    exact ⟨⟨false, rfl⟩, Below.refl _ _⟩
set_option maxHeartbeats 2000000 in
set_option maxRecDepth 100000 in
theorem rpExact_zero (w : World) (p q : Option Addr) (n nc mc : Nat) :
    Calls Tryz.prog 12 #[.slice p n nc, .slice q (0 : Nat) mc] w fun r w' => r = .returned (.tuple #[.slice none (0 : Nat) (0 : Nat), .bool false]) ∧ w = w' := by
  go_enter Tryz.func12, Tryz.ntmps12
  go_wp2
  go_ret2
  exact ⟨rfl, rfl⟩
theorem rpIs_l {B : Nat} {w : World} {K N : Nat} {p q : Option Addr} {n m : Nat} {es fs : List Ent} {zs : List Int} (h : PN B w K p n es zs) (k : PR w N q m m fs zs) (hK : K ≤ 1000) (hN : N ≤ 1000) (hl : n ≤ 1000000) :
    Calls Tryz.prog 11 #[.slice p n n, .slice q m m] w fun r w' => r = .returned (.bool true) ∧ Below w.heap.size w w' := by
  obtain rfl : m = n := by rw [← h.zl, ← k.zl]
  exact rpIs_any h k hK hN hl
theorem tr_whole {zs : List Int} (h : tlen zs = zs.length) : tr zs = zs := by rw [tr, h, List.take_length]
/-- What holds behind From. -/
structure EP (w wc : World) (p q px py : Option Addr) (n nc m mc nx ny : Nat) (es fs ex ey : List Ent) (zs ys : List Int) : Prop where
  p : PA wc 4 p n nc es zs
  q : PA wc 4 q m mc fs ys
  x : PR wc 8 px nx nx ex (tr zs)
  y : PR wc 8 py ny ny ey (tr ys)
  lx : tlen zs = nx
  ly : tlen ys = ny
  bw : Below w.heap.size w wc
theorem EP.later {w wc w' : World} {p q px py : Option Addr} {n nc m mc nx ny : Nat} {es fs ex ey : List Ent} {zs ys : List Int} (h : EP w wc p q px py n nc m mc nx ny es fs ex ey zs ys) (hb : Below wc.heap.size wc w') : EP w w' p q px py n nc m mc nx ny es fs ex ey zs ys :=
  ⟨h.p.below hb, h.q.below hb, h.x.below hb, h.y.below hb, h.lx, h.ly, bnext' h.bw hb⟩
set_option maxHeartbeats 2000000 in
set_option maxRecDepth 100000 in
/-- PolyExact. -/
theorem PolyExact_walk {w : World} {p q : Option Addr} {n nc m mc : Nat} {es fs : List Ent} (h : PZ w p n nc es) (k : PZ w q m mc fs) :
    Calls Tryz.prog 3 #[.slice p n nc, .slice q m mc] w fun r w' => r = .returned (.bool true) ∧ Below w.heap.size w w' := by
  have HX : Hid (PZ w p n nc es ∧ PZ w q m mc fs) := ⟨h, k⟩
  clear h k
  go_enter Tryz.func3, Tryz.ntmps3
  go_wp2_with fail
  refine (begun3_any w).mono ?_
  rintro r W1 ⟨rfl, hb0⟩
  have hc1 := few_any (HX.out.1.below hb0)
  go_wp2_with fail
  refine hc1.mono ?_
  rintro r w1 ⟨p1, n1, nc1, es1, zs, rfl, hP1, hn1, -, -, hb1⟩
  have hn9 : n1 ≤ 9 := by omega
  clear hn1
  have hc2 := few_any ((HX.out.2.below hb0).below hb1)
  clear hc1
  go_wp2_with fail
  refine hc2.mono ?_
  rintro r w2 ⟨q1, m1, mc1, fs1, ys, rfl, hQ1, hm1, -, -, hb2⟩
  have hm9 : m1 ≤ 9 := by omega
  have HP : Hid (PA w2 4 p1 n1 nc1 es1 zs ∧ PA w2 4 q1 m1 mc1 fs1 ys ∧ Below w.heap.size w w2) := ⟨hP1.below hb2, hQ1, bnext' (bnext' hb0 hb1) hb2⟩
  clear hc2 hP1 hQ1 hm1 hb0 hb1 hb2 HX
  have hf1 := rpFrom_any HP.out.1 (by omega) (by decide)
  go_wp2_with fail
  refine hf1.mono ?_
  rintro r w3 ⟨px, nx, ex, rfl, hRx, -, htx, hb3⟩
  have hf2 := rpFrom_any (HP.out.2.1.below hb3) (by omega) (by decide)
  clear hf1
  go_wp2_with fail
  refine hf2.mono ?_
  rintro r w4 ⟨py, ny, ey, rfl, hRy, -, hty, hb4⟩
  clear hf2
  rw [tlen_tr] at htx hty
  have hnx : nx ≤ 9 := by have := tlen_le zs; have := HP.out.1.zl; omega
  have hny : ny ≤ 9 := by have := tlen_le ys; have := HP.out.2.1.zl; omega
  have H4 : Hid (EP w w4 p1 q1 px py n1 nc1 m1 mc1 nx ny es1 fs1 ex ey zs ys) := ⟨(HP.out.1.below hb3).below hb4, (HP.out.2.1.below hb3).below hb4, hRx.below hb4, hRy, htx, hty, bnext' (bnext' HP.out.2.2 hb3) hb4⟩
  clear HP hRx hRy htx hty hb3 hb4
  have HXB : Hid ((∀ t, ((gx (tr zs) t).natAbs : Int) < pw 4) ∧ (∀ t, ((gx (tr ys) t).natAbs : Int) < pw 4)) := ⟨fun t => by rw [gx_tr]; exact H4.out.p.gbd t, fun t => by rw [gx_tr]; exact H4.out.q.gbd t⟩
  have hmu := rpMul_any (K := 4) (L := 4) H4.out.x H4.out.y (by rw [tlen_tr, length_tr]) (by rw [tlen_tr, length_tr]) (by omega) (by omega) (by decide) (by decide) HXB.out.1 HXB.out.2 (by decide)
  go_wp2_with fail
  refine hmu.mono ?_
  rintro r w5 ⟨pm, nm, em, rfl, hRm, -, htm, hb5⟩
  clear hmu
  have hlm : nm ≤ 17 := by
    have h1 := hRm.zl
    unfold mulp at h1
    split at h1
    · simp at h1; omega
    · rw [length_mulz, length_tr, length_tr] at h1
      have := H4.out.lx; have := H4.out.ly; omega
  have hto := rpTo_any (K := 9) hRm (by omega) (by decide) (by decide)
  have H5 := (show Hid _ from H4.out.later hb5)
  have HMT : Hid (tlen (mulp (tr zs) (tr ys)) = nm ∧ (mulp (tr zs) (tr ys)).length = nm) := ⟨htm, hRm.zl⟩
  clear hRm htm H4
  go_wp2_with fail
  refine hto.mono ?_
  rintro r w6 ⟨p6, n6, nc6, e6, rfl, hT6, hb6⟩
  have hn6 : n6 ≤ 17 := by have h1 := hT6.zl; have h2 := HMT.out.2; omega
  clear hto
  have H6 := (show Hid _ from H5.out.later hb6)
  have hex := uExact_any hT6 H6.out.q (by omega) (by omega) (by decide) (by decide) (fun h1 => by
    rw [HMT.out.1, ← HMT.out.2]
    unfold mulp
    split
    · simp
    · rw [length_mulz, length_tr, length_tr]; have := H6.out.lx; have := H6.out.ly; omega)
  rw [tr_whole (by rw [HMT.out.1, HMT.out.2])] at hex
  clear H5
  go_wp2_with fail
  refine hex.mono ?_
  rintro r w7 ⟨hr7, hb7⟩
  clear hex
  have H7 := (show Hid _ from H6.out.later hb7)
  clear H6 hT6 hb5 hb6
  have hcs : Hid (ny = 0 ∨ 1 ≤ ny) := by show _ ∨ _; omega
  rcases hcs.out with hy0 | hy1
  · -- nothing divides
    subst hy0
    clear hcs
    have hyn : (tr ys).length = 0 := by rw [length_tr, H7.out.ly]
    rcases hr7 with ⟨p7, n7, e7, qz, rfl, hq7, hn7, h1, he⟩ | ⟨rfl, hno⟩
    · omega
    · clear hno
      have his := rpIs_empty w7 px nx nx (by omega)
      go_wp2_with fail
      refine his.mono ?_
      rintro r w8 ⟨⟨b8, rfl⟩, hb8⟩
      clear his
      have H8 := (show Hid _ from H7.out.later hb8)
      have hex := uExact_any H8.out.p H8.out.q (by omega) (by omega) (by decide) (by decide) (fun h1 => by have := H8.out.ly; omega)
      clear H7
      go_wp2_with fail
      refine hex.mono ?_
      rintro r w9 ⟨hr9, hb9⟩
      clear hex
      have H9 := (show Hid _ from H8.out.later hb9)
      clear H8 hb8 hb9 hb7
      rcases hr9 with ⟨p9, n9, e9, qz9, rfl, hq9, hn9', h1, he⟩ | ⟨rfl, hno⟩
      · omega
      · clear hno hyn
        have hrx := rpExact_zero w9 px py nx nx 0
        go_wp2_with fail
        refine hrx.mono ?_
        rintro r w10 ⟨rfl, rfl⟩
        clear hrx
        go_wp2
        go_ret
        exact ⟨rfl, H9.out.bw⟩
  · have i1 : (0 : Int) < (ny : Int) := by omega
    have i2 : 0 < ny := by omega
    have i3 : decide (0 < ny) = true := decide_eq_true i2
    clear hcs
    have HYL : Hid (∃ mm, ny = mm + 1 ∧ (tr ys).length = mm + 1 ∧ gx (tr ys) mm ≠ 0) := by
      refine ⟨ny - 1, by omega, by rw [length_tr, H7.out.ly]; omega, ?_⟩
      have h9 := tlen_top (tr ys) (by rw [tlen_tr, H7.out.ly]; omega)
      rwa [tlen_tr, H7.out.ly] at h9
    rcases hr7 with ⟨p7, n7, e7, qz, rfl, hq7, hn7, h1, he⟩ | ⟨rfl, hno⟩
    rotate_left
    · exfalso
      rcases hno with h2 | h2
      · rw [length_tr, H7.out.ly] at h2; omega
      · exact h2 ⟨tr zs, fun t => rfl⟩
    have hqz : qz = tr zs := by
      obtain ⟨mm, -, hl, hyt⟩ := HYL.out
      exact quo_one hl hyt (by rw [hq7.nrm, hq7.zl]) (by rw [tlen_tr, length_tr]) (fun t => (he t).symm)
    subst hqz
    have his := rpIs_l hq7 H7.out.x (by decide) (by decide) (by omega)
    clear h1 he
    go_wp2_with fail
    refine his.mono ?_
    rintro r w8 ⟨rfl, hb8⟩
    clear his hq7
    have H8 := (show Hid _ from H7.out.later hb8)
    have hex := uExact_any H8.out.p H8.out.q (by omega) (by omega) (by decide) (by decide) (fun h1 => by have := H8.out.lx; omega)
    clear H7
    go_wp2_with fail
    refine hex.mono ?_
    rintro r w9 ⟨hr9, hb9⟩
    clear hex
    have H9 := (show Hid _ from H8.out.later hb9)
    clear H8 hb8 hb7
    have hrx : Calls Tryz.prog 12 #[.slice px nx nx, .slice py ny ny] w9 (RxP (tr zs) (tr ys) w9) := by
      obtain ⟨mm, hm1, hl, hyt⟩ := HYL.out
      exact rpExact_any H9.out.x H9.out.y (by rw [tlen_tr]; exact H9.out.lx) (by rw [tlen_tr]; exact H9.out.ly) hm1 hnx hny HXB.out.1 HXB.out.2
    rcases hr9 with ⟨p9, n9, e9, qz9, rfl, hq9, hn9', h1, he⟩ | ⟨rfl, hno⟩
    · go_wp2_with fail
      refine hrx.mono ?_
      rintro r w10 ⟨hr10, hb10⟩
      clear hrx
      have H10 := (show Hid _ from H9.out.later hb10)
      rcases hr10 with ⟨p10, n10, e10, qz10, rfl, hq10, hqn10, hn10, he10⟩ | ⟨p10, n10, c10, rfl, hno⟩
      rotate_left
      · exact absurd ⟨qz9, he⟩ hno
      have hqq : qz10 = qz9 := by
        obtain ⟨mm, -, hl, hyt⟩ := HYL.out
        exact quo_one hl hyt (by rw [hqn10, hq10.zl]) (by rw [hq9.nrm, hq9.zl]) (fun t => by rw [← he10 t, he t])
      subst hqq
      have his := rpIs_l (hq9.below hb10) hq10 (by decide) (by decide) (by omega)
      clear he he10 hq9 hq10 hqn10 H9 hb10 hb9
      go_wp2_with fail
      refine his.mono ?_
      rintro r w11 ⟨rfl, hb11⟩
      clear his
      go_wp2
      go_ret
      exact ⟨rfl, bnext' H10.out.bw hb11⟩
    · go_wp2_with fail
      refine hrx.mono ?_
      rintro r w10 ⟨hr10, hb10⟩
      clear hrx
      have H10 := (show Hid _ from H9.out.later hb10)
      rcases hr10 with ⟨p10, n10, e10, qz10, rfl, hq10, hqn10, hn10, he10⟩ | ⟨p10, n10, c10, rfl, hno'⟩
      · exfalso
        rcases hno with h2 | h2
        · rw [length_tr, H10.out.ly] at h2; omega
        · exact h2 ⟨qz10, he10⟩
      clear hno hno' H9 hb10 hb9
      go_wp2
      go_ret
      exact ⟨rfl, H10.out.bw⟩
end Go.Proofs.YtneejidiefkgkaaGreatDoor
/-
  What an argument of type api.Int is, read as data.
-/
namespace Go.Proofs.YtneejidiefkgkaaGreatDoor
open Go.ChangeShapes Go.WideShapes Go.ChangeAt Go.RowKit Go.Joins
set_option linter.unusedVariables false
set_option linter.unusedSimpArgs false

theorem cellsInt : Tryz.prog.cellsOf 47 = 2 := by kernel_rfl
theorem cellsLimb : Tryz.prog.cellsOf 78 = 1 := by kernel_rfl

/-- What an api.Int is, as an argument. -/
def IntArg (W : World) (v : Value) : Prop := ∃ (s : Bool) (pa : Option Addr) (n nc : Nat) (xs : List Int), v = .agg #[.bool s, .slice pa n nc] ∧ xs.length = n ∧ n ≤ nc ∧ nc ≤ maxLen ∧ Rd W pa .u32 xs ∧ U32 xs ∧ (pa = none → nc = 0)

set_option maxRecDepth 100000 in
theorem openInt {H : Type} {enc : TypeId × Value → H} {W : World} {base : Nat} {v0 : Value} {d0 : DataW H} {p0 : List MemPlace} (hv : Value.okWide Tryz.prog W .any base 47 v0)
    (h0 : DataW.Trod enc Tryz.prog W 0 (fun _ => true) true 47 v0 d0 p0) : IntArg W v0 := by
  obtain ⟨c0, c1, y0, y1, k, rfl, -, -, hy0, hy1⟩ := open_agg2 Tryz.underlying47 (by kernel_rfl) cellsInt hv h0
  obtain ⟨s, e0, -⟩ := DataW.trod_bool Tryz.underlying4 hy0
  simp only [List.cons.injEq, and_true] at e0
  subst e0
  rcases open_ints Tryz.underlying45 Tryz.underlying78 cellsLimb hy1 with ⟨hcs, -⟩ | ⟨a, len, cap, zs, hcs, -, hl, hm, hz, -, hcell, hwz⟩
  · simp only [List.cons.injEq, and_true] at hcs
    subst hcs
    exact ⟨s, none, 0, 0, [], rfl, rfl, Nat.le_refl _, Nat.zero_le _, Rd.nil, u32_nil, fun _ => rfl⟩
  · simp only [List.cons.injEq, and_true] at hcs
    subst hcs
    simp only [if_true] at hz
    refine ⟨s, some a, len, cap, zs.take len, rfl, by simp; omega, hl, hm, ?_, ?_, fun h => by cases h⟩
    · intro hp
      have hp' : 0 < zs.length := by simp at hp; omega
      obtain ⟨b, off, rfl, hc⟩ := ints_at hcell hp'
      refine ⟨b, off, rfl, fun j hj => ?_⟩
      have hj' : j < len ∧ j < zs.length := by simp at hj; omega
      rw [gx_take _ _ _ hj'.1]
      exact hc j hj'.2
    · refine u32_take (fun j => ?_) len
      by_cases hj : j < zs.length
      · have := hwz zs[j] (List.getElem_mem hj)
        rw [gx_mem zs j hj]
        have h4 : 0 ≤ zs[j] ∧ zs[j] ≤ 4294967295 := by
          simpa [Lit.wf, IntKind.min, IntKind.max, IntKind.signed, IntKind.bits] using this
        exact ⟨h4.1, by omega⟩
      · rw [gx_past zs _ (Nat.le_refl _) j (by omega)]; decide
end Go.Proofs.YtneejidiefkgkaaGreatDoor
