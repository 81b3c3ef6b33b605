/-
  PolyRing's walk.
-/
import Derived.Test.YtgecfnoecmjacaaGreatDoorOaOfJpLe
import Derived.Test.YtgecfnoecmjacaaGreatDoorVrPmHhPy
import Derived.Test.YtgecfnoecmjacaaGreatDoorHfUh
import Derived.Test.YtgecfnoecmjacaaGreatDoorVkUzUr
import Derived.Test.YtgecfnoecmjacaaGreatDoorRpVnVp
import Derived.Test.YtgecfnoecmjacaaGreatDoorHcHdHeRzCw
import Derived.Test.YtgecfnoecmjacaaGreatDoorRfRhCqRr
import Derived.Test.YtgecfnoecmjacaaGreatDoorRbCyVi
import Derived.Deep.DeepFit
namespace Go.Proofs.YtgecfnoecmjacaaGreatDoor
open Go.RowKit
set_option linter.unusedVariables false
set_option linter.unusedSimpArgs false

theorem fr_mn {X W1 : World} {q : Option Addr} (h : Go.Proofs.YtgecfnoecmjacaaGreatDoor.From X.heap.size q) (hs : W1.heap.size ≤ X.heap.size) : Go.Proofs.YtgecfnoecmjacaaGreatDoor.From W1.heap.size q := fun a ha => Nat.le_trans hs (h a ha)
theorem pz_lit {W : World} {g : Nat} {e : Ent} (h0 : W.cell? ⟨g, 0, none⟩ = some (.bool e.s)) (h1 : W.cell? ⟨g, 1, none⟩ = some (.slice e.p e.n e.c)) (hr : RawE W e) : PZ W (some ⟨g, 0, none⟩) 1 1 [e] :=
  ⟨rfl, Nat.le_refl _, by decide, nofun, fun _ => ⟨g, 0, rfl, fun j hj => by
    obtain rfl : j = 0 := by simp at hj; omega
    exact ⟨h0, h1⟩⟩, fun j hj => by
    obtain rfl : j = 0 := by omega
    exact hr⟩
theorem cells_lit (w : World) (x y : Value) (t : Nat) : (w.alloc (.cells #[x, y] t)).cell? ⟨w.heap.size, 0, none⟩ = some x ∧ (w.alloc (.cells #[x, y] t)).cell? ⟨w.heap.size, 1, none⟩ = some y := ⟨by simp [go_sem], by simp [go_sem]⟩
theorem rFrom_e {w : World} {K : Nat} {z : Int} {e : Ent} (h : EV w K z e) :
    Calls Tryz.prog 13 #[.agg #[.bool e.s, .slice e.p e.n e.c]] w fun r w' => ∃ u : Ent, r = .returned (.agg #[.bool u.s, .slice u.p u.n u.c]) ∧ RE w' (2 * K) z u ∧ Go.Proofs.YtgecfnoecmjacaaGreatDoor.From w.heap.size u.p ∧ Below w.heap.size w w' := by
  obtain ⟨xs, h1, h2, h3⟩ := h
  refine (From_ansF e.s e.p e.n e.c xs w h1).mono ?_
  rintro r w1 ⟨s, p, n, d, rfl, h4, h5, h6, h7, h8⟩
  exact ⟨⟨s, p, n, n⟩, rfl, ⟨⟨d, h4, by rw [h5, h2], by show n ≤ _; omega⟩, rfl⟩, h7, h8⟩
theorem rIs_e {B : Nat} {w : World} {K N : Nat} {z : Int} {e f : Ent} (h : NV B w K z e) (k : RE w N z f) (hK : K ≤ 1000) (hN : N ≤ 1000) :
    Calls Tryz.prog 26 #[.agg #[.bool e.s, .slice e.p e.n e.c], .agg #[.bool f.s, .slice f.p f.n f.c]] w fun r w' => r = .returned (.bool true) ∧ Below w.heap.size w w' := by
  obtain ⟨xs, k1, k2, k3⟩ := h
  obtain ⟨⟨ds, l1, l2, l3⟩, l4⟩ := k
  rw [k2, l4]
  exact rIs_rn k1 (by omega) l1 (by omega) l2
theorem der_lt {zs : List Int} (hz : tlen zs ≤ 9) (h : ∀ j, ((gx zs j).natAbs : Int) < 2 ^ 128) (j : Nat) : ((gx (derz (tr zs)) j).natAbs : Int) < 2 ^ 131 := by
  rw [gx_derz', gx_tr]
  rcases Nat.lt_or_ge j 8 with hj | hj
  · have h1 := h (j + 1)
    rw [Int.natAbs_mul]
    push_cast
    have h2 : (((j : Int) + 1).natAbs : Int) ≤ 8 := by omega
    have h3 : (((j : Int) + 1).natAbs : Int) * ((gx zs (j + 1)).natAbs : Int) ≤ 8 * ((gx zs (j + 1)).natAbs : Int) := Int.mul_le_mul_of_nonneg_right h2 (by omega)
    have h4 : (2 : Int) ^ 131 = 8 * 2 ^ 128 := by decide
    omega
  · rw [tlen_zero zs (j + 1) (by omega), Int.mul_zero]
    decide
theorem len_mulp (zs ys : List Int) : (mulp zs ys).length ≤ zs.length + ys.length := by
  unfold mulp
  split
  · exact Nat.zero_le _
  · rw [length_mulz]; omega
/-- Three polynomials and a number behind Cut. -/
structure P4 (w wc : World) (p : Option Addr) (n nc : Nat) (es : List Ent) (zs : List Int) (q : Option Addr) (m mc : Nat) (fs : List Ent) (ys : List Int) (s : Option Addr) (l lc : Nat) (gs : List Ent) (ws : List Int) (u : Ent) (y : Int) : Prop where
  pa : PA wc 4 p n nc es zs
  pm : n ≤ 9
  qa : PA wc 4 q m mc fs ys
  qm : m ≤ 9
  sa : PA wc 4 s l lc gs ws
  sm : l ≤ 9
  bx : Bx wc w.heap.size (.bool u.s) (.slice u.p u.n u.c)
  ev : EV wc 2 y u
  bw : Below w.heap.size w wc
section
variable {w wc w3 W1 v1 v2 v3 v4 : World} {p q s : Option Addr} {n nc m mc l lc a b c : Nat} {es fs gs : List Ent} {zs ys ws : List Int} {u e : Ent} {y : Int}
theorem P4.later (h : P4 w wc p n nc es zs q m mc fs ys s l lc gs ws u y) (hb : Below wc.heap.size wc w3) : P4 w w3 p n nc es zs q m mc fs ys s l lc gs ws u y := ⟨h.pa.below hb, h.pm, h.qa.below hb, h.qm, h.sa.below hb, h.sm, h.bx.later hb, h.ev.below hb, bnext' h.bw hb⟩
theorem P4.mk' (hbx : Bx W1 w.heap.size (.bool e.s) (.slice e.p e.n e.c)) (hB : Below w.heap.size w W1) (hb1 : Below W1.heap.size W1 v1) (hb2 : Below v1.heap.size v1 v2) (hb3 : Below v2.heap.size v2 v3) (hb4 : Below v3.heap.size v3 v4)
    (hP : PA v1 4 p n nc es zs) (hn : n = min a 9) (hp : Go.Proofs.YtgecfnoecmjacaaGreatDoor.From W1.heap.size p) (hpe : ∀ j, j < n → 0 < (ge es j).n → Go.Proofs.YtgecfnoecmjacaaGreatDoor.From W1.heap.size (ge es j).p)
    (hQ : PA v2 4 q m mc fs ys) (hm : m = min b 9) (hq : Go.Proofs.YtgecfnoecmjacaaGreatDoor.From W1.heap.size q) (hqe : ∀ j, j < m → 0 < (ge fs j).n → Go.Proofs.YtgecfnoecmjacaaGreatDoor.From W1.heap.size (ge fs j).p)
    (hS : PA v3 4 s l lc gs ws) (hl : l = min c 9) (hs : Go.Proofs.YtgecfnoecmjacaaGreatDoor.From W1.heap.size s) (hse : ∀ j, j < l → 0 < (ge gs j).n → Go.Proofs.YtgecfnoecmjacaaGreatDoor.From W1.heap.size (ge gs j).p)
    (hu : EV v4 2 y u) (huo : 0 < u.n → Go.Proofs.YtgecfnoecmjacaaGreatDoor.From W1.heap.size u.p) :
    P4 w ((v4.setCell ⟨w.heap.size, 0, none⟩ (.bool u.s)).setCell ⟨w.heap.size, 1, none⟩ (.slice u.p u.n u.c)) p n nc es zs q m mc fs ys s l lc gs ws u y := by
  have hlt : w.heap.size < W1.heap.size := block_lt_of_cell hbx.c0
  exact ⟨(((hP.below hb2).below hb3).below hb4).gset (o := 0) (fun _ => off_from hp hlt) (fun j hj h0 => off_from (hpe j hj h0) hlt), by omega, ((hQ.below hb3).below hb4).gset (o := 0) (fun _ => off_from hq hlt) (fun j hj h0 => off_from (hqe j hj h0) hlt), by omega, (hS.below hb4).gset (o := 0) (fun _ => off_from hs hlt) (fun j hj h0 => off_from (hse j hj h0) hlt), by omega, Bx_set ((((hbx.later hb1).later hb2).later hb3).later hb4), hu.set2 (o := 0) fun h0 => off_from (huo h0) hlt, bset2 (bnext' (bnext' (bnext' (bnext' hB hb1) hb2) hb3) hb4) (Nat.le_refl _) _ _⟩
end
theorem P4.st {w wc x : World} {p q s : Option Addr} {n nc m mc l lc : Nat} {es fs gs : List Ent} {zs ys ws : List Int} {u v : Ent} {y z : Int} {N g : Nat} {s' : Bool} {qq : Option Addr} {qn qc : Nat} {ty : TypeId} (h : P4 w wc p n nc es zs q m mc fs ys s l lc gs ws u y) (hb : Below wc.heap.size wc x) (hg : wc.heap.size ≤ g) (hG : x.heap[g]? = some (.cells #[.bool s', .slice qq qn qc] ty)) (hBx : Bx x g (.bool s') (.slice qq qn qc)) (hv : RE x N z v) :
    P4 w ((x.setCell ⟨g, 0, none⟩ (.bool v.s)).setCell ⟨g, 1, none⟩ (.slice v.p v.n v.c)) p n nc es zs q m mc fs ys s l lc gs ws u y ∧ Bx ((x.setCell ⟨g, 0, none⟩ (.bool v.s)).setCell ⟨g, 1, none⟩ (.slice v.p v.n v.c)) g (.bool v.s) (.slice v.p v.n v.c) ∧ RE ((x.setCell ⟨g, 0, none⟩ (.bool v.s)).setCell ⟨g, 1, none⟩ (.slice v.p v.n v.c)) N z v :=
  ⟨h.later (bset2 hb hg _ _), Bx_set hBx, hv.set2 (o := 0) (hv.offb hG)⟩
set_option maxHeartbeats 4000000 in
set_option maxRecDepth 100000 in
/-- PolyRing. -/
theorem PolyRing_walk {w : World} {p q s : Option Addr} {n nc m mc l lc : Nat} {es fs gs : List Ent} {e : Ent} (h : PZ w p n nc es) (k : PZ w q m mc fs) (t : PZ w s l lc gs) (he : RawE w e) :
    Calls Tryz.prog 8 #[.slice p n nc, .slice q m mc, .slice s l lc, .agg #[.bool e.s, .slice e.p e.n e.c]] w fun r w' => r = .returned (.bool true) ∧ Below w.heap.size w w' := by
  have HX : Hid (PZ w p n nc es ∧ PZ w q m mc fs ∧ PZ w s l lc gs ∧ RawE w e) := ⟨h, k, t, he⟩
  clear h he k t
  go_enter Tryz.func8, Tryz.ntmps8
  go_wp2_with fail
  have hal0 := bel_al (o := .cells #[.bool e.s, .slice e.p e.n e.c] 26) (Below.refl w.heap.size w)
  have hX0 : Bx (w.alloc (.cells #[.bool e.s, .slice e.p e.n e.c] 26)) w.heap.size (.bool e.s) (.slice e.p e.n e.c) := Bx.new _ _ _ rfl
  generalize w.alloc (.cells #[.bool e.s, .slice e.p e.n e.c] 26) = W0 at *
  refine (begun3_any W0).mono ?_
  rintro r W1 ⟨rfl, hb0⟩
  have hbx := hX0.later hb0
  have hB := bnext' hal0 hb0
  obtain ⟨k0, k1, -, -⟩ := id hbx
  have hPZ := HX.out.1.below hB
  have hQZ := HX.out.2.1.below hB
  have hSZ := HX.out.2.2.1.below hB
  have hRE := HX.out.2.2.2.below hB
  clear hX0 hal0 hb0
  go_wp2_with fail
  go_cut [0, 1, 2] (fun pv qv sv wc => ∃ (p1 : Option Addr) (n1 nc1 : Nat) (es1 : List Ent) (zs : List Int) (q1 : Option Addr) (m1 mc1 : Nat) (fs1 : List Ent) (ys : List Int) (s1 : Option Addr) (l1 lc1 : Nat) (gs1 : List Ent) (ws : List Int) (u : Ent) (y : Int), pv = .slice p1 n1 nc1 ∧ qv = .slice q1 m1 mc1 ∧ sv = .slice s1 l1 lc1 ∧ Hid (P4 w wc p1 n1 nc1 es1 zs q1 m1 mc1 fs1 ys s1 l1 lc1 gs1 ws u y))
  case first =>
    go_region_with (first
      | (go_at_call_of 10 (Value.slice p n nc); go_fit (few_any (hPZ.below (by first | exact (Below.refl _ _).drew | exact (bel_al (Below.refl _ _)).drew))); rintro r v1 ⟨p1, n1, nc1, es1, zs, rfl, hP1, hn1, hF1, hG1, hb1⟩; have HN1 : Hid (n1 = min n 9) := hn1; clear hn1; have hB1 := undrew hb1; have hW1 := comp (X2 := W1) (w2 := W1) (Below.refl _ _) (by (repeat apply bel_al); exact Below.refl _ _) hB1; have hFp := fr_mn (W1 := W1) hF1 (by first | exact Nat.le_refl _ | simp); have hFpe := fun j hj h0 => fr_mn (W1 := W1) (hG1 j hj h0) (by first | exact Nat.le_refl _ | simp); have y0 := cell_later hW1 k0; have y1 := cell_later hW1 k1)
      | (go_at_call_of 10 (Value.slice q m mc); go_fit (few_any (hQZ.below (by (repeat apply bel_al); exact hW1))); rintro r v2 ⟨q1, m1, mc1, fs1, ys, rfl, hQ1, hm1, hF2, hG2, hb2⟩; have HM1 : Hid (m1 = min m 9) := hm1; clear hm1; have hV2 := comp (X2 := v1) (w2 := v1) (Below.refl _ _) (by (repeat apply bel_al); exact Below.refl _ _) hb2; have hW2 := bnext' hW1 hV2; have hFq := fr_mn (W1 := W1) hF2 (by have h9 := hW1.size; (try simp only [World.size_alloc]); omega); have hFqe := fun j hj h0 => fr_mn (W1 := W1) (hG2 j hj h0) (by have h9 := hW1.size; (try simp only [World.size_alloc]); omega); have z0 := cell_later hW2 k0; have z1 := cell_later hW2 k1)
      | (go_at_call_of 10 (Value.slice s l lc); go_fit (few_any (hSZ.below (by (repeat apply bel_al); exact hW2))); rintro r v3 ⟨s1, l1, lc1, gs1, ws, rfl, hS1, hl1, hF3, hG3, hb3⟩; have HL1 : Hid (l1 = min l 9) := hl1; clear hl1; have hV3 := comp (X2 := v2) (w2 := v2) (Below.refl _ _) (by (repeat apply bel_al); exact Below.refl _ _) hb3; have hW3 := bnext' hW2 hV3; have hFs := fr_mn (W1 := W1) hF3 (by have h9 := hW2.size; (try simp only [World.size_alloc]); omega); have hFse := fun j hj h0 => fr_mn (W1 := W1) (hG3 j hj h0) (by have h9 := hW2.size; (try simp only [World.size_alloc]); omega); have t0 := cell_later hW3 k0; have t1 := cell_later hW3 k1)
      | (go_at_call 35; (first
          | go_fit (Cut3_any (pz_lit (e := e) (cells_lit v3 _ _ _).1 (cells_lit v3 _ _ _).2 ((hRE.below hW3).below (bel_al (Below.refl _ _)))) 1 2 (by decide) (by decide))
          | go_fit (Cut3_any (pz_lit (e := e) (cell_later hb3 (cells_lit v2 _ _ _).1) (cell_later hb3 (cells_lit v2 _ _ _).2) (hRE.below hW3)) 1 2 (by decide) (by decide))
          | go_fit (Cut3_any (pz_lit (e := e) (cell_later (comp hb2 (Below.refl _ _) hb3) (cells_lit v1 _ _ _).1) (cell_later (comp hb2 (Below.refl _ _) hb3) (cells_lit v1 _ _ _).2) (hRE.below hW3)) 1 2 (by decide) (by decide))
          | go_fit (Cut3_any (pz_lit (e := e) (cell_later (comp hB1 (Below.refl _ _) (comp hb2 (Below.refl _ _) hb3)) (cells_lit W1 _ _ _).1) (cell_later (comp hB1 (Below.refl _ _) (comp hb2 (Below.refl _ _) hb3)) (cells_lit W1 _ _ _).2) (hRE.below hW3)) 1 2 (by decide) (by decide))); rintro r v4 ⟨q2, m2, mc2, fs2, zs2, rfl, hP2, hm2, hF4, hG4, hb4⟩; obtain rfl : m2 = 1 := hm2; obtain ⟨b2, o2, hq2, hc2⟩ := hP2.pl (by rw [hP2.el]; decide); subst hq2; obtain ⟨i0, i1⟩ := hc2 0 (by rw [hP2.el]; decide); simp only [Nat.zero_mul, Nat.add_zero] at i0 i1; have hV4 := comp (X2 := v3) (w2 := v3) (Below.refl _ _) (by (repeat apply bel_al); exact Below.refl _ _) hb4; obtain ⟨x0, x1, f0, f1⟩ := (hbx.later hW3).later hV4; have hs3 := hW3.size; have hHP := P4.mk' hbx hB hW1 hV2 hV3 hV4 hP1 HN1.out hFp hFpe hQ1 HM1.out hFq hFqe hS1 HL1.out hFs hFse (hP2.ev 0 (by decide)) (fun h0 a ha => by have h7 := hG4 0 (by decide) h0 a ha; (try simp only [World.size_alloc] at h7); omega)))
    all_goals
      have HP := (show Hid _ from hHP)
      clear hHP
      go_wp2_with fail
      go_meet
      exact ⟨p1, n1, nc1, es1, zs, q1, m1, mc1, fs1, ys, s1, l1, lc1, gs1, ws, _, _, rfl, rfl, rfl, HP.out⟩
  case rest =>
    obtain ⟨p1, n1, nc1, es1, zs, q1, m1, mc1, fs1, ys, s1, l1, lc1, gs1, ws, u, y, rfl, rfl, rfl, HQ⟩ := hcut
    clear hbx hB k0 k1 hPZ hQZ hSZ hRE HX
    have hx9 := HQ.out.pm
    have hy9 := HQ.out.qm
    have hs9 := HQ.out.sm
    have hzt : tlen zs ≤ 9 := by have := tlen_le zs; have := HQ.out.pa.zl; omega
    have hyt : tlen ys ≤ 9 := by have := tlen_le ys; have := HQ.out.qa.zl; omega
    have hwt : tlen ws ≤ 9 := by have := tlen_le ws; have := HQ.out.sa.zl; omega
    have HZ : Hid ((∀ j, ((gx zs j).natAbs : Int) < 2 ^ 128) ∧ (∀ j, ((gx ys j).natAbs : Int) < 2 ^ 128) ∧ (∀ j, ((gx ws j).natAbs : Int) < 2 ^ 128)) := ⟨fun j => HQ.out.pa.lt j, fun j => HQ.out.qa.lt j, fun j => HQ.out.sa.lt j⟩
    -- a product goes over a sum
    have h1 := uAdd_any HQ.out.qa HQ.out.sa (by omega) (by omega) (by decide)
    go_wp2_with fail
    refine h1.mono ?_
    rintro r w4 ⟨p4, n4, e4, rfl, hN4, hb4⟩
    have hl4 : n4 ≤ 9 := by rw [← hN4.zl, length_tr]; refine Nat.le_trans (tlen_le _) ?_; rw [length_pz, length_tr, length_tr]; omega
    have h2 := uMul_w (HQ.out.pa.below hb4) (hN4.pa (by decide) (by omega)) (by omega) (by omega) (by decide) 9 (fun a b => wd_bits (a := 128) (b := 129) (c := 4) (pb_of fun j => by rw [gx_tr]; exact HZ.out.1 j) (pb_of fun j => by rw [gx_tr, gx_tr, gx_pz0 _ rfl, gx_tr, gx_tr]; have := HZ.out.2.1 j; have := HZ.out.2.2 j; omega) (by rw [length_tr]; omega) (by rw [length_tr]; omega) (by rw [length_tr]; omega) (by decide) (by decide)) (by omega) (by have := tlen_le (tr (pz (· + ·) (tr ys) (tr ws))); rw [hN4.zl] at this; omega)
    clear h1
    go_wp2_with fail
    refine h2.mono ?_
    rintro r w5 ⟨p5, n5, e5, rfl, hN5, hb5⟩
    have H5 := (show Hid _ from HQ.out.later (bnext' hb4 hb5))
    clear h2 HQ hb4 hb5
    have h3 := uMul_any H5.out.pa H5.out.qa (by omega) (by omega) (by decide) (by omega) (by omega)
    clear hN4
    go_wp2_with fail
    refine h3.mono ?_
    rintro r w6 ⟨p6, n6, e6, rfl, hN6, hb6⟩
    have H6 := (show Hid _ from H5.out.later hb6)
    have h4 := uMul_any H6.out.pa H6.out.sa (by omega) (by omega) (by decide) (by omega) (by omega)
    clear h3
    go_wp2_with fail
    refine h4.mono ?_
    rintro r w7 ⟨p7, n7, e7, rfl, hN7, hb7⟩
    have hl6 : n6 ≤ 18 := by rw [← hN6.zl]; refine Nat.le_trans (len_mulp _ _) ?_; rw [length_tr, length_tr]; omega
    have hl7 : n7 ≤ 18 := by rw [← hN7.zl]; refine Nat.le_trans (len_mulp _ _) ?_; rw [length_tr, length_tr]; omega
    have hl5 : n5 ≤ 18 := by rw [← hN5.zl]; refine Nat.le_trans (len_mulp _ _) ?_; rw [length_tr, length_tr]; have := tlen_le (tr (pz (· + ·) (tr ys) (tr ws))); have h9 : (tr (pz (· + ·) (tr ys) (tr ws))).length ≤ 9 := (by rw [length_tr]; refine Nat.le_trans (tlen_le _) ?_; rw [length_pz, length_tr, length_tr]; omega); omega
    have h5 := uAdd_any ((hN6.below hb7).pa (by decide) (by omega)) (hN7.pa (by decide) (by omega)) (by omega) (by omega) (by decide)
    clear h4
    go_wp2_with fail
    refine h5.mono ?_
    rintro r w8 ⟨p8, n8, e8, rfl, hN8, hb8⟩
    have hl8 : n8 ≤ 18 := by rw [← hN8.zl, length_tr]; refine Nat.le_trans (tlen_le _) ?_; rw [length_pz, length_tr, length_tr]; have := tlen_le (mulp (tr zs) (tr ys)); have := tlen_le (mulp (tr zs) (tr ws)); have := hN6.zl; have := hN7.zl; omega
    have h6 := uEq_any ((((hN5.below hb6).below hb7).below hb8).pa (by decide) (by omega)) (hN8.pa (by decide) (by omega)) (by omega) (by omega)
    rw [decide_eq_true (mulp_sum zs ys ws)] at h6
    have H8 := (show Hid _ from H6.out.later (bnext' hb7 hb8))
    clear h5 hN5 hN6 hN7 hN8 hb6 hb7 hb8 H5 H6 hl5 hl6 hl7 hl8
    go_wp2_with fail
    refine h6.mono ?_
    rintro r w9 ⟨rfl, hb9⟩
    have H9 := (show Hid _ from H8.out.later hb9)
    clear h6 hb9 H8
    -- values multiply
    obtain ⟨k0, k1, -, -⟩ := id H9.out.bx
    have hga : w.heap.size < w9.heap.size := block_lt_of_cell k0
    have h31 : 4 + tlen zs * (2 + 1) ≤ 31 := by omega
    have h31' : 4 + tlen ys * (2 + 1) ≤ 31 := by omega
    have HK : Hid (4 + tlen zs * (2 + 1) ≤ 31 ∧ 4 + tlen ys * (2 + 1) ≤ 31) := ⟨h31, h31'⟩
    generalize hK1 : 4 + tlen zs * (2 + 1) = K1 at *
    generalize hK2 : 4 + tlen ys * (2 + 1) = K2 at *
    have HK1 : Hid (4 + tlen zs * (2 + 1) = K1 ∧ 4 + tlen ys * (2 + 1) = K2) := ⟨hK1, hK2⟩
    clear hK1 hK2
    go_wp2_with fail
    go_cut [11] (fun vv wd => ∃ (g : Nat) (v : Ent), vv = .pointer (some ⟨g, 0, none⟩) ∧ Hid (P4 w wd p1 n1 nc1 es1 zs q1 m1 mc1 fs1 ys s1 l1 lc1 gs1 ws u y ∧ Bx wd g (.bool v.s) (.slice v.p v.n v.c) ∧ RE wd 125 (evz y (tr zs) * evz y (tr ys)) v))
    case first =>
      go_region_held3 (fun w' => w'.cell? ⟨w.heap.size, 0, none⟩ = some (.bool u.s) ∧ w'.cell? ⟨w.heap.size, 1, none⟩ = some (.slice u.p u.n u.c)) (first | with_reducible exact ⟨k0, k1⟩ | with_reducible exact ⟨a0, a1⟩ | with_reducible exact ⟨b0, b1⟩ | with_reducible exact ⟨c0, c1⟩ | with_reducible exact ⟨d0, d1⟩ | with_reducible exact ⟨i0, i1⟩ | with_reducible exact keepc2 ⟨i0, i1⟩ (bel_al (Below.refl _ _)) | with_reducible exact keepc2 ⟨d0, d1⟩ (bel_al (Below.refl _ _)) | with_reducible exact keepc2 ⟨c0, c1⟩ (bel_al (Below.refl _ _)) | with_reducible exact keepc2 ⟨b0, b1⟩ (bel_al (Below.refl _ _)) | with_reducible exact keepc2 ⟨a0, a1⟩ (bel_al (Below.refl _ _)) | with_reducible exact keepc2 ⟨k0, k1⟩ (Below.drew (Below.refl _ _)) | with_reducible exact keepc2 ⟨k0, k1⟩ (Below.drew (bel_al (Below.refl _ _))) | (simp [go_sem, *]; done))
        (first
          | (go_at_call_of 37 (Value.slice p1 n1 nc1); go_fit (uEval_any (H9.out.pa.below (by first | exact (Below.refl _ _).drew | exact (bel_al (Below.refl _ _)).drew)) (H9.out.ev.below (by first | exact (Below.refl _ _).drew | exact (bel_al (Below.refl _ _)).drew)) (by omega) (by decide) (by omega)); rintro r x1 ⟨u1, rfl, hN1, hx1⟩; have hB1 := undrew hx1; have hW1 := comp (X2 := w9) (w2 := w9) (Below.refl _ _) (by (repeat apply bel_al); exact Below.refl _ _) hB1; have a0 := cell_later hW1 k0; have a1 := cell_later hW1 k1; have t1 := hW1.size; have hE1 := hN1.ev (by omega))
          | (go_at_call_of 13 (Value.agg #[.bool u1.s, .slice u1.p u1.n u1.c]); go_fit (rFrom_e (hE1.below (by first | exact Below.refl _ _ | exact bel_al (Below.refl _ _)))); rintro r x2 ⟨u2, rfl, hR2, hF2, hx2⟩; have hV2 := comp (X2 := x1) (w2 := x1) (Below.refl _ _) (by (repeat apply bel_al); exact Below.refl _ _) hx2; have hW2 := bnext' hW1 hV2; have b0 := cell_later hW2 k0; have b1 := cell_later hW2 k1; have t2 := hW2.size)
          | (go_at_call_of 37 (Value.slice q1 m1 mc1); go_fit (uEval_any (H9.out.qa.below (by (repeat apply bel_al); exact hW2)) (H9.out.ev.below (by (repeat apply bel_al); exact hW2)) (by omega) (by decide) (by omega)); rintro r x3 ⟨u3, rfl, hN3, hx3⟩; have hV3 := comp (X2 := x2) (w2 := x2) (Below.refl _ _) (by (repeat apply bel_al); exact Below.refl _ _) hx3; have hW3 := bnext' hW2 hV3; have c0 := cell_later hW3 k0; have c1 := cell_later hW3 k1; have t3 := hW3.size; have hE3 := hN3.ev (by omega); have hR3 := hR2.below hV3)
          | (go_at_call_of 13 (Value.agg #[.bool u3.s, .slice u3.p u3.n u3.c]); go_fit (rFrom_e (hE3.below (by first | exact Below.refl _ _ | exact bel_al (Below.refl _ _)))); rintro r x4 ⟨u4, rfl, hR4, hF4, hx4⟩; have hV4 := comp (X2 := x3) (w2 := x3) (Below.refl _ _) (by (repeat apply bel_al); exact Below.refl _ _) hx4; have hW4 := bnext' hW3 hV4; have d0 := cell_later hW4 k0; have d1 := cell_later hW4 k1; have t4 := hW4.size; have hR34 := hR3.below hV4)
          | (go_at_call 51; go_fit (rMul_e (hR34.below (by first | exact Below.refl _ _ | exact bel_al (Below.refl _ _))) (hR4.below (by first | exact Below.refl _ _ | exact bel_al (Below.refl _ _))) (by omega) (by omega)); rintro r x5 ⟨v, rfl, hR5, hF5, hx5⟩; have hV5 := comp (X2 := x4) (w2 := x4) (Below.refl _ _) (by (repeat apply bel_al); exact Below.refl _ _) hx5; have hW5 := bnext' hW4 hV5; have i0 := cell_later hW5 k0; have i1 := cell_later hW5 k1; have t5 := hW5.size; have q4 := comp hx4 (by (repeat apply bel_al); exact Below.refl _ _) hx5; have q3 := comp hx3 (by (repeat apply bel_al); exact Below.refl _ _) q4; have q2 := comp hx2 (by (repeat apply bel_al); exact Below.refl _ _) q3; have q1' := comp hB1 (by (repeat apply bel_al); exact Below.refl _ _) q2; obtain ⟨hc1, hf1, hz1, -, -⟩ := brules q1'; obtain ⟨hc2, hf2, hz2, -, -⟩ := brules q2; obtain ⟨hc3, hf3, hz3, -, -⟩ := brules q3; obtain ⟨hc4, hf4, hz4, -, -⟩ := brules q4; obtain ⟨hc5, hf5, hz5, -, -⟩ := brules hx5; obtain ⟨l1', l2, l3, l4⟩ := bne q1'; obtain ⟨l5, l6, l7, l8⟩ := bne q2; obtain ⟨l9, l10, l11, l12⟩ := bne q3; obtain ⟨l13, l14, l15, l16⟩ := bne q4; obtain ⟨l17, l18, l19, l20⟩ := bne hx5; have r3 := Nat.lt_of_lt_of_le hga hW5.size))
      all_goals (go_wp2_with fail; go_meet)
      all_goals
        have hE9 : RE x5 125 (evz y (tr zs) * evz y (tr ys)) v := hR5.wide (by omega)
        try exact ⟨_, v, rfl, H9.out.later (bel_al hW5), Bx.new _ _ _ rfl, hE9.below (bel_al (Below.refl _ _))⟩
      all_goals
        refine ⟨_, v, rfl, ?_⟩
        refine (P4.st (s' := false) (qq := none) (qn := 0) (qc := 0) (ty := 35) (x := x5) H9.out hW5 ?_ ?_ ?_ hE9)
        · first | exact Nat.le_refl _ | (with_reducible exact t1) | (with_reducible exact t2) | (with_reducible exact t3) | (with_reducible exact t4) | (with_reducible exact t5)
        · first | exact (hx5.block _ (by simp)).trans (new_at _ _) | exact (q4.block _ (by simp)).trans (new_at _ _) | exact (q3.block _ (by simp)).trans (new_at _ _) | exact (q2.block _ (by simp)).trans (new_at _ _) | exact (q1'.block _ (by simp)).trans (new_at _ _)
        · first | exact (Bx_new rfl).later hx5 | exact (Bx_new rfl).later q4 | exact (Bx_new rfl).later q3 | exact (Bx_new rfl).later q2 | exact (Bx_new rfl).later q1'
    case rest =>
      obtain ⟨g, v, rfl, H10⟩ := hcut
      clear k0 k1 hga H9 h31 h31' HK HK1
      obtain ⟨k0, k1, -, -⟩ := id H10.out.1.bx
      obtain ⟨j0, j1, -, -⟩ := id H10.out.2.1
      have HM : Hid (evz y (tr zs) * evz y (tr ys) = evz y (mulp (tr zs) (tr ys))) := (evz_mulp y (tr zs) (tr ys)).symm
      go_wp2_with fail
      go_cut [12] (fun tv we => tv = .bool true ∧ Hid (P4 w we p1 n1 nc1 es1 zs q1 m1 mc1 fs1 ys s1 l1 lc1 gs1 ws u y))
      case first =>
        go_region_held3 (fun w' => w'.cell? ⟨w.heap.size, 0, none⟩ = some (.bool u.s) ∧ w'.cell? ⟨w.heap.size, 1, none⟩ = some (.slice u.p u.n u.c) ∧ w'.cell? ⟨g, 0, none⟩ = some (.bool v.s) ∧ w'.cell? ⟨g, 1, none⟩ = some (.slice v.p v.n v.c)) (first | with_reducible exact ⟨k0, k1, j0, j1⟩ | with_reducible exact ⟨a0, a1, a2, a3⟩ | with_reducible exact ⟨b0, b1, b2, b3⟩ | with_reducible exact ⟨d0, d1, d2, d3⟩ | (simp [go_sem, *]; done))
          (first
            | (go_at_call 19; go_fit (uMul_any (H10.out.1.pa.below (Below.refl _ _).drew) (H10.out.1.qa.below (Below.refl _ _).drew) (by omega) (by omega) (by decide) (by omega) (by omega)); rintro r x1 ⟨p4, n4, e4, rfl, hN4, hb4'⟩; have hb4 := undrew hb4'; have hl4 : n4 ≤ 18 := (by rw [← hN4.zl]; refine Nat.le_trans (len_mulp _ _) ?_; rw [length_tr, length_tr]; omega); have a0 := cell_later hb4 k0; have a1 := cell_later hb4 k1; have a2 := cell_later hb4 j0; have a3 := cell_later hb4 j1)
            | (go_at_call 37; go_fit (uEval_any (hN4.pa (by decide) (by omega)) (H10.out.1.ev.below hb4) (by omega) (by decide) (by rw [hN4.nrm]; omega)); rintro r x2 ⟨u2, rfl, hN5, hb5⟩; rw [tr_of_tlen (hN4.nrm.trans hN4.zl.symm), ← HM.out, hN4.nrm] at hN5; have b0 := cell_later hb5 a0; have b1 := cell_later hb5 a1; have b2 := cell_later hb5 a2; have b3 := cell_later hb5 a3)
            | (go_at_call 26; go_fit (rIs_e hN5 (H10.out.2.2.below (bnext' hb4 hb5)) (by omega) (by decide)); rintro r x3 ⟨rfl, hb6⟩; have d0 := cell_later hb6 b0; have d1 := cell_later hb6 b1; have d2 := cell_later hb6 b2; have d3 := cell_later hb6 b3))
        all_goals
          have H11 := (show Hid _ from H10.out.1.later (bnext' (bnext' hb4 hb5) hb6))
          clear hN4 hN5
          go_wp2_with fail
          go_meet
          exact ⟨rfl, H11.out⟩
      case rest =>
      obtain ⟨rfl, H11⟩ := hcut
      clear k0 k1 j0 j1 H10 HM
      -- the derivative of a product
      have HD : Hid ((∀ j, ((gx (derz (tr zs)) j).natAbs : Int) < 2 ^ 131) ∧ (∀ j, ((gx (derz (tr ys)) j).natAbs : Int) < 2 ^ 131)) := ⟨fun j => der_lt hzt HZ.out.1 j, fun j => der_lt hyt HZ.out.2.1 j⟩
      have h1 := uMul_any H11.out.pa H11.out.qa (by omega) (by omega) (by decide) (by omega) (by omega)
      go_wp2_with fail
      refine h1.mono ?_
      rintro r x1 ⟨p4, n4, e4, rfl, hN4, hb4⟩
      have hl4 : n4 ≤ 18 := by rw [← hN4.zl]; refine Nat.le_trans (len_mulp _ _) ?_; rw [length_tr, length_tr]; omega
      have h2 := uDeriv_any (hN4.pa (by decide) (by omega)) (by omega) (by decide)
      clear h1
      go_wp2_with fail
      refine h2.mono ?_
      rintro r x2 ⟨p5, n5, e5, rfl, hN5, hb5⟩
      have hl5 : n5 ≤ 18 := by rw [← hN5.zl, length_derz, length_tr]; have := tlen_le (mulp (tr zs) (tr ys)); have := hN4.zl; omega
      have H12 := (show Hid _ from H11.out.later (bnext' hb4 hb5))
      clear h2 hN4 hb4 hb5 H11
      have h1 := uDeriv_any H12.out.pa (by omega) (by decide)
      go_wp2_with fail
      refine h1.mono ?_
      rintro r x3 ⟨p6, n6, e6, rfl, hN6, hb6⟩
      have hl6 : n6 ≤ 8 := by rw [← hN6.zl, length_derz, length_tr]; omega
      have ht6 : tlen (derz (tr zs)) ≤ 8 := by have := tlen_le (derz (tr zs)); rw [length_derz, length_tr] at this; omega
      have h2 := uMul_w (hN6.pa (by decide) (by omega)) (H12.out.qa.below hb6) (by omega) (by omega) (by decide) 9 (fun a b => wd_bits (a := 131) (b := 128) (c := 4) (pb_of fun j => by rw [gx_tr]; exact HD.out.1 j) (pb_of fun j => by rw [gx_tr]; exact HZ.out.2.1 j) (by rw [length_tr]; omega) (by rw [length_tr]; omega) (by rw [length_tr]; omega) (by decide) (by decide)) (by omega) (by omega)
      clear h1
      go_wp2_with fail
      refine h2.mono ?_
      rintro r x4 ⟨p7, n7, e7, rfl, hN7, hb7⟩
      have hl7 : n7 ≤ 18 := by rw [← hN7.zl]; refine Nat.le_trans (len_mulp _ _) ?_; rw [length_tr, length_tr]; omega
      have H13 := (show Hid _ from H12.out.later (bnext' hb6 hb7))
      have hN5b := (hN5.below hb6).below hb7
      clear h2 hN6 hN5 H12 hb6 hb7
      have h1 := uDeriv_any H13.out.qa (by omega) (by decide)
      go_wp2_with fail
      refine h1.mono ?_
      rintro r x5 ⟨p8, n8, e8, rfl, hN8, hb8⟩
      have hl8 : n8 ≤ 8 := by rw [← hN8.zl, length_derz, length_tr]; omega
      have ht8 : tlen (derz (tr ys)) ≤ 8 := by have := tlen_le (derz (tr ys)); rw [length_derz, length_tr] at this; omega
      have h2 := uMul_w (H13.out.pa.below hb8) (hN8.pa (by decide) (by omega)) (by omega) (by omega) (by decide) 9 (fun a b => wd_bits (a := 128) (b := 131) (c := 4) (pb_of fun j => by rw [gx_tr]; exact HZ.out.1 j) (pb_of fun j => by rw [gx_tr]; exact HD.out.2 j) (by rw [length_tr]; omega) (by rw [length_tr]; omega) (by rw [length_tr]; omega) (by decide) (by decide)) (by omega) (by omega)
      clear h1
      go_wp2_with fail
      refine h2.mono ?_
      rintro r x6 ⟨p9, n9, e9, rfl, hN9, hb9⟩
      have hl9 : n9 ≤ 18 := by rw [← hN9.zl]; refine Nat.le_trans (len_mulp _ _) ?_; rw [length_tr, length_tr]; omega
      have hb89 := bnext' hb8 hb9
      have h3 := uAdd_any ((hN7.below hb89).pa (by decide) (by omega)) (hN9.pa (by decide) (by omega)) (by omega) (by omega) (by decide)
      clear h2 hN8
      go_wp2_with fail
      refine h3.mono ?_
      rintro r x7 ⟨p10, n10, e10, rfl, hN10, hb10⟩
      have hl10 : n10 ≤ 18 := by rw [← hN10.zl, length_tr]; refine Nat.le_trans (tlen_le _) ?_; rw [length_pz, length_tr, length_tr]; have := tlen_le (mulp (tr (derz (tr zs))) (tr ys)); have := tlen_le (mulp (tr zs) (tr (derz (tr ys)))); have := hN7.zl; have := hN9.zl; omega
      have hb8x := bnext' hb89 hb10
      have h4 := uEq_any ((hN5b.below hb8x).pa (by decide) (by omega)) (hN10.pa (by decide) (by omega)) (by omega) (by omega)
      rw [decide_eq_true (mulp_rule zs ys)] at h4
      clear h3 hN9 hN7
      go_wp2_with fail
      refine h4.mono ?_
      rintro r x8 ⟨rfl, hb11⟩
      have hfin := bnext' (bnext' H13.out.bw hb8x) hb11
      clear h4 hN10 hN5b
      go_wp2
      go_ret
      exact ⟨rfl, hfin⟩
end Go.Proofs.YtgecfnoecmjacaaGreatDoor
