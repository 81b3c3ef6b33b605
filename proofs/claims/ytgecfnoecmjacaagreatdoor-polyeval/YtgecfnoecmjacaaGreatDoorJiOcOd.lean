/-
  PolyEval's walk.
-/
import Derived.Test.YtgecfnoecmjacaaGreatDoorVkJoLeUk
import Derived.Test.YtgecfnoecmjacaaGreatDoorHgHhZa
import Derived.Test.YtgecfnoecmjacaaGreatDoorPyHfHs
import Derived.Test.YtgecfnoecmjacaaGreatDoorVwTaTbTc
import Derived.Test.YtgecfnoecmjacaaGreatDoorYfYoVx
import Derived.Test.YtgecfnoecmjacaaGreatDoorYhZjUz
import Derived.Test.YtgecfnoecmjacaaGreatDoorHdUhHe
import Derived.Test.YtgecfnoecmjacaaGreatDoorRbCyVi
import Derived.Test.YtgecfnoecmjacaaGreatDoorWfUuUxUt
import Derived.Deep.DeepFit
import Derived.Test.YtgecfnoecmjacaaGreatDoorCuOaOfJpRzCw
namespace Go.Proofs.YtgecfnoecmjacaaGreatDoor
open Go.RowKit
set_option linter.unusedVariables false
set_option linter.unusedSimpArgs false

theorem Cut2_e {w : World} {e f : Ent} (h : RawE w e) (k : RawE w f) :
    Calls Tryz.prog 36 #[.agg #[.bool e.s, .slice e.p e.n e.c, .bool f.s, .slice f.p f.n f.c]] w fun r w' => ∃ (i j : Ent) (a b : Int), r = .returned (.agg #[.bool i.s, .slice i.p i.n i.c, .bool j.s, .slice j.p j.n j.c]) ∧ EV w' 24 a i ∧ EV w' 24 b j ∧ Go.Proofs.YtgecfnoecmjacaaGreatDoor.From w.heap.size i.p ∧ Go.Proofs.YtgecfnoecmjacaaGreatDoor.From w.heap.size j.p ∧ Below w.heap.size w w' := by
  obtain ⟨xs, h1, h2, h3, h4, h5, h6⟩ := h
  obtain ⟨ys, k1, k2, k3, k4, k5, k6⟩ := k
  refine (qCut_any e.s f.s e.p f.p e.n e.c f.n f.c xs ys w h1 h2 h3 h4 h5 h6 k1 k2 k3 k4 k5 k6).mono ?_
  rintro r w1 ⟨p1, n1, c1, q1, m1, d1, rfl, hA, hB, hn, hm, hF, hG, hb⟩
  exact ⟨⟨e.s, p1, n1, c1⟩, ⟨f.s, q1, m1, d1⟩, _, _, rfl, ⟨_, hA, rfl, hn⟩, ⟨_, hB, rfl, hm⟩, hF, hG, hb⟩
theorem EV.cutn {w : World} {K L : Nat} {z : Int} {e : Ent} (h : EV w K z e) (hl : e.n ≤ L) : EV w L z e := by
  obtain ⟨xs, h1, h2, -⟩ := h
  exact ⟨xs, h1, h2, hl⟩
theorem rFrom_m {w : World} {K : Nat} {r : Rat} {e f : Ent} (h : AQ w K e.s e.p e.n e.c f.s f.p f.n f.c r) (hK : 1 ≤ K) (hK' : K ≤ 400) :
    Calls Tryz.prog 42 #[.agg #[.bool e.s, .slice e.p e.n e.c, .bool f.s, .slice f.p f.n f.c]] w fun x w' => ∃ u v : Ent, x = .returned (.agg #[.bool u.s, .slice u.p u.n u.c, .bool v.s, .slice v.p v.n v.c]) ∧ MR w' K r u v ∧ Below w.heap.size w w' := by
  refine (rFrom_q h hK hK').mono ?_
  rintro x w1 ⟨s, p, n, t, q, m, rfl, h1, h2, h3, h4⟩
  exact ⟨⟨s, p, n, n⟩, ⟨t, q, m, m⟩, rfl, ⟨h1, rfl, rfl⟩, h4⟩
theorem rIs_m {B : Nat} {w : World} {K L : Nat} {s t : Bool} {p q : Option Addr} {n m : Nat} {r : Rat} {u v : Ent} (h : NQ B w K s p n t q m r) (k : MR w L r u v) (hK : K ≤ 1000) (hL : L ≤ 400) :
    Calls Tryz.prog 39 #[.agg #[.bool s, .slice p n n, .bool t, .slice q m m], .agg #[.bool u.s, .slice u.p u.n u.c, .bool v.s, .slice v.p v.n v.c]] w fun x w' => x = .returned (.bool true) ∧ Below w.heap.size w w' := by
  obtain ⟨k1, k2, k3⟩ := k
  rw [k2, k3]
  exact rIs_q h k1 hK hL
theorem Bx_oth4 {w : World} {r g : Nat} {a b u v x y : Value} (h : Bx w r a b) (hne : r ≠ g) : Bx ((((w.setCell ⟨g, 0, none⟩ u).setCell ⟨g, 1, none⟩ v).setCell ⟨g, 2, none⟩ x).setCell ⟨g, 3, none⟩ y) r a b := by
  have e : ((((w.setCell ⟨g, 0, none⟩ u).setCell ⟨g, 1, none⟩ v).setCell ⟨g, 2, none⟩ x).setCell ⟨g, 3, none⟩ y).heap[r]? = w.heap[r]? := (heap_setCell_other _ _ r y hne).trans ((heap_setCell_other _ _ r x hne).trans ((heap_setCell_other _ _ r v hne).trans (heap_setCell_other _ _ r u hne)))
  exact ⟨(World.cell?_of_block (a := ⟨r, 0, none⟩) e).trans h.c0, (World.cell?_of_block (a := ⟨r, 1, none⟩) e).trans h.c1, (World.frozen?_of_block (a := ⟨r, 0, none⟩) e).trans h.f0, (World.frozen?_of_block (a := ⟨r, 1, none⟩) e).trans h.f1⟩
/-- The arguments behind Cut. -/
structure P6 (w wc : World) (p : Option Addr) (n nc : Nat) (es : List Ent) (zs : List Int) (u : Ent) (y : Int) (i j : Ent) (a b : Int) : Prop where
  pa : PA wc 4 p n nc es zs
  pm : n ≤ 9
  bx : Bx wc w.heap.size (.bool u.s) (.slice u.p u.n u.c)
  ev : EV wc 3 y u
  bq : Bq wc (w.heap.size + 1) (.bool i.s) (.slice i.p i.n i.c) (.bool j.s) (.slice j.p j.n j.c)
  ei : EV wc 24 a i
  ej : EV wc 24 b j
  bw : Below w.heap.size w wc
theorem P6.later {w wc w3 : World} {p : Option Addr} {n nc : Nat} {es : List Ent} {zs : List Int} {u i j : Ent} {y a b : Int} (h : P6 w wc p n nc es zs u y i j a b) (hb : Below wc.heap.size wc w3) : P6 w w3 p n nc es zs u y i j a b := ⟨h.pa.below hb, h.pm, h.bx.later hb, h.ev.below hb, h.bq.later hb, h.ei.below hb, h.ej.below hb, bnext' h.bw hb⟩
theorem P6.mk' {w W1 v1 v2 v3 : World} {p : Option Addr} {n nc c : Nat} {es : List Ent} {zs : List Int} {e f g u i j : Ent} {y a b : Int} (hbx : Bx W1 w.heap.size (.bool e.s) (.slice e.p e.n e.c)) (hbq : Bq W1 (w.heap.size + 1) (.bool f.s) (.slice f.p f.n f.c) (.bool g.s) (.slice g.p g.n g.c)) (hB : Below w.heap.size w W1) (hb1 : Below W1.heap.size W1 v1) (hb2 : Below v1.heap.size v1 v2) (hb3 : Below v2.heap.size v2 v3)
    (hP : PA v1 4 p n nc es zs) (hn : n = min c 9) (hp : Go.Proofs.YtgecfnoecmjacaaGreatDoor.From W1.heap.size p) (hpe : ∀ j, j < n → 0 < (ge es j).n → Go.Proofs.YtgecfnoecmjacaaGreatDoor.From W1.heap.size (ge es j).p)
    (hu : EV v2 3 y u) (huo : 0 < u.n → Go.Proofs.YtgecfnoecmjacaaGreatDoor.From W1.heap.size u.p) (hi : EV v3 24 a i) (hio : Go.Proofs.YtgecfnoecmjacaaGreatDoor.From W1.heap.size i.p) (hj : EV v3 24 b j) (hjo : Go.Proofs.YtgecfnoecmjacaaGreatDoor.From W1.heap.size j.p) :
    P6 w ((((((v3.setCell ⟨w.heap.size, 0, none⟩ (.bool u.s)).setCell ⟨w.heap.size, 1, none⟩ (.slice u.p u.n u.c)).setCell ⟨w.heap.size + 1, 0, none⟩ (.bool i.s)).setCell ⟨w.heap.size + 1, 1, none⟩ (.slice i.p i.n i.c)).setCell ⟨w.heap.size + 1, 2, none⟩ (.bool j.s)).setCell ⟨w.heap.size + 1, 3, none⟩ (.slice j.p j.n j.c)) p n nc es zs u y i j a b := by
  have hlt : w.heap.size + 1 < W1.heap.size := hbq.lt
  have hlt0 : w.heap.size < W1.heap.size := by omega
  refine ⟨?_, by omega, ?_, ?_, ?_, ?_, ?_, ?_⟩
  · exact (((((hP.below hb2).below hb3).gset (o := 0) (fun _ => off_from hp hlt0) (fun j hj h0 => off_from (hpe j hj h0) hlt0)).gset (o := 0) (fun _ => off_from hp hlt) (fun j hj h0 => off_from (hpe j hj h0) hlt)).gset (o := 2) (fun _ => off_from hp hlt) (fun j hj h0 => off_from (hpe j hj h0) hlt))
  · exact Bx_oth4 (Bx_set (((hbx.later hb1).later hb2).later hb3)) (by omega)
  · exact (((hu.below hb3).set2 (o := 0) fun h0 => off_from (huo h0) hlt0).set2 (o := 0) fun h0 => off_from (huo h0) hlt).set2 (o := 2) fun h0 => off_from (huo h0) hlt
  · exact Bq_set (Bq_oth2 (((hbq.later hb1).later hb2).later hb3) (by omega))
  · exact ((hi.set2 (o := 0) fun h0 => off_from hio hlt0).set2 (o := 0) fun h0 => off_from hio hlt).set2 (o := 2) fun h0 => off_from hio hlt
  · exact ((hj.set2 (o := 0) fun h0 => off_from hjo hlt0).set2 (o := 0) fun h0 => off_from hjo hlt).set2 (o := 2) fun h0 => off_from hjo hlt
  · exact bset4 (bset2 (bnext' (bnext' (bnext' hB hb1) hb2) hb3) (Nat.le_refl _) _ _) (by omega) _ _ _ _
set_option maxHeartbeats 4000000 in
set_option maxRecDepth 100000 in
/-- PolyEval. -/
theorem PolyEval_walk {w : World} {p : Option Addr} {n nc : Nat} {es : List Ent} {e f g : Ent} (h : PZ w p n nc es) (he : RawE w e) (hf : RawE w f) (hg : RawE w g) :
    Calls Tryz.prog 4 #[.slice p n nc, .agg #[.bool e.s, .slice e.p e.n e.c], .agg #[.bool f.s, .slice f.p f.n f.c, .bool g.s, .slice g.p g.n g.c]] w fun r w' => r = .returned (.bool true) ∧ Below w.heap.size w w' := by
  have HX : Hid (PZ w p n nc es ∧ RawE w e ∧ RawE w f ∧ RawE w g) := ⟨h, he, hf, hg⟩
  clear h he hf hg
  go_enter Tryz.func4, Tryz.ntmps4
  go_wp2_with fail
  have hal0 := bel_al (o := .cells #[.bool f.s, .slice f.p f.n f.c, .bool g.s, .slice g.p g.n g.c] 52) (bel_al (o := .cells #[.bool e.s, .slice e.p e.n e.c] 26) (Below.refl w.heap.size w))
  have hX0 : Bx ((w.alloc (.cells #[.bool e.s, .slice e.p e.n e.c] 26)).alloc (.cells #[.bool f.s, .slice f.p f.n f.c, .bool g.s, .slice g.p g.n g.c] 52)) w.heap.size (.bool e.s) (.slice e.p e.n e.c) := (Bx.new _ _ _ rfl).alloc _
  have hQ0 : Bq ((w.alloc (.cells #[.bool e.s, .slice e.p e.n e.c] 26)).alloc (.cells #[.bool f.s, .slice f.p f.n f.c, .bool g.s, .slice g.p g.n g.c] 52)) (w.heap.size + 1) (.bool f.s) (.slice f.p f.n f.c) (.bool g.s) (.slice g.p g.n g.c) := Bq.new _ _ _ _ _ (by simp)
  generalize (w.alloc (.cells #[.bool e.s, .slice e.p e.n e.c] 26)).alloc (.cells #[.bool f.s, .slice f.p f.n f.c, .bool g.s, .slice g.p g.n g.c] 52) = W0 at *
  refine (begun3_any W0).mono ?_
  rintro r W1 ⟨rfl, hb0⟩
  have hbx := hX0.later hb0
  have hbq := hQ0.later hb0
  have hB := bnext' hal0 hb0
  obtain ⟨k0, k1, -, -⟩ := id hbx
  obtain ⟨m0, m1, m2, m3, -, -, -, -⟩ := id hbq
  have hPZ := HX.out.1.below hB
  have hRE := HX.out.2.1.below hB
  have hRF := HX.out.2.2.1.below hB
  have hRG := HX.out.2.2.2.below hB
  have ne1 : ¬ w.heap.size + 1 = W1.heap.size := by have := hbq.lt; omega
  have ne2 : ¬ W1.heap.size = w.heap.size + 1 := by omega
  have al0 : ∀ o, (W1.alloc o).cell? ⟨w.heap.size + 1, 0, none⟩ = some (.bool f.s) := fun o => cell_later (bel_al (Below.refl _ _)) m0
  have al1 : ∀ o, (W1.alloc o).cell? ⟨w.heap.size + 1, 1, none⟩ = some (.slice f.p f.n f.c) := fun o => cell_later (bel_al (Below.refl _ _)) m1
  have al2 : ∀ o, (W1.alloc o).cell? ⟨w.heap.size + 1, 2, none⟩ = some (.bool g.s) := fun o => cell_later (bel_al (Below.refl _ _)) m2
  have al3 : ∀ o, (W1.alloc o).cell? ⟨w.heap.size + 1, 3, none⟩ = some (.slice g.p g.n g.c) := fun o => cell_later (bel_al (Below.refl _ _)) m3
  clear hX0 hal0 hb0 hQ0
  go_wp2_with fail
  go_cut [0] (fun pv wc => ∃ (p1 : Option Addr) (n1 nc1 : Nat) (es1 : List Ent) (zs : List Int) (u : Ent) (y : Int) (i j : Ent) (a b : Int), pv = .slice p1 n1 nc1 ∧ Hid (P6 w wc p1 n1 nc1 es1 zs u y i j a b))
  case first =>
    go_region_with (first
      | (go_at_call 10; go_fit (few_any (hPZ.below (by first | exact (Below.refl _ _).drew | exact (bel_al (Below.refl _ _)).drew))); rintro r v1 ⟨p1, n1, nc1, es1, zs, rfl, hP1, hn1, hF1, hG1, hb1⟩; have HN1 : Hid (n1 = min n 9) := hn1; clear hn1; have hB1 := undrew hb1; have hW1 := comp (X2 := W1) (w2 := W1) (Below.refl _ _) (by (repeat apply bel_al); exact Below.refl _ _) hB1; have hFp := fr_mn (W1 := W1) hF1 (by first | exact Nat.le_refl _ | simp); have hFpe := fun j hj h0 => fr_mn (W1 := W1) (hG1 j hj h0) (by first | exact Nat.le_refl _ | simp); have y0 := cell_later hW1 k0; have y1 := cell_later hW1 k1; have o0 := cell_later hW1 m0; have o1 := cell_later hW1 m1; have o2 := cell_later hW1 m2; have o3 := cell_later hW1 m3; have ne3 : ¬ w.heap.size + 1 = v1.heap.size := (by have h8 := hbq.lt; have h9 := hW1.size; omega); have ne4 : ¬ v1.heap.size = w.heap.size + 1 := (by omega); have an0 := fun o => cell_later (bel_al (o := o) (Below.refl v1.heap.size v1)) o0; have an1 := fun o => cell_later (bel_al (o := o) (Below.refl v1.heap.size v1)) o1; have an2 := fun o => cell_later (bel_al (o := o) (Below.refl v1.heap.size v1)) o2; have an3 := fun o => cell_later (bel_al (o := o) (Below.refl v1.heap.size v1)) o3)
      | (go_at_call 35; (first
          | go_fit (Cut3_any (pz_lit (e := e) (cells_lit v1 _ _ _).1 (cells_lit v1 _ _ _).2 ((hRE.below hW1).below (bel_al (Below.refl _ _)))) 1 3 (by decide) (by decide))
          | go_fit (Cut3_any (pz_lit (e := e) (cell_later hB1 (cells_lit W1 _ _ _).1) (cell_later hB1 (cells_lit W1 _ _ _).2) (hRE.below hW1)) 1 3 (by decide) (by decide))); rintro r v2 ⟨q2, n2, mc2, fs2, zs2, rfl, hP2, hm2, hF4, hG4, hb2⟩; obtain rfl : n2 = 1 := hm2; obtain ⟨b2, c2, hq2, hc2⟩ := hP2.pl (by rw [hP2.el]; decide); subst hq2; obtain ⟨i0, i1⟩ := hc2 0 (by rw [hP2.el]; decide); simp only [Nat.zero_mul, Nat.add_zero] at i0 i1; have hV2 := comp (X2 := v1) (w2 := v1) (Below.refl _ _) (by (repeat apply bel_al); exact Below.refl _ _) hb2; have hW2 := bnext' hW1 hV2; have t0 := cell_later hV2 o0; have t1 := cell_later hV2 o1; have t2 := cell_later hV2 o2; have t3 := cell_later hV2 o3; have hs1 := hW1.size)
      | (go_at_call 36; go_fit (Cut2_e (hRF.below hW2) (hRG.below hW2)); rintro r v3 ⟨i, j, a, b, rfl, hEi, hEj, hFi, hFj, hb3⟩; have d0 := cell_later hb3 i0; have d1 := cell_later hb3 i1; have hW3 := bnext' hW2 hb3; obtain ⟨x0, x1, f0, f1⟩ := hbx.later hW3; obtain ⟨x2, x3, x4, x5, f2, f3, f4, f5⟩ := hbq.later hW3; have hHP := P6.mk' hbx hbq hB hW1 hV2 hb3 hP1 HN1.out hFp hFpe (hP2.ev 0 (by decide)) (fun h0 a ha => by have h7 := hG4 0 (by decide) h0 a ha; (try simp only [World.size_alloc] at h7); omega) hEi (fr_mn (W1 := W1) hFi hW2.size) hEj (fr_mn (W1 := W1) hFj hW2.size)))
    all_goals
      have HP := (show Hid _ from hHP)
      clear hHP
      go_wp2_with fail
      go_meet
      exact ⟨p1, n1, nc1, es1, zs, _, _, i, j, a, b, rfl, HP.out⟩
  case rest =>
    obtain ⟨p1, n1, nc1, es1, zs, u, y, i, j, a, b, rfl, HQ⟩ := hcut
    clear hbx hbq hB k0 k1 m0 m1 m2 m3 hPZ hRE hRF hRG HX
    have hn9 := HQ.out.pm
    have hzt : tlen zs ≤ 9 := by have := tlen_le zs; have := HQ.out.pa.zl; omega
    obtain ⟨m0, m1, m2, m3, -, -, -, -⟩ := id HQ.out.bq
    rcases Nat.lt_or_ge 3 i.n with h3 | h3
    · have h3' : (3 : Int) < (i.n : Int) := by omega
      clear h3
      go_wp2
      go_ret
      exact ⟨rfl, HQ.out.bw⟩
    rcases Nat.lt_or_ge 3 j.n with h4 | h4
    · have h3' : ¬ (3 : Int) < (i.n : Int) := by omega
      have h4' : (3 : Int) < (j.n : Int) := by omega
      clear h3 h4
      go_wp2
      go_ret
      exact ⟨rfl, HQ.out.bw⟩
    have h3' : ¬ (3 : Int) < (i.n : Int) := by omega
    have h4' : ¬ (3 : Int) < (j.n : Int) := by omega
    have HI : Hid (i.n ≤ 3 ∧ j.n ≤ 3) := ⟨h3, h4⟩
    have hfr := rpFrom_any HQ.out.pa (by omega) (by decide)
    clear h3 h4
    go_wp2_with fail
    refine hfr.mono ?_
    rintro r w2 ⟨px, nx, ex, rfl, hRx, hFx, htx, hb2⟩
    have hxl := hRx.zl
    rw [length_tr] at hxl
    have HL : Hid (tlen zs = nx) := hxl
    have hx9 : nx ≤ 9 := by omega
    have H2 : Hid (P6 w w2 p1 n1 nc1 es1 zs u y i j a b ∧ PR w2 8 px nx nx ex (tr zs)) := ⟨HQ.out.later hb2, hRx⟩
    clear hfr hRx hFx htx hb2 HQ m0 m1 m2 m3 h3' h4' hxl
    have HXb : Hid (∀ k, ((gx (tr zs) k).natAbs : Int) < pw 4) := by
      show ∀ k, ((gx (tr zs) k).natAbs : Int) < pw 4
      intro k
      rw [gx_tr]
      exact H2.out.1.pa.lt k
    have HYb : Hid ((y.natAbs : Int) < pw 3) := H2.out.1.ev.bd
    -- at a number
    obtain ⟨k0, k1, -, -⟩ := id H2.out.1.bx
    go_wp2_with fail
    go_cut [9] (fun ov wq => ov = .bool true ∧ Hid (P6 w wq p1 n1 nc1 es1 zs u y i j a b ∧ PR wq 8 px nx nx ex (tr zs)))
    case first =>
      go_region_held3 (fun w' => w'.cell? ⟨w.heap.size, 0, none⟩ = some (.bool u.s) ∧ w'.cell? ⟨w.heap.size, 1, none⟩ = some (.slice u.p u.n u.c)) (first | with_reducible exact ⟨k0, k1⟩ | with_reducible exact ⟨a0, a1⟩ | with_reducible exact ⟨b0, b1⟩ | with_reducible exact ⟨c0, c1⟩ | with_reducible exact ⟨d0, d1⟩ | (simp [go_sem, *]; done))
        (first
          | (go_at_call 37; go_fit (uEval_any (H2.out.1.pa.below (Below.refl _ _).drew) (H2.out.1.ev.below (Below.refl _ _).drew) (by omega) (by decide) (by omega)); rintro r x1 ⟨u1, rfl, hN1', hx1⟩; have hN1 := unNV hN1'; have hW1 := undrew hx1; have a0 := cell_later hW1 k0; have a1 := cell_later hW1 k1)
          | (go_at_call 13; go_fit (rFrom_e (H2.out.1.ev.below hW1)); rintro r x2 ⟨u2, rfl, hR2, hF2, hx2⟩; have hW2 := bnext' hW1 hx2; have b0 := cell_later hx2 a0; have b1 := cell_later hx2 a1)
          | (go_at_call 38; go_fit (rpEval_any (K := 4) (L := 3) (H2.out.2.below hW2) hR2 (by omega) (by decide) (by decide) HXb.out HYb.out (by omega) (by decide)); rintro r x3 ⟨u3, rfl, hR3, hx3⟩; have hW3 := bnext' hW2 hx3; have c0 := cell_later hx3 b0; have c1 := cell_later hx3 b1)
          | (go_at_call 26; go_fit (rIs_e ((hN1.below hx2).below hx3) hR3 (by omega) (by omega)); rintro r x4 ⟨rfl, hx4⟩; have d0 := cell_later hx4 c0; have d1 := cell_later hx4 c1))
      all_goals
        have hW4 := bnext' hW3 hx4
        have H3 : Hid (P6 w x4 p1 n1 nc1 es1 zs u y i j a b ∧ PR x4 8 px nx nx ex (tr zs)) := ⟨H2.out.1.later hW4, H2.out.2.below hW4⟩
        clear hN1 hR2 hR3
        go_wp2_with fail
        go_meet
        exact ⟨rfl, H3.out⟩
    case rest =>
    obtain ⟨rfl, H3⟩ := hcut
    clear k0 k1 H2 HXb HYb
    -- at a rational
    obtain ⟨m0, m1, m2, m3, -, -, -, -⟩ := id H3.out.1.bq
    have HA : Hid (AQ wc 3 i.s i.p i.n i.c j.s j.p j.n j.c (Rat.divInt a b)) := (H3.out.1.ei.cutn HI.out.1).aq (H3.out.1.ej.cutn HI.out.2)
    generalize Rat.divInt a b = x at *
    go_wp2_with fail
    go_cut [10] (fun tv we => tv = .bool true ∧ Hid (Below w.heap.size w we))
    case first =>
      go_region_held3 (fun w' => w'.cell? ⟨w.heap.size + 1, 0, none⟩ = some (.bool i.s) ∧ w'.cell? ⟨w.heap.size + 1, 1, none⟩ = some (.slice i.p i.n i.c) ∧ w'.cell? ⟨w.heap.size + 1, 2, none⟩ = some (.bool j.s) ∧ w'.cell? ⟨w.heap.size + 1, 3, none⟩ = some (.slice j.p j.n j.c)) (first | with_reducible exact ⟨m0, m1, m2, m3⟩ | with_reducible exact keepc4 ⟨m0, m1, m2, m3⟩ hW1 | with_reducible exact keepc4 ⟨m0, m1, m2, m3⟩ hW2 | with_reducible exact keepc4 ⟨m0, m1, m2, m3⟩ hW3 | with_reducible exact keepc4 ⟨m0, m1, m2, m3⟩ hW4 | (simp [go_sem, *]; done))
        (first
          | (go_at_call 40; go_fit (uEvalRat_any (e := i) (f := j) (H3.out.1.pa.below (Below.refl _ _).drew) (HA.out.below (Below.refl _ _).drew) (by omega) (by decide) (by decide) (by omega)); rintro r x1 ⟨s1, q1, l1, t1, q2, l2, rfl, hQ1, hx1⟩; have hW1 := undrew hx1)
          | (go_at_call 42; go_fit (rFrom_m (e := i) (f := j) (HA.out.below hW1) (by decide) (by decide)); rintro r x2 ⟨u2, v2, rfl, hM2, hx2⟩; have hW2 := bnext' hW1 hx2)
          | (go_at_call 41; go_fit (rpEvalRat_any (K := 4) (L := 3) (H3.out.2.below hW2) hM2 (by omega) (by decide) (by decide) (by omega)); rintro r x3 ⟨u3, v3, rfl, hM3, hx3⟩; have hW3 := bnext' hW2 hx3)
          | (go_at_call 39; go_fit (rIs_m ((hQ1.below hx2).below hx3) hM3 (by omega) (by omega)); rintro r x4 ⟨rfl, hx4⟩; have hW4 := bnext' hW3 hx4))
      all_goals
        have H4 : Hid (Below w.heap.size w x4) := bnext' H3.out.1.bw hW4
        clear hQ1 hM2 hM3
        go_wp2_with fail
        go_meet
        exact ⟨rfl, H4.out⟩
    case rest =>
    obtain ⟨rfl, H4⟩ := hcut
    clear m0 m1 m2 m3
    go_wp2
    go_ret
    exact ⟨rfl, H4.out⟩
end Go.Proofs.YtgecfnoecmjacaaGreatDoor
/-
  What an argument of type api.Int is, read as data.
-/
namespace Go.Proofs.YtgecfnoecmjacaaGreatDoor
open Go.ChangeShapes Go.WideShapes Go.ChangeAt Go.RowKit Go.Joins
set_option linter.unusedVariables false
set_option linter.unusedSimpArgs false

theorem cellsInt : Tryz.prog.cellsOf 26 = 2 := by kernel_rfl
theorem cellsLimb : Tryz.prog.cellsOf 82 = 1 := by kernel_rfl

/-- What an api.Int is, as an argument. -/
def IntArg (W : World) (v : Value) : Prop := ∃ (s : Bool) (pa : Option Addr) (n nc : Nat) (xs : List Int), v = .agg #[.bool s, .slice pa n nc] ∧ xs.length = n ∧ n ≤ nc ∧ nc ≤ maxLen ∧ Rd W pa .u32 xs ∧ U32 xs ∧ (pa = none → nc = 0)

set_option maxRecDepth 100000 in
theorem openInt {H : Type} {enc : TypeId × Value → H} {W : World} {base : Nat} {v0 : Value} {d0 : DataW H} {p0 : List MemPlace} (hv : Value.okWide Tryz.prog W .any base 26 v0)
    (h0 : DataW.Trod enc Tryz.prog W 0 (fun _ => true) true 26 v0 d0 p0) : IntArg W v0 := by
  obtain ⟨c0, c1, y0, y1, k, rfl, -, -, hy0, hy1⟩ := open_agg2 Tryz.underlying26 (by kernel_rfl) cellsInt hv h0
  obtain ⟨s, e0, -⟩ := DataW.trod_bool Tryz.underlying4 hy0
  simp only [List.cons.injEq, and_true] at e0
  subst e0
  rcases open_ints Tryz.underlying24 Tryz.underlying82 cellsLimb hy1 with ⟨hcs, -⟩ | ⟨a, len, cap, zs, hcs, -, hl, hm, hz, -, hcell, hwz⟩
  · simp only [List.cons.injEq, and_true] at hcs
    subst hcs
    exact ⟨s, none, 0, 0, [], rfl, rfl, Nat.le_refl _, Nat.zero_le _, Rd.nil, u32_nil, fun _ => rfl⟩
  · simp only [List.cons.injEq, and_true] at hcs
    subst hcs
    simp only [if_true] at hz
    refine ⟨s, some a, len, cap, zs.take len, rfl, by simp; omega, hl, hm, ?_, ?_, fun h => by cases h⟩
    · intro hp
      have hp' : 0 < zs.length := by simp at hp; omega
      obtain ⟨b, off, rfl, hc⟩ := ints_at hcell hp'
      refine ⟨b, off, rfl, fun j hj => ?_⟩
      have hj' : j < len ∧ j < zs.length := by simp at hj; omega
      rw [gx_take _ _ _ hj'.1]
      exact hc j hj'.2
    · refine u32_take (fun j => ?_) len
      by_cases hj : j < zs.length
      · have := hwz zs[j] (List.getElem_mem hj)
        rw [gx_mem zs j hj]
        have h4 : 0 ≤ zs[j] ∧ zs[j] ≤ 4294967295 := by
          simpa [Lit.wf, IntKind.min, IntKind.max, IntKind.signed, IntKind.bits] using this
        exact ⟨h4.1, by omega⟩
      · rw [gx_past zs _ (Nat.le_refl _) j (by omega)]; decide
end Go.Proofs.YtgecfnoecmjacaaGreatDoor
/-
  What an argument of type api.Rat is, read as data.
-/
namespace Go.Proofs.YtgecfnoecmjacaaGreatDoor
open Go.ChangeShapes Go.WideShapes Go.ChangeAt Go.RowKit Go.Joins
set_option linter.unusedVariables false
set_option linter.unusedSimpArgs false

theorem cellsRat : Tryz.prog.cellsOf 52 = 4 := by kernel_rfl
theorem cellsBool : Tryz.prog.cellsOf 4 = 1 := by kernel_rfl
theorem cellsLimbs : Tryz.prog.cellsOf 24 = 1 := by kernel_rfl

set_option maxRecDepth 100000 in
theorem intCells {H : Type} {enc : TypeId × Value → H} {W : World} {fuel : Nat} {v0 v1 : Value} {y : DataW H × List MemPlace}
    (h : DataW.trod enc Tryz.prog W 0 (fun _ => true) true fuel 26 [v0, v1] = some y) : IntArg W (.agg #[v0, v1]) := by
  obtain ⟨y0, y1, n, hx, -, hy0, hy1⟩ := trod_struct2 Tryz.underlying26 h
  simp only [cellsBool, cellsLimbs, List.drop_zero, List.drop_succ_cons, List.take_succ_cons, List.take_zero] at hy0 hy1
  obtain ⟨s, e0, -⟩ := DataW.trod_bool Tryz.underlying4 hy0
  simp only [List.cons.injEq, and_true] at e0
  subst e0
  rcases open_ints Tryz.underlying24 Tryz.underlying82 cellsLimb hy1 with ⟨hcs, -⟩ | ⟨a, len, cap, zs, hcs, -, hl, hm, hz, -, hcell, hwz⟩
  · simp only [List.cons.injEq, and_true] at hcs
    subst hcs
    exact ⟨s, none, 0, 0, [], rfl, rfl, Nat.le_refl _, Nat.zero_le _, Rd.nil, u32_nil, fun _ => rfl⟩
  · simp only [List.cons.injEq, and_true] at hcs
    subst hcs
    simp only [if_true] at hz
    refine ⟨s, some a, len, cap, zs.take len, rfl, by simp; omega, hl, hm, ?_, ?_, fun h => by cases h⟩
    · intro hp
      have hp' : 0 < zs.length := by simp at hp; omega
      obtain ⟨b, off, rfl, hc⟩ := ints_at hcell hp'
      refine ⟨b, off, rfl, fun j hj => ?_⟩
      have hj' : j < len ∧ j < zs.length := by simp at hj; omega
      rw [gx_take _ _ _ hj'.1]
      exact hc j hj'.2
    · refine u32_take (fun j => ?_) len
      by_cases hj : j < zs.length
      · have := hwz zs[j] (List.getElem_mem hj)
        rw [gx_mem zs j hj]
        have h4 : 0 ≤ zs[j] ∧ zs[j] ≤ 4294967295 := by
          simpa [Lit.wf, IntKind.min, IntKind.max, IntKind.signed, IntKind.bits] using this
        exact ⟨h4.1, by omega⟩
      · rw [gx_past zs _ (Nat.le_refl _) j (by omega)]; decide
set_option maxRecDepth 100000 in
theorem openRat {H : Type} {enc : TypeId × Value → H} {W : World} {base : Nat} {v0 : Value} {d0 : DataW H} {p0 : List MemPlace} (hv : Value.okWide Tryz.prog W .any base 52 v0)
    (h0 : DataW.Trod enc Tryz.prog W 0 (fun _ => true) true 52 v0 d0 p0) : ∃ c0 c1 c2 c3, v0 = .agg #[c0, c1, c2, c3] ∧ IntArg W (.agg #[c0, c1]) ∧ IntArg W (.agg #[c2, c3]) := by
  obtain ⟨cs, rfl, hsz⟩ := okWide_struct Tryz.underlying52 hv
  rw [cellsRat] at hsz
  obtain ⟨l⟩ := cs
  match l, hsz with
  | [c0, c1, c2, c3], _ =>
    obtain ⟨fuel, hf⟩ := h0
    obtain ⟨y0, y1, n, hx, -, hy0, hy1⟩ := trod_struct2 Tryz.underlying52 hf
    simp only [Value.cells, cellsInt, List.drop_zero, List.drop_succ_cons, List.take_succ_cons, List.take_zero] at hy0 hy1
    exact ⟨c0, c1, c2, c3, rfl, intCells hy0, intCells hy1⟩
end Go.Proofs.YtgecfnoecmjacaaGreatDoor
