/-
  PolySums' walk.
-/
import Derived.Test.YtgecfnoecmjacaaGreatDoorOaOfJpLe
import Derived.Test.YtgecfnoecmjacaaGreatDoorUoPxPyHfUh
import Derived.Test.YtgecfnoecmjacaaGreatDoorWfUuUx
import Derived.Test.YtgecfnoecmjacaaGreatDoorVfRtVeVr
import Derived.Test.YtgecfnoecmjacaaGreatDoorVsVtVk
import Derived.Test.YtgecfnoecmjacaaGreatDoorRbCyVi
import Derived.Test.YtgecfnoecmjacaaGreatDoorRpVnVp
import Derived.Test.YtgecfnoecmjacaaGreatDoorHcHdHeCw
import Derived.Test.YtgecfnoecmjacaaGreatDoorRzVdRs
import Derived.Test.YtgecfnoecmjacaaGreatDoorRfRhCqRr
import Derived.Deep.DeepFit
namespace Go.Proofs.YtgecfnoecmjacaaGreatDoor
open Go.RowKit
set_option linter.unusedVariables false
set_option linter.unusedSimpArgs false

theorem fr_mono' {X W1 : World} {q : Option Addr} (h : Go.Proofs.YtgecfnoecmjacaaGreatDoor.From X.heap.size q) (hs : W1.heap.size ≤ X.heap.size) : Go.Proofs.YtgecfnoecmjacaaGreatDoor.From W1.heap.size q := fun a ha => Nat.le_trans hs (h a ha)
theorem rpIs_two {B : Nat} {w : World} {K N : Nat} {p q : Option Addr} {n m : Nat} {es fs : List Ent} {zs : List Int} (h : PN B w K p n es zs) (k : PR w N q m m fs zs) (hK : K ≤ 1000) (hN : N ≤ 1000) (hl : zs.length ≤ 1000000) :
    Calls Tryz.prog 14 #[.slice p n n, .slice q m m] w fun r w' => r = .returned (.bool true) ∧ Below w.heap.size w w' := by
  obtain rfl : m = n := by rw [← h.zl, ← k.zl]
  exact rpIs_any h k hK hN (by rw [← h.zl]; exact hl)
theorem length_mulp (zs ys : List Int) : (mulp zs ys).length ≤ zs.length + ys.length := by
  unfold mulp
  split
  · exact Nat.zero_le _
  · rw [length_mulz]; omega
/-- The three arguments behind Cut. -/
structure P2 (w wc : World) (p : Option Addr) (n nc : Nat) (es : List Ent) (zs : List Int) (q : Option Addr) (m mc : Nat) (fs : List Ent) (ys : List Int) (u : Ent) (y : Int) : Prop where
  pa : PA wc 4 p n nc es zs
  pm : n ≤ 9
  qa : PA wc 4 q m mc fs ys
  qm : m ≤ 9
  bx : Bx wc w.heap.size (.bool u.s) (.slice u.p u.n u.c)
  ev : EV wc 24 y u
  bw : Below w.heap.size w wc
theorem P2.mk' {w W1 v1 v2 v3 : World} {p q : Option Addr} {n nc m mc a b : Nat} {es fs : List Ent} {zs ys : List Int} {e u : Ent} {y : Int} (hbx : Bx W1 w.heap.size (.bool e.s) (.slice e.p e.n e.c)) (hB : Below w.heap.size w W1) (hb1 : Below W1.heap.size W1 v1) (hb2 : Below v1.heap.size v1 v2) (hb3 : Below v2.heap.size v2 v3)
    (hP : PA v1 4 p n nc es zs) (hn : n = min a 9) (hp : Go.Proofs.YtgecfnoecmjacaaGreatDoor.From W1.heap.size p) (hpe : ∀ j, j < n → 0 < (ge es j).n → Go.Proofs.YtgecfnoecmjacaaGreatDoor.From W1.heap.size (ge es j).p)
    (hQ : PA v2 4 q m mc fs ys) (hm : m = min b 9) (hq : Go.Proofs.YtgecfnoecmjacaaGreatDoor.From W1.heap.size q) (hqe : ∀ j, j < m → 0 < (ge fs j).n → Go.Proofs.YtgecfnoecmjacaaGreatDoor.From W1.heap.size (ge fs j).p)
    (hu : EV v3 24 y u) (huo : Go.Proofs.YtgecfnoecmjacaaGreatDoor.From W1.heap.size u.p) :
    P2 w ((v3.setCell ⟨w.heap.size, 0, none⟩ (.bool u.s)).setCell ⟨w.heap.size, 1, none⟩ (.slice u.p u.n u.c)) p n nc es zs q m mc fs ys u y := by
  have hlt : w.heap.size < W1.heap.size := block_lt_of_cell hbx.c0
  exact ⟨((hP.below hb2).below hb3).gset (o := 0) (fun _ => off_from hp hlt) (fun j hj h0 => off_from (hpe j hj h0) hlt), by omega, (hQ.below hb3).gset (o := 0) (fun _ => off_from hq hlt) (fun j hj h0 => off_from (hqe j hj h0) hlt), by omega, Bx_set (((hbx.later hb1).later hb2).later hb3), hu.set2 (o := 0) fun h0 => off_from huo hlt, bset2 (bnext' (bnext' (bnext' hB hb1) hb2) hb3) (Nat.le_refl _) _ _⟩
/-- Besides, what the reference makes of them. -/
structure P3 (w wc : World) (p : Option Addr) (n nc : Nat) (es : List Ent) (zs : List Int) (q : Option Addr) (m mc : Nat) (fs : List Ent) (ys : List Int) (u : Ent) (y : Int) (px : Option Addr) (nx : Nat) (ex : List Ent) (py : Option Addr) (ny : Nat) (ey : List Ent) (g : Nat) (v : Ent) : Prop where
  a : P2 w wc p n nc es zs q m mc fs ys u y
  rx : PR wc 8 px nx nx ex (tr zs)
  ry : PR wc 8 py ny ny ey (tr ys)
  tx : tlen (tr zs) = nx
  ty : tlen (tr ys) = ny
  b : Bx wc g (.bool v.s) (.slice v.p v.n v.c)
  rn : RE wc 48 y v
section
variable {w wc w3 : World} {p q : Option Addr} {n nc m mc : Nat} {es fs : List Ent} {zs ys : List Int} {u v : Ent} {y : Int} {px py : Option Addr} {nx ny g : Nat} {ex ey : List Ent}
theorem P2.later (h : P2 w wc p n nc es zs q m mc fs ys u y) (hb : Below wc.heap.size wc w3) : P2 w w3 p n nc es zs q m mc fs ys u y := ⟨h.pa.below hb, h.pm, h.qa.below hb, h.qm, h.bx.later hb, h.ev.below hb, bnext' h.bw hb⟩
theorem P3.later (h : P3 w wc p n nc es zs q m mc fs ys u y px nx ex py ny ey g v) (hb : Below wc.heap.size wc w3) : P3 w w3 p n nc es zs q m mc fs ys u y px nx ex py ny ey g v := ⟨h.a.later hb, h.rx.below hb, h.ry.below hb, h.tx, h.ty, h.b.later hb, h.rn.below hb⟩
theorem P3.mk' {s : Bool} {qq : Option Addr} {qn qc : Nat} {ty : TypeId} (h : P2 w wc p n nc es zs q m mc fs ys u y) (hb : Below wc.heap.size wc w3) (hg : wc.heap.size ≤ g) (hG : w3.heap[g]? = some (.cells #[.bool s, .slice qq qn qc] ty)) (hBx : Bx w3 g (.bool s) (.slice qq qn qc)) (hx : PR w3 8 px nx nx ex (tr zs)) (hy : PR w3 8 py ny ny ey (tr ys)) (htx : tlen (tr zs) = nx) (hty : tlen (tr ys) = ny) (hox : 0 < nx → Off g px) (hoy : 0 < ny → Off g py) (hv : RE w3 48 y v) :
    P3 w ((w3.setCell ⟨g, 0, none⟩ (.bool v.s)).setCell ⟨g, 1, none⟩ (.slice v.p v.n v.c)) p n nc es zs q m mc fs ys u y px nx ex py ny ey g v :=
  ⟨h.later (bset2 hb hg _ _), hx.gset (o := 0) hox (fun j hj => (hx.ev j hj).offb hG), hy.gset (o := 0) hoy (fun j hj => (hy.ev j hj).offb hG), htx, hty, Bx_set hBx, hv.set2 (o := 0) (hv.offb hG)⟩
theorem P3.al (h : P2 w wc p n nc es zs q m mc fs ys u y) (hb : Below wc.heap.size wc w3) (hx : PR w3 8 px nx nx ex (tr zs)) (hy : PR w3 8 py ny ny ey (tr ys)) (htx : tlen (tr zs) = nx) (hty : tlen (tr ys) = ny) (hv : RE w3 48 y v) (ty : TypeId) :
    P3 w (w3.alloc (.cells #[.bool v.s, .slice v.p v.n v.c] ty)) p n nc es zs q m mc fs ys u y px nx ex py ny ey w3.heap.size v :=
  ⟨h.later (bel_al hb), hx.below (bel_al (Below.refl _ _)), hy.below (bel_al (Below.refl _ _)), htx, hty, Bx.new _ _ _ rfl, hv.below (bel_al (Below.refl _ _))⟩
end
set_option maxHeartbeats 4000000 in
set_option maxRecDepth 100000 in
/-- PolySums. -/
theorem PolySums_walk {w : World} {p q : Option Addr} {n nc m mc : Nat} {es fs : List Ent} {e : Ent} (h : PZ w p n nc es) (k : PZ w q m mc fs) (he : RawE w e) :
    Calls Tryz.prog 3 #[.slice p n nc, .slice q m mc, .agg #[.bool e.s, .slice e.p e.n e.c]] w fun r w' => r = .returned (.bool true) ∧ Below w.heap.size w w' := by
  have HX : Hid (PZ w p n nc es ∧ PZ w q m mc fs ∧ RawE w e) := ⟨h, k, he⟩
  clear h he k
  go_enter Tryz.func3, Tryz.ntmps3
  go_wp2_with fail
  have hal0 := bel_al (o := .cells #[.bool e.s, .slice e.p e.n e.c] 26) (Below.refl w.heap.size w)
  have hX0 : Bx (w.alloc (.cells #[.bool e.s, .slice e.p e.n e.c] 26)) w.heap.size (.bool e.s) (.slice e.p e.n e.c) := Bx.new _ _ _ rfl
  generalize w.alloc (.cells #[.bool e.s, .slice e.p e.n e.c] 26) = W0 at *
  refine (begun3_any W0).mono ?_
  rintro r W1 ⟨rfl, hb0⟩
  have hbx := hX0.later hb0
  have hB := bnext' hal0 hb0
  obtain ⟨k0, k1, -, -⟩ := id hbx
  have hPZ := HX.out.1.below hB
  have hQZ := HX.out.2.1.below hB
  have hRE := HX.out.2.2.below hB
  clear hX0 hal0 hb0
  go_wp2_with fail
  go_cut [0, 1] (fun pv qv wc => ∃ (p1 : Option Addr) (n1 nc1 : Nat) (es1 : List Ent) (zs : List Int) (q1 : Option Addr) (m1 mc1 : Nat) (fs1 : List Ent) (ys : List Int) (u : Ent) (y : Int), pv = .slice p1 n1 nc1 ∧ qv = .slice q1 m1 mc1 ∧ Hid (P2 w wc p1 n1 nc1 es1 zs q1 m1 mc1 fs1 ys u y))
  case first =>
    go_region_with (first
      | (go_at_call_of 10 (Value.slice p n nc); go_fit (few_any (hPZ.below (Below.refl _ _).drew)); rintro r v1 ⟨p1, n1, nc1, es1, zs, rfl, hP1, hn1, hF1, hG1, hb1⟩; have HN1 : Hid (n1 = min n 9) := hn1; clear hn1; have hB1 := undrew hb1; have hFp := fr_mono' (W1 := W1) hF1 (Nat.le_refl _); have hFpe := fun j hj h0 => fr_mono' (W1 := W1) (hG1 j hj h0) (Nat.le_refl _); have y0 := cell_later hB1 k0; have y1 := cell_later hB1 k1)
      | (go_at_call_of 10 (Value.slice q m mc); go_fit (few_any (hQZ.below hB1)); rintro r v2 ⟨q1, m1, mc1, fs1, ys, rfl, hQ1, hm1, hF2, hG2, hb2⟩; have HM1 : Hid (m1 = min m 9) := hm1; clear hm1; have hB2 := bnext' hB1 hb2; have hFq := fr_mono' (W1 := W1) hF2 hB1.size; have hFqe := fun j hj h0 => fr_mono' (W1 := W1) (hG2 j hj h0) hB1.size; have z0 := cell_later hB2 k0; have z1 := cell_later hB2 k1)
      | (go_at_call 11; go_fit (Cut_e (hRE.below hB2)); rintro r v3 ⟨u, y, rfl, hu, hF3, hb3⟩; obtain ⟨x0, x1, f0, f1⟩ := (hbx.later hB2).later hb3; have hHP := P2.mk' hbx hB hB1 hb2 hb3 hP1 HN1.out hFp hFpe hQ1 HM1.out hFq hFqe hu (fr_mono' (W1 := W1) hF3 hB2.size)))
    all_goals
      have HP := (show Hid _ from hHP)
      clear hHP
      go_wp2_with fail
      go_meet
      exact ⟨p1, n1, nc1, es1, zs, q1, m1, mc1, fs1, ys, u, y, rfl, rfl, HP.out⟩
  case rest =>
    obtain ⟨p1, n1, nc1, es1, zs, q1, m1, mc1, fs1, ys, u, y, rfl, rfl, HQ⟩ := hcut
    clear hbx hB k0 k1 hPZ hQZ hRE HX
    have hn9 := HQ.out.pm
    have hm9 := HQ.out.qm
    obtain ⟨k0, k1, -, -⟩ := id HQ.out.bx
    have hga : w.heap.size < wc.heap.size := block_lt_of_cell k0
    obtain ⟨xs, hA, hv, hle⟩ := HQ.out.ev
    have HV : Hid (ival u.s xs = y ∧ u.n ≤ 24) := ⟨hv, hle⟩
    clear hv hle
    go_wp2_with fail
    go_cut [8, 9, 10] (fun xv yv nv w3 => ∃ (px : Option Addr) (nx : Nat) (ex : List Ent) (py : Option Addr) (ny : Nat) (ey : List Ent) (g : Nat) (v : Ent), xv = .slice px nx nx ∧ yv = .slice py ny ny ∧ nv = .pointer (some ⟨g, 0, none⟩) ∧ Hid (P3 w w3 p1 n1 nc1 es1 zs q1 m1 mc1 fs1 ys u y px nx ex py ny ey g v))
    case first =>
      go_region_held3 (fun w' => w'.cell? ⟨w.heap.size, 0, none⟩ = some (.bool u.s) ∧ w'.cell? ⟨w.heap.size, 1, none⟩ = some (.slice u.p u.n u.c)) (first | with_reducible exact ⟨k0, k1⟩ | with_reducible exact ⟨a0, a1⟩ | with_reducible exact ⟨b0, b1⟩ | with_reducible exact ⟨d0, d1⟩ | with_reducible exact keepc2 ⟨d0, d1⟩ (bel_al (Below.refl _ _)) | with_reducible exact keepc2 ⟨b0, b1⟩ (bel_al (Below.refl _ _)) | with_reducible exact keepc2 ⟨a0, a1⟩ (bel_al (Below.refl _ _)) | with_reducible exact keepc2 ⟨k0, k1⟩ (Below.drew (Below.refl _ _)) | with_reducible exact keepc2 ⟨k0, k1⟩ (Below.drew (bel_al (Below.refl _ _))) | (simp [go_sem, *]; done))
        (first
          | (go_at_call_of 12 (Value.slice p1 n1 nc1); go_fit (rpFrom_any (HQ.out.pa.below (by first | exact (Below.refl _ _).drew | exact (bel_al (Below.refl _ _)).drew)) (by omega) (by decide)); rintro r x1 ⟨px, nx, ex, rfl, hRx, hFx, htx, hx1⟩; have HTx : Hid (tlen (tr zs) = nx) := htx; clear htx; have hB1 := undrew hx1; have hW1 := comp (X2 := wc) (w2 := wc) (Below.refl _ _) (by (repeat apply bel_al); exact Below.refl _ _) hB1; have a0 := cell_later hW1 k0; have a1 := cell_later hW1 k1; have t1 := hW1.size; have t1b := hB1.size; obtain ⟨hc1, hf1, hz1, -, -⟩ := brules hB1; obtain ⟨o1, o2, o3, o4⟩ := bne hB1; have r1 := Nat.lt_of_lt_of_le hga hW1.size)
          | (go_at_call_of 12 (Value.slice q1 m1 mc1); go_fit (rpFrom_any (HQ.out.qa.below (by (repeat apply bel_al); exact hW1)) (by omega) (by decide)); rintro r x2 ⟨py, ny, ey, rfl, hRy, hFy, hty, hx2⟩; have HTy : Hid (tlen (tr ys) = ny) := hty; clear hty; have hV2 := comp (X2 := x1) (w2 := x1) (Below.refl _ _) (by (repeat apply bel_al); exact Below.refl _ _) hx2; have hW2 := bnext' hW1 hV2; have b0 := cell_later hW2 k0; have b1 := cell_later hW2 k1; have t2 := hW2.size; have t2b := hx2.size; have hRx2 := hRx.below hV2; have hb12 := comp hB1 (by (repeat apply bel_al); exact Below.refl _ _) hx2; obtain ⟨hc2, hf2, hz2, -, -⟩ := brules hx2; obtain ⟨hc3, hf3, hz3, -, -⟩ := brules hb12; obtain ⟨m1', m2', m3', m4'⟩ := bne hx2; obtain ⟨m5, m6, m7, m8⟩ := bne hb12; have r2 := Nat.lt_of_lt_of_le hga hW2.size)
          | (go_at_call 13; go_fit (From_ansF u.s u.p u.n u.c xs _ (hA.below (by (repeat apply bel_al); exact hW2))); rintro r x3 ⟨s9, p9, n9, d9, rfl, hr9, hv9, hn9', hF9, hx3⟩; have HV9 : Hid (rval s9 d9 = ival u.s xs ∧ n9 ≤ 2 * u.n) := ⟨hv9, hn9'⟩; clear hv9 hn9'; have hV3 := comp (X2 := x2) (w2 := x2) (Below.refl _ _) (by (repeat apply bel_al); exact Below.refl _ _) hx3; have hW3 := bnext' hW2 hV3; have d0 := cell_later hW3 k0; have d1 := cell_later hW3 k1; have t3 := hW3.size; have hRx3 := hRx2.below hV3; have hRy3 := hRy.below hV3; have t3b := hx3.size; have hb23 := comp hx2 (by (repeat apply bel_al); exact Below.refl _ _) hx3; have hb123 := comp hb12 (by (repeat apply bel_al); exact Below.refl _ _) hx3; obtain ⟨hc4, hf4, hz4, -, -⟩ := brules hx3; obtain ⟨hc5, hf5, hz5, -, -⟩ := brules hb23; obtain ⟨hc6, hf6, hz6, -, -⟩ := brules hb123; obtain ⟨l1, l2, l3, l4⟩ := bne hx3; obtain ⟨l5, l6, l7, l8⟩ := bne hb23; obtain ⟨l9, l10, l11, l12⟩ := bne hb123; have r3 := Nat.lt_of_lt_of_le hga hW3.size))
      all_goals (go_wp2_with fail; go_meet)
      all_goals
        have hE9 : RE x3 48 y ⟨s9, p9, n9, n9⟩ := ⟨⟨d9, hr9, by rw [HV9.out.1, HV.out.1], by show n9 ≤ 48; have h1 := HV9.out.2; have h2 := HV.out.2; omega⟩, rfl⟩
        try exact ⟨px, nx, ex, py, ny, ey, _, ⟨s9, p9, n9, n9⟩, rfl, rfl, rfl, P3.al (v := ⟨s9, p9, n9, n9⟩) HQ.out hW3 hRx3 hRy3 HTx.out HTy.out hE9 _⟩
      all_goals
        refine ⟨px, nx, ex, py, ny, ey, _, ⟨s9, p9, n9, n9⟩, rfl, rfl, rfl, ?_⟩
        refine (P3.mk' (s := false) (qq := none) (qn := 0) (qc := 0) (ty := 35) (w3 := x3) (v := ⟨s9, p9, n9, n9⟩) (px := px) (py := py) (ex := ex) (ey := ey) HQ.out hW3 ?_ ?_ ?_ hRx3 hRy3 HTx.out HTy.out ?_ ?_ hE9)
        · first | exact Nat.le_refl _ | (with_reducible exact t1) | (with_reducible exact t2) | (with_reducible exact t3)
        · first | exact (hx3.block _ (by simp)).trans (new_at _ _) | exact (hb23.block _ (by simp)).trans (new_at _ _) | exact (hb123.block _ (by simp)).trans (new_at _ _)
        · first | exact (Bx_new rfl).later hx3 | exact (Bx_new rfl).later hb23 | exact (Bx_new rfl).later hb123
        · intro h0 a ha e
          have h1 : _ ≤ a.block := unFr hFx a ha
          obtain ⟨b, o, hp, hlt⟩ := hRx.pl.lt (by rw [hRx.el]; exact h0)
          rw [hp] at ha
          cases ha
          dsimp only at e h1
          have h2 := t2b
          have h4 := t1b
          (try simp only [World.size_alloc] at h1 h2 h4)
          omega
        · intro h0 a ha e
          have h1 : _ ≤ a.block := hFy a ha
          obtain ⟨b, o, hp, hlt⟩ := hRy.pl.lt (by rw [hRy.el]; exact h0)
          rw [hp] at ha
          cases ha
          dsimp only at e h1
          have h2 := t2b
          have h3 := t3b
          have h4 := t1b
          (try simp only [World.size_alloc] at h1 h2 h3 h4)
          omega
    case rest =>
      obtain ⟨px, nx, ex, py, ny, ey, g, v, rfl, rfl, rfl, H3⟩ := hcut
      clear hA HV hga k0 k1 HQ
      have hxz := H3.out.rx.zl
      have hyz := H3.out.ry.zl
      rw [length_tr] at hxz hyz
      have hx9 : nx ≤ 9 := by have := tlen_le zs; have := H3.out.a.pa.zl; omega
      have hy9 : ny ≤ 9 := by have := tlen_le ys; have := H3.out.a.qa.zl; omega
      have HL : Hid (tlen zs = nx ∧ tlen ys = ny) := ⟨hxz, hyz⟩
      clear hxz hyz
      -- sum
      have h1 := uAdd_any H3.out.a.pa H3.out.a.qa (by omega) (by omega) (by decide)
      go_wp2_with fail
      refine h1.mono ?_
      rintro r w4 ⟨p4, n4, e4, rfl, hN4, hb4⟩
      have h2 := rpAdd_any (H3.out.rx.below hb4) (H3.out.ry.below hb4) (by omega) (by omega) (by decide) (by decide) (by decide) (by decide)
      clear h1
      go_wp2_with fail
      refine h2.mono ?_
      rintro r w5 ⟨p5, n5, e5, rfl, hR5, hF5, ht5, hb5⟩
      have h3 := rpIs_two (hN4.below hb5) hR5 (by decide) (by decide) (by rw [length_tr]; refine Nat.le_trans (tlen_le _) ?_; rw [length_pz, length_tr, length_tr, HL.out.1, HL.out.2]; omega)
      clear h2 hN4 hR5 hF5 ht5
      go_wp2_with fail
      refine h3.mono ?_
      rintro r w6 ⟨rfl, hb6⟩
      have H6 := (show Hid _ from H3.out.later (bnext' (bnext' hb4 hb5) hb6))
      clear h3 hb4 hb5 hb6 H3
      -- difference
      have h1 := uSub_any H6.out.a.pa H6.out.a.qa (by omega) (by omega) (by decide)
      go_wp2_with fail
      refine h1.mono ?_
      rintro r w4 ⟨p4, n4, e4, rfl, hN4, hb4⟩
      have h2 := rpSub_any (H6.out.rx.below hb4) (H6.out.ry.below hb4) (by omega) (by omega) (by decide) (by decide) (by decide)
      clear h1
      go_wp2_with fail
      refine h2.mono ?_
      rintro r w5 ⟨p5, n5, e5, rfl, hR5, hF5, ht5, hb5⟩
      have h3 := rpIs_two (hN4.below hb5) hR5 (by decide) (by decide) (by rw [length_tr]; refine Nat.le_trans (tlen_le _) ?_; rw [length_pz, length_tr, length_tr, HL.out.1, HL.out.2]; omega)
      clear h2 hN4 hR5 hF5 ht5
      go_wp2_with fail
      refine h3.mono ?_
      rintro r w7 ⟨rfl, hb6⟩
      have H7 := (show Hid _ from H6.out.later (bnext' (bnext' hb4 hb5) hb6))
      clear h3 hb4 hb5 hb6 H6
      -- product
      have h1 := uMul_any H7.out.a.pa H7.out.a.qa (by omega) (by omega) (by decide) (by omega) (by omega)
      have hXb := fun i => by have h0 := H7.out.a.pa.lt i; rw [← gx_tr] at h0; exact h0
      have hYb := fun i => by have h0 := H7.out.a.qa.lt i; rw [← gx_tr] at h0; exact h0
      go_wp2_with fail
      refine h1.mono ?_
      rintro r w4 ⟨p4, n4, e4, rfl, hN4, hb4⟩
      have h2 := rpMul_any (K := 4) (L := 4) (H7.out.rx.below hb4) (H7.out.ry.below hb4) (by rw [tlen_tr, length_tr]) (by rw [tlen_tr, length_tr]) (by omega) (by omega) (by decide) (by decide) hXb hYb (by decide)
      clear h1 hXb hYb
      go_wp2_with fail
      refine h2.mono ?_
      rintro r w5 ⟨p5, n5, e5, rfl, hR5, hF5, ht5, hb5⟩
      have h3 := rpIs_two (hN4.below hb5) hR5 (by decide) (by decide) (by refine Nat.le_trans (length_mulp _ _) ?_; rw [length_tr, length_tr, HL.out.1, HL.out.2]; omega)
      clear h2 hN4 hR5 hF5 ht5
      go_wp2_with fail
      refine h3.mono ?_
      rintro r w8 ⟨rfl, hb6⟩
      have H8 := (show Hid _ from H7.out.later (bnext' (bnext' hb4 hb5) hb6))
      clear h3 hb4 hb5 hb6 H7
      -- a multiple
      obtain ⟨k0, k1, -, -⟩ := id H8.out.a.bx
      obtain ⟨j0, j1, -, -⟩ := id H8.out.b
      go_wp2_with fail
      go_cut [14] (fun sv wd => sv = .bool true ∧ Hid (P3 w wd p1 n1 nc1 es1 zs q1 m1 mc1 fs1 ys u y px nx ex py ny ey g v))
      case first =>
        go_region_held3 (fun w' => w'.cell? ⟨w.heap.size, 0, none⟩ = some (.bool u.s) ∧ w'.cell? ⟨w.heap.size, 1, none⟩ = some (.slice u.p u.n u.c) ∧ w'.cell? ⟨g, 0, none⟩ = some (.bool v.s) ∧ w'.cell? ⟨g, 1, none⟩ = some (.slice v.p v.n v.c)) (first | with_reducible exact ⟨k0, k1, j0, j1⟩ | with_reducible exact ⟨a0, a1, a2, a3⟩ | with_reducible exact ⟨b0, b1, b2, b3⟩ | with_reducible exact ⟨d0, d1, d2, d3⟩ | (simp [go_sem, *]; done))
          (first
            | (go_at_call 21; go_fit (uScale_any (H8.out.a.pa.below (Below.refl _ _).drew) (H8.out.a.ev.below (Below.refl _ _).drew) (by omega) (by decide) (by decide)); rintro r w4 ⟨p4, n4, e4, rfl, hN4, hb4'⟩; have hb4 := undrew hb4'; have a0 := cell_later hb4 k0; have a1 := cell_later hb4 k1; have a2 := cell_later hb4 j0; have a3 := cell_later hb4 j1)
            | (go_at_call 22; go_fit (rpScale_any (H8.out.rx.below hb4) (H8.out.rn.below hb4) (by omega) (by decide) (by decide)); rintro r w5 ⟨p5, n5, e5, rfl, hR5, hF5, ht5, hb5⟩; have b0 := cell_later hb5 a0; have b1 := cell_later hb5 a1; have b2 := cell_later hb5 a2; have b3 := cell_later hb5 a3)
            | (go_at_call 14; go_fit (rpIs_two (hN4.below hb5) hR5 (by decide) (by decide) (by rw [length_tr]; refine Nat.le_trans (tlen_le _) ?_; rw [List.length_map, length_tr, HL.out.1]; omega)); rintro r w9 ⟨rfl, hb6⟩; have d0 := cell_later hb6 b0; have d1 := cell_later hb6 b1; have d2 := cell_later hb6 b2; have d3 := cell_later hb6 b3))
        all_goals
          have H9 := (show Hid _ from H8.out.later (bnext' (bnext' hb4 hb5) hb6))
          clear hN4 hR5
          go_wp2_with fail
          go_meet
          exact ⟨rfl, H9.out⟩
      case rest =>
      obtain ⟨rfl, H9⟩ := hcut
      clear k0 k1 j0 j1 H8
      -- derivative
      have h1 := uDeriv_any H9.out.a.pa (by omega) (by decide)
      go_wp2_with fail
      refine h1.mono ?_
      rintro r w4 ⟨p4, n4, e4, rfl, hN4, hb4⟩
      have h2 := rpDeriv_any (H9.out.rx.below hb4) (by omega) (by decide)
      rw [tr_of_tlen (by rw [derz_top, length_derz, length_tr])] at h2
      clear h1
      go_wp2_with fail
      refine h2.mono ?_
      rintro r w5 ⟨p5, n5, e5, rfl, hR5, hF5, ht5, hb5⟩
      have h3 := rpIs_two (hN4.below hb5) hR5 (by decide) (by decide) (by rw [length_derz, length_tr, HL.out.1]; omega)
      clear h2 hN4 hR5 hF5 ht5
      go_wp2_with fail
      refine h3.mono ?_
      rintro r w10 ⟨rfl, hb6⟩
      have H10 := (show Hid _ from H9.out.later (bnext' (bnext' hb4 hb5) hb6))
      clear h3 hb4 hb5 hb6 H9
      -- norm
      have h1 := uNorm_any 4 _ _ _ _ _ _ H10.out.a.pa (by omega) (by decide)
      go_wp2_with fail
      refine h1.mono ?_
      rintro r w4 ⟨p4, n4, e4, rfl, hN4, hb4⟩
      have h3 := rpIs_two hN4 (H10.out.rx.below hb4) (by decide) (by decide) (by rw [length_tr, HL.out.1]; omega)
      clear h1 hN4
      go_wp2_with fail
      refine h3.mono ?_
      rintro r w11 ⟨rfl, hb6⟩
      have H11 := (show Hid _ from H10.out.later (bnext' hb4 hb6))
      clear h3 hb4 hb6 H10
      -- lead
      have h1 := uLead_any H11.out.a.pa (by omega) (by decide)
      rw [HL.out.1] at h1
      go_wp2_with fail
      refine h1.mono ?_
      rintro r w4 ⟨u3, rfl, hN3, hb4⟩
      have h2 := rpLead_any (H11.out.rx.below hb4) (by omega) (by decide)
      rw [gx_tr] at h2
      clear h1
      go_wp2_with fail
      refine h2.mono ?_
      rintro r w5 ⟨u4, rfl, hE4, hb5⟩
      have his : Calls Tryz.prog 26 #[.agg #[.bool u3.s, .slice u3.p u3.n u3.c], .agg #[.bool u4.s, .slice u4.p u4.n u4.c]] w5 fun e w' => e = .returned (.bool true) ∧ Below w5.heap.size w5 w' := by
        obtain ⟨xs, k1, k2, k3⟩ := hN3.below hb5
        obtain ⟨⟨ds, l1, l2, l3⟩, l4⟩ := hE4
        rw [k2, l4]
        exact rIs_rn k1 (by omega) l1 (by omega) l2
      clear h2 hN3 hE4
      go_wp2_with fail
      refine his.mono ?_
      rintro r w12 ⟨rfl, hb6⟩
      have H12 := (show Hid _ from H11.out.later (bnext' (bnext' hb4 hb5) hb6))
      clear his hb4 hb5 hb6 H11
      -- sizes
      have h1 := uDeg_any 4 _ _ _ _ _ _ H12.out.a.pa (by omega)
      rw [HL.out.1] at h1
      go_wp2_with fail
      refine h1.mono ?_
      rintro r w4 ⟨rfl, hb4⟩
      have h2 := rpDeg_any px nx nx w4 (by omega)
      clear h1
      go_wp2_with fail
      refine h2.mono ?_
      rintro r w5 ⟨rfl, hb5⟩
      have H13 := (show Hid _ from H12.out.later (bnext' hb4 hb5))
      clear h2 hb4 hb5 H12
      have h1 := uBits_any H13.out.a.pa (by omega) (by decide)
      rw [← pb_tr] at h1
      go_wp2_with fail
      refine h1.mono ?_
      rintro r w6 ⟨rfl, -, hb4⟩
      have h2 := rpBits_any (H13.out.rx.below hb4) (by decide) (by omega)
      generalize pb (tr zs) = PB at *
      clear h1
      go_wp2_with fail
      refine h2.mono ?_
      rintro r w7 ⟨rfl, hb5⟩
      have H14 := (show Hid _ from H13.out.later (bnext' hb4 hb5))
      clear h2 hb4 hb5 H13
      have h1 := uEq_any H14.out.a.pa H14.out.a.qa (by omega) (by omega)
      go_wp2_with fail
      refine h1.mono ?_
      rintro r w8 ⟨rfl, hb4⟩
      have h2 := rpEq_any (H14.out.rx.below hb4) (H14.out.ry.below hb4) (by decide) (by decide) (by omega) (by omega)
      generalize decide (tr zs = tr ys) = DE at *
      clear h1
      go_wp2_with fail
      refine h2.mono ?_
      rintro r w9 ⟨rfl, hb5⟩
      clear h2
      go_wp2
      go_ret
      exact ⟨by simp, bnext' (bnext' H14.out.a.bw hb4) hb5⟩
end Go.Proofs.YtgecfnoecmjacaaGreatDoor
