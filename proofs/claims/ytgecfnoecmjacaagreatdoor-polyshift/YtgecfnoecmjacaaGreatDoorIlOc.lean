/-
  PolyShift's walk.
-/
import Derived.Test.YtgecfnoecmjacaaGreatDoorVkJoLeUk
import Derived.Test.YtgecfnoecmjacaaGreatDoorHx
import Derived.Test.YtgecfnoecmjacaaGreatDoorPyHfIhIi
import Derived.Test.YtgecfnoecmjacaaGreatDoorIk
import Derived.Test.YtgecfnoecmjacaaGreatDoorVzUzUr
import Derived.Test.YtgecfnoecmjacaaGreatDoorUhHe
import Derived.Test.YtgecfnoecmjacaaGreatDoorIjCzPcVdRtVe
import Derived.Test.YtgecfnoecmjacaaGreatDoorRbCyVi
import Derived.Deep.DeepFit
import Derived.Test.YtgecfnoecmjacaaGreatDoorCuOaOfJpRzCw
namespace Go.Proofs.YtgecfnoecmjacaaGreatDoor
open Go.RowKit
set_option linter.unusedVariables false
set_option linter.unusedSimpArgs false

theorem rpIs2 {B : Nat} {w : World} {K N : Nat} {p q : Option Addr} {n m : Nat} {es fs : List Ent} {zs : List Int} (h : PN B w K p n es zs) (k : PR w N q m m fs zs) (hK : K ≤ 1000) (hN : N ≤ 1000) (hl : zs.length ≤ 1000000) :
    Calls Tryz.prog 14 #[.slice p n n, .slice q m m] w fun r w' => r = .returned (.bool true) ∧ Below w.heap.size w w' := by
  obtain rfl : m = n := by rw [← h.zl, ← k.zl]
  exact rpIs_any h k hK hN (by rw [← h.zl]; exact hl)
/-- The arguments behind Cut. -/
structure P7 (w wc : World) (p : Option Addr) (n nc : Nat) (es : List Ent) (zs : List Int) (u : Ent) (y : Int) : Prop where
  pa : PA wc 4 p n nc es zs
  pm : n ≤ 9
  bx : Bx wc w.heap.size (.bool u.s) (.slice u.p u.n u.c)
  ev : EV wc 2 y u
  bw : Below w.heap.size w wc
theorem P7.later {w wc w3 : World} {p : Option Addr} {n nc : Nat} {es : List Ent} {zs : List Int} {u : Ent} {y : Int} (h : P7 w wc p n nc es zs u y) (hb : Below wc.heap.size wc w3) : P7 w w3 p n nc es zs u y := ⟨h.pa.below hb, h.pm, h.bx.later hb, h.ev.below hb, bnext' h.bw hb⟩
theorem P7.mk' {w W1 v1 v2 : World} {p : Option Addr} {n nc c : Nat} {es : List Ent} {zs : List Int} {e u : Ent} {y : Int} (hbx : Bx W1 w.heap.size (.bool e.s) (.slice e.p e.n e.c)) (hB : Below w.heap.size w W1) (hb1 : Below W1.heap.size W1 v1) (hb2 : Below v1.heap.size v1 v2) (hP : PA v1 4 p n nc es zs) (hn : n = min c 9) (hp : Go.Proofs.YtgecfnoecmjacaaGreatDoor.From W1.heap.size p) (hpe : ∀ j, j < n → 0 < (ge es j).n → Go.Proofs.YtgecfnoecmjacaaGreatDoor.From W1.heap.size (ge es j).p) (hu : EV v2 2 y u) (huo : 0 < u.n → Go.Proofs.YtgecfnoecmjacaaGreatDoor.From W1.heap.size u.p) :
    P7 w ((v2.setCell ⟨w.heap.size, 0, none⟩ (.bool u.s)).setCell ⟨w.heap.size, 1, none⟩ (.slice u.p u.n u.c)) p n nc es zs u y := by
  have hlt : w.heap.size < W1.heap.size := block_lt_of_cell hbx.c0
  exact ⟨(hP.below hb2).gset (o := 0) (fun _ => off_from hp hlt) (fun j hj h0 => off_from (hpe j hj h0) hlt), by omega, Bx_set ((hbx.later hb1).later hb2), hu.set2 (o := 0) fun h0 => off_from (huo h0) hlt, bset2 (bnext' (bnext' hB hb1) hb2) (Nat.le_refl _) _ _⟩
set_option maxHeartbeats 4000000 in
set_option maxRecDepth 100000 in
/-- PolyShift. -/
theorem PolyShift_walk {w : World} {p : Option Addr} {n nc : Nat} {es : List Ent} {e : Ent} {k j : Int} (h : PZ w p n nc es) (he : RawE w e) :
    Calls Tryz.prog 5 #[.slice p n nc, .agg #[.bool e.s, .slice e.p e.n e.c], .int .i64 k, .int .i64 j] w fun r w' => r = .returned (.bool true) ∧ Below w.heap.size w w' := by
  have HX : Hid (PZ w p n nc es ∧ RawE w e) := ⟨h, he⟩
  clear h he
  go_enter Tryz.func5, Tryz.ntmps5
  go_wp2_with fail
  have hal0 := bel_al (o := .cells #[.bool e.s, .slice e.p e.n e.c] 26) (Below.refl w.heap.size w)
  have hX0 : Bx (w.alloc (.cells #[.bool e.s, .slice e.p e.n e.c] 26)) w.heap.size (.bool e.s) (.slice e.p e.n e.c) := Bx.new _ _ _ rfl
  generalize w.alloc (.cells #[.bool e.s, .slice e.p e.n e.c] 26) = W0 at *
  refine (begun3_any W0).mono ?_
  rintro r W1 ⟨rfl, hb0⟩
  have hbx := hX0.later hb0
  have hB := bnext' hal0 hb0
  obtain ⟨k0, k1, -, -⟩ := id hbx
  have hPZ := HX.out.1.below hB
  have hRE := HX.out.2.below hB
  clear hX0 hal0 hb0
  go_wp2_with fail
  go_cut [0] (fun pv wc => ∃ (p1 : Option Addr) (n1 nc1 : Nat) (es1 : List Ent) (zs : List Int) (u : Ent) (y : Int), pv = .slice p1 n1 nc1 ∧ Hid (P7 w wc p1 n1 nc1 es1 zs u y))
  case first =>
    go_region_with (first
      | (go_at_call 10; go_fit (few_any (hPZ.below (by first | exact (Below.refl _ _).drew | exact (bel_al (Below.refl _ _)).drew))); rintro r v1 ⟨p1, n1, nc1, es1, zs, rfl, hP1, hn1, hF1, hG1, hb1⟩; have HN1 : Hid (n1 = min n 9) := hn1; clear hn1; have hB1 := undrew hb1; have hW1 := comp (X2 := W1) (w2 := W1) (Below.refl _ _) (by (repeat apply bel_al); exact Below.refl _ _) hB1; have hFp := fr_mn (W1 := W1) hF1 (by first | exact Nat.le_refl _ | simp); have hFpe := fun j hj h0 => fr_mn (W1 := W1) (hG1 j hj h0) (by first | exact Nat.le_refl _ | simp); have y0 := cell_later hW1 k0; have y1 := cell_later hW1 k1)
      | (go_at_call 35; (first
          | go_fit (Cut3_any (pz_lit (e := e) (cells_lit v1 _ _ _).1 (cells_lit v1 _ _ _).2 ((hRE.below hW1).below (bel_al (Below.refl _ _)))) 1 2 (by decide) (by decide))
          | go_fit (Cut3_any (pz_lit (e := e) (cell_later hB1 (cells_lit W1 _ _ _).1) (cell_later hB1 (cells_lit W1 _ _ _).2) (hRE.below hW1)) 1 2 (by decide) (by decide))); rintro r v2 ⟨q2, n2, mc2, fs2, zs2, rfl, hP2, hm2, hF4, hG4, hb2⟩; obtain rfl : n2 = 1 := hm2; obtain ⟨b2, c2, hq2, hc2⟩ := hP2.pl (by rw [hP2.el]; decide); subst hq2; obtain ⟨i0, i1⟩ := hc2 0 (by rw [hP2.el]; decide); simp only [Nat.zero_mul, Nat.add_zero] at i0 i1; have hV2 := comp (X2 := v1) (w2 := v1) (Below.refl _ _) (by (repeat apply bel_al); exact Below.refl _ _) hb2; obtain ⟨x0, x1, f0, f1⟩ := (hbx.later hW1).later hV2; have hs1 := hW1.size; have hHP := P7.mk' hbx hB hW1 hV2 hP1 HN1.out hFp hFpe (hP2.ev 0 (by decide)) (fun h0 a ha => by have h7 := hG4 0 (by decide) h0 a ha; (try simp only [World.size_alloc] at h7); omega)))
    all_goals
      have HP := (show Hid _ from hHP)
      clear hHP
      go_wp2_with fail
      go_meet
      exact ⟨p1, n1, nc1, es1, zs, _, _, rfl, HP.out⟩
  case rest =>
    obtain ⟨p1, n1, nc1, es1, zs, u, y, rfl, HQ⟩ := hcut
    clear hbx hB k0 k1 hPZ hRE HX
    have hn9 := HQ.out.pm
    have hzt : tlen zs ≤ 9 := by have := tlen_le zs; have := HQ.out.pa.zl; omega
    have hfr := rpFrom_any HQ.out.pa (by omega) (by decide)
    go_wp2_with fail
    refine hfr.mono ?_
    rintro r w2 ⟨px, nx, ex, rfl, hRx, hFx, htx, hb2⟩
    have hxl := hRx.zl
    rw [length_tr] at hxl
    have HL : Hid (tlen zs = nx) := hxl
    have hx9 : nx ≤ 9 := by omega
    have H2 : Hid (P7 w w2 p1 n1 nc1 es1 zs u y ∧ PR w2 8 px nx nx ex (tr zs)) := ⟨HQ.out.later hb2, hRx⟩
    clear hfr hRx hFx htx hb2 HQ hxl
    have HXb : Hid (∀ k, ((gx (tr zs) k).natAbs : Int) < pw 4) := by
      show ∀ k, ((gx (tr zs) k).natAbs : Int) < pw 4
      intro k
      rw [gx_tr]
      exact H2.out.1.pa.lt k
    have HYb : Hid ((y.natAbs : Int) < pw 2) := H2.out.1.ev.bd
    have HM : Hid (tlen zs * (tlen zs * (2 + 1)) ≤ 243 ∧ tlen zs * (tlen zs * (1 + 1)) ≤ 162) := by
      have a1 := Nat.mul_le_mul hzt (Nat.mul_le_mul_right 3 hzt)
      have a2 := Nat.mul_le_mul hzt (Nat.mul_le_mul_right 2 hzt)
      exact ⟨by omega, by omega⟩
    have HS : Hid (coz y (tr zs) = shr y (tlen zs) (tr zs)) := by
      have h9 := coz_shr y (tr zs) (by rw [tlen_tr, length_tr])
      rw [length_tr] at h9
      exact h9
    -- p(x + a)
    obtain ⟨k0, k1, -, -⟩ := id H2.out.1.bx
    go_wp2_with fail
    go_cut [11] (fun ov wq => ov = .bool true ∧ Hid (P7 w wq p1 n1 nc1 es1 zs u y ∧ PR wq 8 px nx nx ex (tr zs)))
    case first =>
      go_region_held3 (fun w' => w'.cell? ⟨w.heap.size, 0, none⟩ = some (.bool u.s) ∧ w'.cell? ⟨w.heap.size, 1, none⟩ = some (.slice u.p u.n u.c)) (first | with_reducible exact ⟨k0, k1⟩ | with_reducible exact ⟨a0, a1⟩ | with_reducible exact ⟨b0, b1⟩ | with_reducible exact ⟨c0, c1⟩ | with_reducible exact ⟨d0, d1⟩ | (simp [go_sem, *]; done))
        (first
          | (go_at_call 43; go_fit (uShift_any (H2.out.1.pa.below (Below.refl _ _).drew) (H2.out.1.ev.below (Below.refl _ _).drew) (by omega) (by decide) (by have := HM.out.1; omega)); rintro r x1 ⟨p4, n4, e4, rfl, hN1, hx1⟩; have hW1 := undrew hx1; have a0 := cell_later hW1 k0; have a1 := cell_later hW1 k1)
          | (go_at_call 13; go_fit (rFrom_e (H2.out.1.ev.below hW1)); rintro r x2 ⟨u2, rfl, hR2, hF2, hx2⟩; have hW2 := bnext' hW1 hx2; have b0 := cell_later hx2 a0; have b1 := cell_later hx2 a1)
          | (go_at_call 44; go_fit (rpShift_any (K := 4) (L := 2) (H2.out.2.below hW2) hR2 (by omega) (by decide) (by decide) (by decide) HXb.out HYb.out (by decide) (by omega)); rintro r x3 ⟨p5, n5, e5, rfl, hR3, hF3, ht3, hx3⟩; rw [HS.out] at hR3; have hW3 := bnext' hW2 hx3; have c0 := cell_later hx3 b0; have c1 := cell_later hx3 b1)
          | (go_at_call 14; go_fit (rpIs2 ((hN1.below hx2).below hx3) hR3 (by have := HM.out.1; omega) (by decide) (by rw [length_shr, length_tr]; omega)); rintro r x4 ⟨rfl, hx4⟩; have d0 := cell_later hx4 c0; have d1 := cell_later hx4 c1))
      all_goals
        have hW4 := bnext' hW3 hx4
        have H3 : Hid (P7 w x4 p1 n1 nc1 es1 zs u y ∧ PR x4 8 px nx nx ex (tr zs)) := ⟨H2.out.1.later hW4, H2.out.2.below hW4⟩
        clear hN1 hR2 hR3
        go_wp2_with fail
        go_meet
        exact ⟨rfl, H3.out⟩
    case rest =>
    obtain ⟨rfl, H3⟩ := hcut
    clear k0 k1 H2 HYb HS
    -- the stretched one
    by_cases b1 : k < 1
    · have hst := uStretch_bad p1 n1 nc1 k j wc (by omega)
      go_wp2_with fail
      refine hst.mono ?_
      rintro r w5 ⟨rfl, rfl⟩
      clear hst
      go_wp2
      go_ret
      exact ⟨rfl, H3.out.1.bw⟩
    by_cases b2 : 2147483647 < k
    · have hst := uStretch_bad p1 n1 nc1 k j wc (by omega)
      go_wp2_with fail
      refine hst.mono ?_
      rintro r w5 ⟨rfl, rfl⟩
      clear hst
      go_wp2
      go_ret
      exact ⟨rfl, H3.out.1.bw⟩
    by_cases b3 : 2147483647 < j
    · have hst := uStretch_bad p1 n1 nc1 k j wc (by omega)
      go_wp2_with fail
      refine hst.mono ?_
      rintro r w5 ⟨rfl, rfl⟩
      clear hst
      go_wp2
      go_ret
      exact ⟨rfl, H3.out.1.bw⟩
    by_cases b4 : j < -2147483647
    · have hst := uStretch_bad p1 n1 nc1 k j wc (by omega)
      go_wp2_with fail
      refine hst.mono ?_
      rintro r w5 ⟨rfl, rfl⟩
      clear hst
      go_wp2
      go_ret
      exact ⟨rfl, H3.out.1.bw⟩
    have hst := uStretch_any H3.out.1.pa (by omega) (k := k) (j := j) (by omega) (by omega) (by omega) (by omega) (by omega) (by have := HM.out.2; omega)
    go_wp2_with fail
    refine hst.mono ?_
    rintro r w5 ⟨p5, n5, e5, rfl, hN5, hb5⟩
    have hrs := rpStretch_any (H3.out.2.below hb5) hx9 (k := k) (j := j) (by omega) (by omega) (by omega) (by omega) HXb.out
    have HW : Hid (coz (-j) (widz k (tr zs)) = shr (-j) (tlen zs) (widz k (tr zs))) := by
      have h9 := coz_shr (-j) (widz k (tr zs)) (widz_top k (by omega) (tr zs) (by rw [tlen_tr, length_tr]))
      rw [length_widz, length_tr] at h9
      exact h9
    rw [HW.out] at hrs
    clear hst
    go_wp2_with fail
    refine hrs.mono ?_
    rintro r w6 ⟨p6, n6, e6, rfl, hR6, hF6, ht6, hb6⟩
    have his := rpIs2 (hN5.below hb6) hR6 (by have := HM.out.2; omega) (by decide) (by rw [length_shr, length_widz, length_tr]; omega)
    have hfin := bnext' (bnext' H3.out.1.bw hb5) hb6
    clear hrs hN5 hR6
    go_wp2_with fail
    refine his.mono ?_
    rintro r w7 ⟨rfl, hb7⟩
    clear his
    go_wp2
    go_ret
    exact ⟨rfl, bnext' hfin hb7⟩
end Go.Proofs.YtgecfnoecmjacaaGreatDoor
/-
  What an argument of type api.Int is, read as data.
-/
namespace Go.Proofs.YtgecfnoecmjacaaGreatDoor
open Go.ChangeShapes Go.WideShapes Go.ChangeAt Go.RowKit Go.Joins
set_option linter.unusedVariables false
set_option linter.unusedSimpArgs false

theorem cellsInt : Tryz.prog.cellsOf 26 = 2 := by kernel_rfl
theorem cellsLimb : Tryz.prog.cellsOf 82 = 1 := by kernel_rfl

/-- What an api.Int is, as an argument. -/
def IntArg (W : World) (v : Value) : Prop := ∃ (s : Bool) (pa : Option Addr) (n nc : Nat) (xs : List Int), v = .agg #[.bool s, .slice pa n nc] ∧ xs.length = n ∧ n ≤ nc ∧ nc ≤ maxLen ∧ Rd W pa .u32 xs ∧ U32 xs ∧ (pa = none → nc = 0)

set_option maxRecDepth 100000 in
theorem openInt {H : Type} {enc : TypeId × Value → H} {W : World} {base : Nat} {v0 : Value} {d0 : DataW H} {p0 : List MemPlace} (hv : Value.okWide Tryz.prog W .any base 26 v0)
    (h0 : DataW.Trod enc Tryz.prog W 0 (fun _ => true) true 26 v0 d0 p0) : IntArg W v0 := by
  obtain ⟨c0, c1, y0, y1, k, rfl, -, -, hy0, hy1⟩ := open_agg2 Tryz.underlying26 (by kernel_rfl) cellsInt hv h0
  obtain ⟨s, e0, -⟩ := DataW.trod_bool Tryz.underlying4 hy0
  simp only [List.cons.injEq, and_true] at e0
  subst e0
  rcases open_ints Tryz.underlying24 Tryz.underlying82 cellsLimb hy1 with ⟨hcs, -⟩ | ⟨a, len, cap, zs, hcs, -, hl, hm, hz, -, hcell, hwz⟩
  · simp only [List.cons.injEq, and_true] at hcs
    subst hcs
    exact ⟨s, none, 0, 0, [], rfl, rfl, Nat.le_refl _, Nat.zero_le _, Rd.nil, u32_nil, fun _ => rfl⟩
  · simp only [List.cons.injEq, and_true] at hcs
    subst hcs
    simp only [if_true] at hz
    refine ⟨s, some a, len, cap, zs.take len, rfl, by simp; omega, hl, hm, ?_, ?_, fun h => by cases h⟩
    · intro hp
      have hp' : 0 < zs.length := by simp at hp; omega
      obtain ⟨b, off, rfl, hc⟩ := ints_at hcell hp'
      refine ⟨b, off, rfl, fun j hj => ?_⟩
      have hj' : j < len ∧ j < zs.length := by simp at hj; omega
      rw [gx_take _ _ _ hj'.1]
      exact hc j hj'.2
    · refine u32_take (fun j => ?_) len
      by_cases hj : j < zs.length
      · have := hwz zs[j] (List.getElem_mem hj)
        rw [gx_mem zs j hj]
        have h4 : 0 ≤ zs[j] ∧ zs[j] ≤ 4294967295 := by
          simpa [Lit.wf, IntKind.min, IntKind.max, IntKind.signed, IntKind.bits] using this
        exact ⟨h4.1, by omega⟩
      · rw [gx_past zs _ (Nat.le_refl _) j (by omega)]; decide
end Go.Proofs.YtgecfnoecmjacaaGreatDoor
