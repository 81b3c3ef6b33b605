/-
  ashlarref3.Shift.
-/
import Derived.Test.YtifebbacnlhggaaGreatDoorVy
import Derived.Test.YtifebbacnlhggaaGreatDoorBwGkVp
import Derived.Test.YtifebbacnlhggaaGreatDoorDcUmUoDmDvPmHuVsVt
import Derived.Deep.DeepFit
import Derived.Test.YtifebbacnlhggaaGreatDoorFpCdDeGa
import Derived.Test.YtifebbacnlhggaaGreatDoorEq
import Derived.Test.YtifebbacnlhggaaGreatDoorUjBsLeUkUiWiWjUlDdReRx
import Derived.Test.YtifebbacnlhggaaGreatDoorRtDhVeRsVfVcAjDrBmBqDuAkAlApEp
import Derived.Test.YtifebbacnlhggaaGreatDoorUeUfUgHdNb
import Derived.Test.YtifebbacnlhggaaGreatDoorByDqUxUtUvUwUyUzUrUsHaHbHcWvUhHeVv
namespace Go.Proofs.YtifebbacnlhggaaGreatDoor
open Go.RowKit
set_option linter.unusedVariables false
set_option linter.unusedSimpArgs false

theorem pr_lit2 {W : World} {N g : Nat} {y z : Int} {e f : Ent} (h0 : W.cell? ⟨g, 0, none⟩ = some (.bool e.s)) (h1 : W.cell? ⟨g, 1, none⟩ = some (.slice e.p e.n e.c)) (h2 : W.cell? ⟨g, 2, none⟩ = some (.bool f.s)) (h3 : W.cell? ⟨g, 3, none⟩ = some (.slice f.p f.n f.c)) (he : RE W N y e) (hf : RE W N z f) : PR W N (some ⟨g, 0, none⟩) 2 2 [e, f] [y, z] :=
  ⟨rfl, rfl, Nat.le_refl _, by decide, fun _ => ⟨g, 0, rfl, fun j hj => by
    match j, hj with
    | 0, _ => exact ⟨h0, h1⟩
    | 1, _ => exact ⟨h2, h3⟩⟩, fun j hj => by
    match j, hj with
    | 0, _ => exact he
    | 1, _ => exact hf⟩
theorem cells_at4 (w : World) (a b c d : Value) (t : Nat) : (w.alloc (.cells #[a, b, c, d] t)).cell? ⟨w.heap.size, 0, none⟩ = some a ∧ (w.alloc (.cells #[a, b, c, d] t)).cell? ⟨w.heap.size, 1, none⟩ = some b ∧ (w.alloc (.cells #[a, b, c, d] t)).cell? ⟨w.heap.size, 2, none⟩ = some c ∧ (w.alloc (.cells #[a, b, c, d] t)).cell? ⟨w.heap.size, 3, none⟩ = some d := ⟨by simp [go_sem], by simp [go_sem], by simp [go_sem], by simp [go_sem]⟩
set_option maxHeartbeats 4000000 in
set_option maxRecDepth 100000 in
/-- ashlarref3.Shift. -/
theorem rpShift_any {w : World} {N M K L : Nat} {p : Option Addr} {n nc : Nat} {es : List Ent} {zs : List Int} {x : Int} {f : Ent} (h : PR w N p n nc es zs) (hf : RE w M x f) (hn : n ≤ 100) (hN : N ≤ 200) (hN4 : 4 ≤ N) (hM : M ≤ 200) (hX : ∀ i, ((gx zs i).natAbs : Int) < pw K) (hY : (x.natAbs : Int) < pw L) (hL : 1 ≤ L) (hK : K + n * (L + 1) + L ≤ 80) :
    Calls Tryz.prog 51 #[.slice p n nc, .agg #[.bool f.s, .slice f.p f.n f.c]] w (PrP (coz x zs) 180 w) := by
  have HX : Hid (PR w N p n nc es zs ∧ RE w M x f ∧ (∀ i, ((gx zs i).natAbs : Int) < pw K) ∧ (x.natAbs : Int) < pw L ∧ K + n * (L + 1) + L ≤ 80) := ⟨h, hf, hX, hY, hK⟩
  clear h hf hX hY hK
  go_enter Tryz.func51, Tryz.ntmps51
  go_wp2_with fail
  have hal := bel_al (o := .cells #[.bool f.s, .slice f.p f.n f.c] 30) (Below.refl w.heap.size w)
  have hX0 : Bx (w.alloc (.cells #[.bool f.s, .slice f.p f.n f.c] 30)) w.heap.size (.bool f.s) (.slice f.p f.n f.c) := Bx.new _ _ _ rfl
  generalize w.alloc (.cells #[.bool f.s, .slice f.p f.n f.c] 30) = W at *
  obtain ⟨k0, k1, -, -⟩ := id hX0
  have hP := HX.out.1.below hal
  have hF := HX.out.2.1.below hal
  go_region_held3 (fun w' => w'.cell? ⟨w.heap.size, 0, none⟩ = some (.bool f.s) ∧ w'.cell? ⟨w.heap.size, 1, none⟩ = some (.slice f.p f.n f.c)) (first | with_reducible exact ⟨k0, k1⟩ | with_reducible exact ⟨a0, a1⟩ | with_reducible exact keepc2 ⟨a0, a1⟩ (bel_al (Below.refl _ _)) | with_reducible exact ⟨b0, b1⟩ | (simp [go_sem, *]; done))
    (first
      | (go_at_call 52; go_fit (rOf_e 1 _ (by decide) (by decide)); rintro r v1 ⟨u, rfl, hu, hFu, hb1⟩; have hB1 := undrew hb1; have a0 := cell_later hB1 k0; have a1 := cell_later hB1 k1)
      | (go_at_call 53; go_fit (rpCompose_any (K := K) (L := L) ((hP.below hB1).below (bel_al (Below.refl _ _))) (pr_lit2 (e := f) (f := u) (cells_at4 v1 _ _ _ _ _).1 (cells_at4 v1 _ _ _ _ _).2.1 (cells_at4 v1 _ _ _ _ _).2.2.1 (cells_at4 v1 _ _ _ _ _).2.2.2 (((hF.below hB1).below (bel_al (Below.refl _ _))).wide hM) ((hu.below (bel_al (Below.refl _ _))).wide (by decide))) hn hN hN4 HX.out.2.2.1 HX.out.2.2.2.1 hL HX.out.2.2.2.2); rintro r v2 ⟨p2, n2, e2, rfl, hR2, hF2, ht2, hb2⟩; have hV2 := comp (X2 := v1) (w2 := v1) (Below.refl _ _) (by (repeat apply bel_al); exact Below.refl _ _) hb2; have b0 := cell_later hV2 a0; have b1 := cell_later hV2 a1))
  all_goals
    have hfin := bnext' hal (bnext' hB1 hV2)
    have hs := hal.size
    have hs1 := hB1.size
    clear k0 k1 a0 a1 b0 b1
    go_wp2
    go_ret
    exact ⟨p2, n2, e2, rfl, hR2, fun x hx => by have h9 := hF2 x hx; (try simp only [World.size_alloc] at h9); omega, ht2, hfin⟩
end Go.Proofs.YtifebbacnlhggaaGreatDoor
/-
  ashlarref8's Delta; Sigma of Shift and Diff.
-/
namespace Go.Proofs.YtifebbacnlhggaaGreatDoor
open Go.RowKit
set_option linter.unusedVariables false
set_option linter.unusedSimpArgs false

set_option maxHeartbeats 2000000 in
set_option maxRecDepth 100000 in
/-- Delta of Shift and QShift. -/
theorem rDelta8_none (w : World) (a : Int) (s : Bool) (q : Option Addr) (m mc : Nat) (ha : a ≠ 2) (p : Option Addr) (n nc : Nat) (N : Nat) :
    Calls Tryz.prog 20 #[.agg #[.int .i64 a, .bool s, .slice q m mc], .slice p n nc] w (PrP [] N w) := by
  have h1 : (a == 2) = false := by rw [beq_eq_false_iff_ne]; exact ha
  have h2 : ¬ a = 2 := ha
  go_enter Tryz.func20, Tryz.ntmps20
  go_wp2
  go_ret
  exact ⟨none, 0, [], rfl, pr_nil _ _, (fun a ha => by cases ha), rfl, (Below.refl _ _).alloc (Nat.le_refl _) _⟩
set_option maxHeartbeats 2000000 in
set_option maxRecDepth 100000 in
/-- Delta of Diff. -/
theorem rDelta8_diff {w : World} (s : Bool) (q : Option Addr) (m mc : Nat) {N : Nat} {p : Option Addr} {n nc : Nat} {es : List Ent} {zs : List Int} (h : PR w N p n nc es zs) (hn : n ≤ 100000) (hN : N ≤ 400) :
    Calls Tryz.prog 20 #[.agg #[.int .i64 2, .bool s, .slice q m mc], .slice p n nc] w (PrP (tr (derz zs)) (4 + N + 1) w) := by
  have hW : Below w.heap.size w (w.alloc (.cells #[.int .i64 2, .bool s, .slice q m mc] 40)) := (Below.refl _ _).alloc (Nat.le_refl _) _
  have hd := rpDeriv_any (h.below hW) hn hN
  go_enter Tryz.func20, Tryz.ntmps20
  go_wp2_with fail
  generalize w.alloc (.cells #[.int .i64 2, .bool s, .slice q m mc] 40) = W at *
  go_fit hd
  rintro r w1 ⟨p1, n1, es1, rfl, h1, h2, h3, hb⟩
  have HR' : Hid (PrP (tr (derz zs)) (4 + N + 1) w (.returned (.slice p1 n1 n1)) w1) := ⟨p1, n1, es1, rfl, h1, fun a ha => Nat.le_trans hW.size (h2 a ha), h3, hW.trans (hb.mono hW.size)⟩
  clear hd h1 h2 h3 hb
  go_wp2
  go_ret
  exact HR'.out
set_option maxHeartbeats 2000000 in
set_option maxRecDepth 100000 in
/-- Sigma of Diff. -/
theorem rSigma8_diff (w : World) (s : Bool) (q : Option Addr) (m mc : Nat) (p : Option Addr) (n nc : Nat) :
    Calls Tryz.prog 17 #[.agg #[.int .i64 2, .bool s, .slice q m mc], .slice p n nc] w fun r w' => r = .returned (.slice p n nc) ∧ Below w.heap.size w w' := by
  go_enter Tryz.func17, Tryz.ntmps17
  go_wp2
  go_ret
  exact ⟨rfl, (Below.refl _ _).alloc (Nat.le_refl _) _⟩
set_option maxHeartbeats 2000000 in
set_option maxRecDepth 100000 in
/-- Sigma of Shift. -/
theorem rSigma8_shift {w : World} (s : Bool) (q : Option Addr) (m mc : Nat) {N K : Nat} {p : Option Addr} {n nc : Nat} {es : List Ent} {zs : List Int} (h : PR w N p n nc es zs) (hn : n ≤ 100) (hN : N ≤ 200) (hN4 : 4 ≤ N) (hX : ∀ i, ((gx zs i).natAbs : Int) < pw K) (hK : K + n * 2 + 1 ≤ 80) :
    Calls Tryz.prog 17 #[.agg #[.int .i64 1, .bool s, .slice q m mc], .slice p n nc] w (PrP (coz 1 zs) 180 w) := by
  have hW : Below w.heap.size w (w.alloc (.cells #[.int .i64 1, .bool s, .slice q m mc] 40)) := (Below.refl _ _).alloc (Nat.le_refl _) _
  have h1 := h.below hW
  have HX := (show Hid _ from hX)
  clear h hX
  go_enter Tryz.func17, Tryz.ntmps17
  go_wp2_with fail
  generalize w.alloc (.cells #[.int .i64 1, .bool s, .slice q m mc] 40) = W at *
  go_fit (rOf_n 1 W (by decide) (by decide))
  rintro r w1 ⟨u, rfl, hR, hF, hb1⟩
  have hd := rpShift_any (L := 1) (h1.below hb1) hR hn hN hN4 (by decide) HX.out (by decide) (by decide) hK
  have hB1 : Below w.heap.size w w1 := hW.trans (hb1.mono hW.size)
  clear hR hF
  go_wp2_with fail
  go_fit hd
  rintro r w2 ⟨p1, n1, es1, rfl, g1, g2, g3, hb⟩
  have HR' : Hid (PrP (coz 1 zs) 180 w (.returned (.slice p1 n1 n1)) w2) := ⟨p1, n1, es1, rfl, g1, fun a ha => Nat.le_trans hB1.size (g2 a ha), g3, hB1.trans (hb.mono hB1.size)⟩
  clear hd g1 g2 g3 hb hB1 hb1 h1
  go_wp2
  go_ret
  exact HR'.out
end Go.Proofs.YtifebbacnlhggaaGreatDoor
/-
  Sigma of QShift, the reference's.
-/
namespace Go.Proofs.YtifebbacnlhggaaGreatDoor
open Go.RowKit
set_option linter.unusedVariables false
set_option linter.unusedSimpArgs false
def Ax.re (N : Nat) (z : Int) : Ax := ⟨fun _ v w => ∃ f, v = .agg #[.bool (Ent.s f), .slice f.p f.n f.c] ∧ RE w N z f, fun ⟨f, a, h⟩ hb => ⟨f, a, h.below hb⟩, fun h _ => h, fun h _ => h⟩
def Ax.two (q : Int) : Ax := ⟨fun _ v w => ∃ b f f', v = .slice (some ⟨b, 0, none⟩) 2 2 ∧ PR w 200 (some ⟨b, 0, none⟩) 2 2 [f, f'] [0, q], fun ⟨b, f, f', a, h⟩ hb => ⟨b, f, f', a, h.below hb⟩, fun h _ => h, fun h _ => h⟩
def Ax.prp (zs : List Int) (N B : Nat) : Ax := ⟨fun _ v w => ∃ p n es, v = .slice p n n ∧ PR w N p n n es zs ∧ Go.Proofs.YtifebbacnlhggaaGreatDoor.From B p ∧ tlen zs = n, fun ⟨p, n, es, a, h, k⟩ hb => ⟨p, n, es, a, h.below hb, k⟩, fun h _ => h, fun h _ => h⟩
theorem tlen_two {q : Int} (h : q ≠ 0) : tlen [0, q] = 2 := tlen_eq _ 2 (fun j hj => gx_past _ 2 (by simp) j hj) (.inr (by
  have e : gx [0, q] 1 = q := by simp [gx]
  show gx [0, q] 1 ≠ 0
  rw [e]
  exact h))
theorem re_wide {w : World} {N M : Nat} {z : Int} {e : Ent} (h : RE w N z e) (hM : N ≤ M) : RE w M z e := by
  obtain ⟨⟨ds, a, b, c⟩, d⟩ := h
  exact ⟨⟨ds, a, b, Nat.le_trans c hM⟩, d⟩
theorem pr_two {v : World} {N M : Nat} {q : Int} {f u : Ent} {t : TypeId} (hf : RE (v.alloc (.cells #[.bool f.s, .slice f.p f.n f.c, .bool u.s, .slice u.p u.n u.c] t)) N 0 f) (hu : RE (v.alloc (.cells #[.bool f.s, .slice f.p f.n f.c, .bool u.s, .slice u.p u.n u.c] t)) M q u) (hN : N ≤ 200) (hM : M ≤ 200) :
    PR (v.alloc (.cells #[.bool f.s, .slice f.p f.n f.c, .bool u.s, .slice u.p u.n u.c] t)) 200 (some ⟨v.heap.size, 0, none⟩) 2 2 [f, u] [0, q] := by
  refine ⟨rfl, rfl, Nat.le_refl _, by decide, fun _ => ⟨v.heap.size, 0, rfl, fun j hj => ?_⟩, fun j hj => ?_⟩
  · match j, hj with
    | 0, _ => exact ⟨by simp [go_sem, ge], by simp [go_sem, ge]⟩
    | 1, _ => exact ⟨by simp [go_sem, ge], by simp [go_sem, ge]⟩
  · match j, hj with
    | 0, _ => exact re_wide hf hN
    | 1, _ => exact re_wide hu hM
set_option maxHeartbeats 2000000 in
set_option maxRecDepth 100000 in
theorem rSigma8_q {w : World} {u : Ent} {q : Int} {M N K L : Nat} (hq : RE w M q u) {p : Option Addr} {n nc : Nat} {es : List Ent} {zs : List Int} (h : PR w N p n nc es zs) (hn : n ≤ 100) (hN : N ≤ 200) (hN4 : 4 ≤ N) (hM : M ≤ 200) (hX : ∀ i, ((gx zs i).natAbs : Int) < pw K) (hY : (q.natAbs : Int) < pw L) (hL : 1 ≤ L) (hq0 : q ≠ 0) (hK : K + n * (L + 1) + L ≤ 80) :
    Calls Tryz.prog 17 #[.agg #[.int .i64 3, .bool u.s, .slice u.p u.n u.c], .slice p n nc] w (PrP (dlz q zs) 180 w) := by
  have hW : Below w.heap.size w (w.alloc (.cells #[.int .i64 3, .bool u.s, .slice u.p u.n u.c] 40)) := (Below.refl _ _).alloc (Nat.le_refl _) _
  have r1 : (w.alloc (.cells #[.int .i64 3, .bool u.s, .slice u.p u.n u.c] 40)).cell? ⟨w.heap.size, 1, none⟩ = some (.bool u.s) := by simp [go_sem]
  have r2 : (w.alloc (.cells #[.int .i64 3, .bool u.s, .slice u.p u.n u.c] 40)).cell? ⟨w.heap.size, 2, none⟩ = some (.slice u.p u.n u.c) := by simp [go_sem]
  have HX : Hid (PR w N p n nc es zs ∧ RE w M q u ∧ ∀ i, ((gx zs i).natAbs : Int) < pw K) := ⟨h, hq, hX⟩
  clear h hX hq
  go_enter Tryz.func17, Tryz.ntmps17
  go_wp2_with fail
  generalize w.alloc (.cells #[.int .i64 3, .bool u.s, .slice u.p u.n u.c] 40) = W at *
  refine region_openX 8 [(0, 14), (1, 15), (2, 16), (3, 17), (4, 18), (5, 19), (6, 20), (7, 4)] [] []
    [Ax.val (.slice p n nc), Ax.re 4 0, Ax.val (.pointer (some ⟨w.heap.size, 1, none⟩)), Ax.val (.agg #[.bool u.s, .slice u.p u.n u.c]), Ax.two q, Ax.two q, Ax.prp (dlz q zs) 180 w.heap.size, Ax.prp (dlz q zs) 180 w.heap.size]
    (by kernel_rfl) (by kernel_rfl) (by kernel_rfl) trivial (by kernel_rfl) (by decide) (by decide) (by rfl) ?_ ?_
  · refine ⟨fun _ => ?_, fun _ => ?_, fun _ => ?_, fun _ => ?_, fun _ => ?_, fun _ => ?_, fun _ => ?_, fun _ => ?_, trivial⟩
    · exact ox_pure rfl fun X ρ v R => ⟨_, by simp [execOp, go_sem], R.old 1 (by decide)⟩
    · exact ox_call 52 rfl fun X ρ v R => by
        refine ⟨_, by simp [execOp, go_sem, R.fn, R.con], (rOf_n 0 v (by decide) (by decide)).mono ?_⟩
        rintro r w' ⟨f, rfl, hf, -, hb⟩
        exact ⟨_, rfl, ⟨f, rfl, hf⟩, hb⟩
    · exact ox_pure rfl fun X ρ v R => by
        have e2 : ρ (.tmp 2) = .pointer (some ⟨w.heap.size, 0, none⟩) := R.old 2 (by decide)
        exact ⟨_, by simp [execOp, go_sem, e2], rfl⟩
    · exact ox_pure rfl fun X ρ v R => by
        have e16 : ρ (.tmp 16) = .pointer (some ⟨w.heap.size, 1, none⟩) := R.dep 2 16 (by decide) rfl rfl
        have x1 := cell_later R.b r1
        have x2 := cell_later R.b r2
        exact ⟨_, by simp [execOp, go_sem, e16, x1, x2], rfl⟩
    · exact ox_new rfl fun X ρ v R => by
        obtain ⟨f, e15, hf⟩ := R.dep 1 15 (by decide) rfl rfl
        have e17 : ρ (.tmp 17) = .agg #[.bool u.s, .slice u.p u.n u.c] := R.dep 3 17 (by decide) rfl rfl
        have hal : Below v.heap.size v (v.alloc (.cells #[.bool f.s, .slice f.p f.n f.c, .bool u.s, .slice u.p u.n u.c] 30)) := (Below.refl _ _).alloc (Nat.le_refl _) _
        exact ⟨_, _, by simp [execOp, go_sem, e15, e17], ⟨v.heap.size, f, u, rfl, pr_two (hf.below hal) ((HX.out.2.1.below (bnext' hW R.b)).below hal) (by decide) hM⟩, hal⟩
    · exact ox_call 54 rfl fun X ρ v R => by
        obtain ⟨b, f, f', e18, hp⟩ := R.dep 4 18 (by decide) rfl rfl
        refine ⟨_, by simp [execOp, go_sem, e18, R.fn], (rTrim_any 200 _ 2 2 _ _ v hp (by decide)).mono ?_⟩
        rintro r w' ⟨rfl, hb⟩
        rw [tlen_two hq0]
        exact ⟨_, rfl, ⟨b, f, f', rfl, hp.below hb⟩, hb⟩
    · exact ox_call 53 rfl fun X ρ v R => by
        have e14 : ρ (.tmp 14) = .slice p n nc := R.dep 0 14 (by decide) rfl rfl
        obtain ⟨b, f, f', e19, hp⟩ := R.dep 5 19 (by decide) rfl rfl
        refine ⟨_, by simp [execOp, go_sem, e14, e19, R.fn], (rpComposeD_any (HX.out.1.below (bnext' hW R.b)) hp hn hN hN4 HX.out.2.2 hY hL hq0 hK).mono ?_⟩
        rintro r w' ⟨p1, n1, es1, rfl, g1, g2, g3, hb⟩
        exact ⟨_, rfl, ⟨p1, n1, es1, rfl, g1, fun a ha => Nat.le_trans (Nat.le_trans hW.size R.b.size) (g2 a ha), g3⟩, hb⟩
    · exact ox_pure rfl fun X ρ v R => ⟨_, by simp [execOp, go_sem], R.dep 6 20 (by decide) rfl rfl⟩
  intro vals w2 hb2 hv
  have e_0 : vals 0 = _ := hv (0, 14) (by decide)
  obtain ⟨f1, e_1, -⟩ := hv (1, 15) (by decide)
  have e_2 : vals 2 = _ := hv (2, 16) (by decide)
  have e_3 : vals 3 = _ := hv (3, 17) (by decide)
  obtain ⟨b4, f4, f4', e_4, -⟩ := hv (4, 18) (by decide)
  obtain ⟨b5, f5, f5', e_5, -⟩ := hv (5, 19) (by decide)
  obtain ⟨p6, n6, es6, e_6, -⟩ := hv (6, 20) (by decide)
  obtain ⟨p7, n7, es7, e_7, g1, g2, g3⟩ := hv (7, 4) (by decide)
  refine ends_none rfl ?_
  simp only [List.foldl, e_0, e_1, e_2, e_3, e_4, e_5, e_6, e_7, List.setIfInBounds_toArray, List.set_cons_succ, List.set_cons_zero]
  clear hv e_0 e_1 e_2 e_3 e_4 e_5 e_6 e_7
  have HR' : Hid (PrP (dlz q zs) 180 w (.returned (.slice p7 n7 n7)) w2) := ⟨p7, n7, es7, rfl, g1, g2, g3, bnext' hW hb2⟩
  clear g1 g2 g3 r1 r2 HX
  go_wp2
  go_ret
  exact HR'.out
end Go.Proofs.YtifebbacnlhggaaGreatDoor
/-
  upoly.Sub, Lead.
-/
namespace Go.Proofs.YtifebbacnlhggaaGreatDoor
open Go.RowKit
set_option linter.unusedVariables false
set_option linter.unusedSimpArgs false

end Go.Proofs.YtifebbacnlhggaaGreatDoor
