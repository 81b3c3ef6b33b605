/-
  ashlarref3.Shift.
-/
import Derived.Test.YtifebbacnlhggaaGreatDoorVyFp
import Derived.Test.YtifebbacnlhggaaGreatDoorBwGkVp
import Derived.Test.YtifebbacnlhggaaGreatDoorDcUmUoDmDvPmHuVsVt
import Derived.Deep.DeepFit
import Derived.Test.YtifebbacnlhggaaGreatDoorEq
import Derived.Test.YtifebbacnlhggaaGreatDoorUiWiWj
import Derived.Test.YtifebbacnlhggaaGreatDoorBnBoBrBpAhAdDtAgAiVdRtDhVeRsVfVcAjDrBmBqDuAkAl
import Derived.Test.YtifebbacnlhggaaGreatDoorWgUe
import Derived.Test.YtifebbacnlhggaaGreatDoorQcQdQgQhGfGgUnWfUuByDqUxUtUvUwUyUzUrUsHaHbHcWvUhHeVv
import Derived.Test.YtifebbacnlhggaaGreatDoorCdDeGaGbKpGcGdGeQaQb
import Derived.Test.YtifebbacnlhggaaGreatDoorUfUgHdNbFvOi
namespace Go.Proofs.YtifebbacnlhggaaGreatDoor
open Go.RowKit
set_option linter.unusedVariables false
set_option linter.unusedSimpArgs false

theorem pr_lit2 {W : World} {N g : Nat} {y z : Int} {e f : Ent} (h0 : W.cell? ⟨g, 0, none⟩ = some (.bool e.s)) (h1 : W.cell? ⟨g, 1, none⟩ = some (.slice e.p e.n e.c)) (h2 : W.cell? ⟨g, 2, none⟩ = some (.bool f.s)) (h3 : W.cell? ⟨g, 3, none⟩ = some (.slice f.p f.n f.c)) (he : RE W N y e) (hf : RE W N z f) : PR W N (some ⟨g, 0, none⟩) 2 2 [e, f] [y, z] :=
  ⟨rfl, rfl, Nat.le_refl _, by decide, fun _ => ⟨g, 0, rfl, fun j hj => by
    match j, hj with
    | 0, _ => exact ⟨h0, h1⟩
    | 1, _ => exact ⟨h2, h3⟩⟩, fun j hj => by
    match j, hj with
    | 0, _ => exact he
    | 1, _ => exact hf⟩
theorem cells_at4 (w : World) (a b c d : Value) (t : Nat) : (w.alloc (.cells #[a, b, c, d] t)).cell? ⟨w.heap.size, 0, none⟩ = some a ∧ (w.alloc (.cells #[a, b, c, d] t)).cell? ⟨w.heap.size, 1, none⟩ = some b ∧ (w.alloc (.cells #[a, b, c, d] t)).cell? ⟨w.heap.size, 2, none⟩ = some c ∧ (w.alloc (.cells #[a, b, c, d] t)).cell? ⟨w.heap.size, 3, none⟩ = some d := ⟨by simp [go_sem], by simp [go_sem], by simp [go_sem], by simp [go_sem]⟩
set_option maxHeartbeats 4000000 in
set_option maxRecDepth 100000 in
/-- ashlarref3.Shift. -/
theorem rpShift_any {w : World} {N M K L : Nat} {p : Option Addr} {n nc : Nat} {es : List Ent} {zs : List Int} {x : Int} {f : Ent} (h : PR w N p n nc es zs) (hf : RE w M x f) (hn : n ≤ 100) (hN : N ≤ 200) (hN4 : 4 ≤ N) (hM : M ≤ 200) (hX : ∀ i, ((gx zs i).natAbs : Int) < pw K) (hY : (x.natAbs : Int) < pw L) (hL : 1 ≤ L) (hK : K + n * (L + 1) + L ≤ 80) :
    Calls Tryz.prog 51 #[.slice p n nc, .agg #[.bool f.s, .slice f.p f.n f.c]] w (PrP (coz x zs) 180 w) := by
  have HX : Hid (PR w N p n nc es zs ∧ RE w M x f ∧ (∀ i, ((gx zs i).natAbs : Int) < pw K) ∧ (x.natAbs : Int) < pw L ∧ K + n * (L + 1) + L ≤ 80) := ⟨h, hf, hX, hY, hK⟩
  clear h hf hX hY hK
  go_enter Tryz.func51, Tryz.ntmps51
  go_wp2_with fail
  have hal := bel_al (o := .cells #[.bool f.s, .slice f.p f.n f.c] 30) (Below.refl w.heap.size w)
  have hX0 : Bx (w.alloc (.cells #[.bool f.s, .slice f.p f.n f.c] 30)) w.heap.size (.bool f.s) (.slice f.p f.n f.c) := Bx.new _ _ _ rfl
  generalize w.alloc (.cells #[.bool f.s, .slice f.p f.n f.c] 30) = W at *
  obtain ⟨k0, k1, -, -⟩ := id hX0
  have hP := HX.out.1.below hal
  have hF := HX.out.2.1.below hal
  go_region_held3 (fun w' => w'.cell? ⟨w.heap.size, 0, none⟩ = some (.bool f.s) ∧ w'.cell? ⟨w.heap.size, 1, none⟩ = some (.slice f.p f.n f.c)) (first | with_reducible exact ⟨k0, k1⟩ | with_reducible exact ⟨a0, a1⟩ | with_reducible exact keepc2 ⟨a0, a1⟩ (bel_al (Below.refl _ _)) | with_reducible exact ⟨b0, b1⟩ | (simp [go_sem, *]; done))
    (first
      | (go_at_call 52; go_fit (rOf_e 1 _ (by decide) (by decide)); rintro r v1 ⟨u, rfl, hu, hFu, hb1⟩; have hB1 := undrew hb1; have a0 := cell_later hB1 k0; have a1 := cell_later hB1 k1)
      | (go_at_call 53; go_fit (rpCompose_any (K := K) (L := L) ((hP.below hB1).below (bel_al (Below.refl _ _))) (pr_lit2 (e := f) (f := u) (cells_at4 v1 _ _ _ _ _).1 (cells_at4 v1 _ _ _ _ _).2.1 (cells_at4 v1 _ _ _ _ _).2.2.1 (cells_at4 v1 _ _ _ _ _).2.2.2 (((hF.below hB1).below (bel_al (Below.refl _ _))).wide hM) ((hu.below (bel_al (Below.refl _ _))).wide (by decide))) hn hN hN4 HX.out.2.2.1 HX.out.2.2.2.1 hL HX.out.2.2.2.2); rintro r v2 ⟨p2, n2, e2, rfl, hR2, hF2, ht2, hb2⟩; have hV2 := comp (X2 := v1) (w2 := v1) (Below.refl _ _) (by (repeat apply bel_al); exact Below.refl _ _) hb2; have b0 := cell_later hV2 a0; have b1 := cell_later hV2 a1))
  all_goals
    have hfin := bnext' hal (bnext' hB1 hV2)
    have hs := hal.size
    have hs1 := hB1.size
    clear k0 k1 a0 a1 b0 b1
    go_wp2
    go_ret
    exact ⟨p2, n2, e2, rfl, hR2, fun x hx => by have h9 := hF2 x hx; (try simp only [World.size_alloc] at h9); omega, ht2, hfin⟩
end Go.Proofs.YtifebbacnlhggaaGreatDoor
/-
  ashlarref8's Delta; Sigma of Shift and Diff.
-/
namespace Go.Proofs.YtifebbacnlhggaaGreatDoor
open Go.RowKit
set_option linter.unusedVariables false
set_option linter.unusedSimpArgs false

set_option maxHeartbeats 2000000 in
set_option maxRecDepth 100000 in
/-- Delta of Shift and QShift. -/
theorem rDelta8_none (w : World) (a : Int) (s : Bool) (q : Option Addr) (m mc : Nat) (ha : a ≠ 2) (p : Option Addr) (n nc : Nat) (N : Nat) :
    Calls Tryz.prog 20 #[.agg #[.int .i64 a, .bool s, .slice q m mc], .slice p n nc] w (PrP [] N w) := by
  have h1 : (a == 2) = false := by rw [beq_eq_false_iff_ne]; exact ha
  have h2 : ¬ a = 2 := ha
  go_enter Tryz.func20, Tryz.ntmps20
  go_wp2
  go_ret
  exact ⟨none, 0, [], rfl, pr_nil _ _, (fun a ha => by cases ha), rfl, (Below.refl _ _).alloc (Nat.le_refl _) _⟩
set_option maxHeartbeats 2000000 in
set_option maxRecDepth 100000 in
/-- Delta of Diff. -/
theorem rDelta8_diff {w : World} (s : Bool) (q : Option Addr) (m mc : Nat) {N : Nat} {p : Option Addr} {n nc : Nat} {es : List Ent} {zs : List Int} (h : PR w N p n nc es zs) (hn : n ≤ 100000) (hN : N ≤ 400) :
    Calls Tryz.prog 20 #[.agg #[.int .i64 2, .bool s, .slice q m mc], .slice p n nc] w (PrP (tr (derz zs)) (4 + N + 1) w) := by
  have hW : Below w.heap.size w (w.alloc (.cells #[.int .i64 2, .bool s, .slice q m mc] 40)) := (Below.refl _ _).alloc (Nat.le_refl _) _
  have hd := rpDeriv_any (h.below hW) hn hN
  go_enter Tryz.func20, Tryz.ntmps20
  go_wp2_with fail
  generalize w.alloc (.cells #[.int .i64 2, .bool s, .slice q m mc] 40) = W at *
  go_fit hd
  rintro r w1 ⟨p1, n1, es1, rfl, h1, h2, h3, hb⟩
  have HR' : Hid (PrP (tr (derz zs)) (4 + N + 1) w (.returned (.slice p1 n1 n1)) w1) := ⟨p1, n1, es1, rfl, h1, fun a ha => Nat.le_trans hW.size (h2 a ha), h3, hW.trans (hb.mono hW.size)⟩
  clear hd h1 h2 h3 hb
  go_wp2
  go_ret
  exact HR'.out
set_option maxHeartbeats 2000000 in
set_option maxRecDepth 100000 in
/-- Sigma of Diff. -/
theorem rSigma8_diff (w : World) (s : Bool) (q : Option Addr) (m mc : Nat) (p : Option Addr) (n nc : Nat) :
    Calls Tryz.prog 17 #[.agg #[.int .i64 2, .bool s, .slice q m mc], .slice p n nc] w fun r w' => r = .returned (.slice p n nc) ∧ Below w.heap.size w w' := by
  go_enter Tryz.func17, Tryz.ntmps17
  go_wp2
  go_ret
  exact ⟨rfl, (Below.refl _ _).alloc (Nat.le_refl _) _⟩
set_option maxHeartbeats 2000000 in
set_option maxRecDepth 100000 in
/-- Sigma of Shift. -/
theorem rSigma8_shift {w : World} (s : Bool) (q : Option Addr) (m mc : Nat) {N K : Nat} {p : Option Addr} {n nc : Nat} {es : List Ent} {zs : List Int} (h : PR w N p n nc es zs) (hn : n ≤ 100) (hN : N ≤ 200) (hN4 : 4 ≤ N) (hX : ∀ i, ((gx zs i).natAbs : Int) < pw K) (hK : K + n * 2 + 1 ≤ 80) :
    Calls Tryz.prog 17 #[.agg #[.int .i64 1, .bool s, .slice q m mc], .slice p n nc] w (PrP (coz 1 zs) 180 w) := by
  have hW : Below w.heap.size w (w.alloc (.cells #[.int .i64 1, .bool s, .slice q m mc] 40)) := (Below.refl _ _).alloc (Nat.le_refl _) _
  have h1 := h.below hW
  have HX := (show Hid _ from hX)
  clear h hX
  go_enter Tryz.func17, Tryz.ntmps17
  go_wp2_with fail
  generalize w.alloc (.cells #[.int .i64 1, .bool s, .slice q m mc] 40) = W at *
  go_fit (rOf_n 1 W (by decide) (by decide))
  rintro r w1 ⟨u, rfl, hR, hF, hb1⟩
  have hd := rpShift_any (L := 1) (h1.below hb1) hR hn hN hN4 (by decide) HX.out (by decide) (by decide) hK
  have hB1 : Below w.heap.size w w1 := hW.trans (hb1.mono hW.size)
  clear hR hF
  go_wp2_with fail
  go_fit hd
  rintro r w2 ⟨p1, n1, es1, rfl, g1, g2, g3, hb⟩
  have HR' : Hid (PrP (coz 1 zs) 180 w (.returned (.slice p1 n1 n1)) w2) := ⟨p1, n1, es1, rfl, g1, fun a ha => Nat.le_trans hB1.size (g2 a ha), g3, hB1.trans (hb.mono hB1.size)⟩
  clear hd g1 g2 g3 hb hB1 hb1 h1
  go_wp2
  go_ret
  exact HR'.out
end Go.Proofs.YtifebbacnlhggaaGreatDoor
/-
  Sigma of QShift, the reference's.
-/
namespace Go.Proofs.YtifebbacnlhggaaGreatDoor
open Go.RowKit
set_option linter.unusedVariables false
set_option linter.unusedSimpArgs false
def Ax.re (N : Nat) (z : Int) : Ax := ⟨fun _ v w => ∃ f, v = .agg #[.bool (Ent.s f), .slice f.p f.n f.c] ∧ RE w N z f, fun ⟨f, a, h⟩ hb => ⟨f, a, h.below hb⟩, fun h _ => h, fun h _ => h⟩
def Ax.two (q : Int) : Ax := ⟨fun _ v w => ∃ b f f', v = .slice (some ⟨b, 0, none⟩) 2 2 ∧ PR w 200 (some ⟨b, 0, none⟩) 2 2 [f, f'] [0, q], fun ⟨b, f, f', a, h⟩ hb => ⟨b, f, f', a, h.below hb⟩, fun h _ => h, fun h _ => h⟩
def Ax.prp (zs : List Int) (N B : Nat) : Ax := ⟨fun _ v w => ∃ p n es, v = .slice p n n ∧ PR w N p n n es zs ∧ Go.Proofs.YtifebbacnlhggaaGreatDoor.From B p ∧ tlen zs = n, fun ⟨p, n, es, a, h, k⟩ hb => ⟨p, n, es, a, h.below hb, k⟩, fun h _ => h, fun h _ => h⟩
theorem tlen_two {q : Int} (h : q ≠ 0) : tlen [0, q] = 2 := tlen_eq _ 2 (fun j hj => gx_past _ 2 (by simp) j hj) (.inr (by
  have e : gx [0, q] 1 = q := by simp [gx]
  show gx [0, q] 1 ≠ 0
  rw [e]
  exact h))
theorem re_wide {w : World} {N M : Nat} {z : Int} {e : Ent} (h : RE w N z e) (hM : N ≤ M) : RE w M z e := by
  obtain ⟨⟨ds, a, b, c⟩, d⟩ := h
  exact ⟨⟨ds, a, b, Nat.le_trans c hM⟩, d⟩
theorem pr_two {v : World} {N M : Nat} {q : Int} {f u : Ent} {t : TypeId} (hf : RE (v.alloc (.cells #[.bool f.s, .slice f.p f.n f.c, .bool u.s, .slice u.p u.n u.c] t)) N 0 f) (hu : RE (v.alloc (.cells #[.bool f.s, .slice f.p f.n f.c, .bool u.s, .slice u.p u.n u.c] t)) M q u) (hN : N ≤ 200) (hM : M ≤ 200) :
    PR (v.alloc (.cells #[.bool f.s, .slice f.p f.n f.c, .bool u.s, .slice u.p u.n u.c] t)) 200 (some ⟨v.heap.size, 0, none⟩) 2 2 [f, u] [0, q] := by
  refine ⟨rfl, rfl, Nat.le_refl _, by decide, fun _ => ⟨v.heap.size, 0, rfl, fun j hj => ?_⟩, fun j hj => ?_⟩
  · match j, hj with
    | 0, _ => exact ⟨by simp [go_sem, ge], by simp [go_sem, ge]⟩
    | 1, _ => exact ⟨by simp [go_sem, ge], by simp [go_sem, ge]⟩
  · match j, hj with
    | 0, _ => exact re_wide hf hN
    | 1, _ => exact re_wide hu hM
set_option maxHeartbeats 2000000 in
set_option maxRecDepth 100000 in
theorem rSigma8_q {w : World} {u : Ent} {q : Int} {M N K L : Nat} (hq : RE w M q u) {p : Option Addr} {n nc : Nat} {es : List Ent} {zs : List Int} (h : PR w N p n nc es zs) (hn : n ≤ 100) (hN : N ≤ 200) (hN4 : 4 ≤ N) (hM : M ≤ 200) (hX : ∀ i, ((gx zs i).natAbs : Int) < pw K) (hY : (q.natAbs : Int) < pw L) (hL : 1 ≤ L) (hq0 : q ≠ 0) (hK : K + n * (L + 1) + L ≤ 80) :
    Calls Tryz.prog 17 #[.agg #[.int .i64 3, .bool u.s, .slice u.p u.n u.c], .slice p n nc] w (PrP (dlz q zs) 180 w) := by
  have hW : Below w.heap.size w (w.alloc (.cells #[.int .i64 3, .bool u.s, .slice u.p u.n u.c] 40)) := (Below.refl _ _).alloc (Nat.le_refl _) _
  have r1 : (w.alloc (.cells #[.int .i64 3, .bool u.s, .slice u.p u.n u.c] 40)).cell? ⟨w.heap.size, 1, none⟩ = some (.bool u.s) := by simp [go_sem]
  have r2 : (w.alloc (.cells #[.int .i64 3, .bool u.s, .slice u.p u.n u.c] 40)).cell? ⟨w.heap.size, 2, none⟩ = some (.slice u.p u.n u.c) := by simp [go_sem]
  have HX : Hid (PR w N p n nc es zs ∧ RE w M q u ∧ ∀ i, ((gx zs i).natAbs : Int) < pw K) := ⟨h, hq, hX⟩
  clear h hX hq
  go_enter Tryz.func17, Tryz.ntmps17
  go_wp2_with fail
  generalize w.alloc (.cells #[.int .i64 3, .bool u.s, .slice u.p u.n u.c] 40) = W at *
  refine region_openX 8 [(0, 14), (1, 15), (2, 16), (3, 17), (4, 18), (5, 19), (6, 20), (7, 4)] [] []
    [Ax.val (.slice p n nc), Ax.re 4 0, Ax.val (.pointer (some ⟨w.heap.size, 1, none⟩)), Ax.val (.agg #[.bool u.s, .slice u.p u.n u.c]), Ax.two q, Ax.two q, Ax.prp (dlz q zs) 180 w.heap.size, Ax.prp (dlz q zs) 180 w.heap.size]
    (by kernel_rfl) (by kernel_rfl) (by kernel_rfl) trivial (by kernel_rfl) (by decide) (by decide) (by rfl) ?_ ?_
  · refine ⟨fun _ => ?_, fun _ => ?_, fun _ => ?_, fun _ => ?_, fun _ => ?_, fun _ => ?_, fun _ => ?_, fun _ => ?_, trivial⟩
    · exact ox_pure rfl fun X ρ v R => ⟨_, by simp [execOp, go_sem], R.old 1 (by decide)⟩
    · exact ox_call 52 rfl fun X ρ v R => by
        refine ⟨_, by simp [execOp, go_sem, R.fn, R.con], (rOf_n 0 v (by decide) (by decide)).mono ?_⟩
        rintro r w' ⟨f, rfl, hf, -, hb⟩
        exact ⟨_, rfl, ⟨f, rfl, hf⟩, hb⟩
    · exact ox_pure rfl fun X ρ v R => by
        have e2 : ρ (.tmp 2) = .pointer (some ⟨w.heap.size, 0, none⟩) := R.old 2 (by decide)
        exact ⟨_, by simp [execOp, go_sem, e2], rfl⟩
    · exact ox_pure rfl fun X ρ v R => by
        have e16 : ρ (.tmp 16) = .pointer (some ⟨w.heap.size, 1, none⟩) := R.dep 2 16 (by decide) rfl rfl
        have x1 := cell_later R.b r1
        have x2 := cell_later R.b r2
        exact ⟨_, by simp [execOp, go_sem, e16, x1, x2], rfl⟩
    · exact ox_new rfl fun X ρ v R => by
        obtain ⟨f, e15, hf⟩ := R.dep 1 15 (by decide) rfl rfl
        have e17 : ρ (.tmp 17) = .agg #[.bool u.s, .slice u.p u.n u.c] := R.dep 3 17 (by decide) rfl rfl
        have hal : Below v.heap.size v (v.alloc (.cells #[.bool f.s, .slice f.p f.n f.c, .bool u.s, .slice u.p u.n u.c] 30)) := (Below.refl _ _).alloc (Nat.le_refl _) _
        exact ⟨_, _, by simp [execOp, go_sem, e15, e17], ⟨v.heap.size, f, u, rfl, pr_two (hf.below hal) ((HX.out.2.1.below (bnext' hW R.b)).below hal) (by decide) hM⟩, hal⟩
    · exact ox_call 54 rfl fun X ρ v R => by
        obtain ⟨b, f, f', e18, hp⟩ := R.dep 4 18 (by decide) rfl rfl
        refine ⟨_, by simp [execOp, go_sem, e18, R.fn], (rTrim_any 200 _ 2 2 _ _ v hp (by decide)).mono ?_⟩
        rintro r w' ⟨rfl, hb⟩
        rw [tlen_two hq0]
        exact ⟨_, rfl, ⟨b, f, f', rfl, hp.below hb⟩, hb⟩
    · exact ox_call 53 rfl fun X ρ v R => by
        have e14 : ρ (.tmp 14) = .slice p n nc := R.dep 0 14 (by decide) rfl rfl
        obtain ⟨b, f, f', e19, hp⟩ := R.dep 5 19 (by decide) rfl rfl
        refine ⟨_, by simp [execOp, go_sem, e14, e19, R.fn], (rpComposeD_any (HX.out.1.below (bnext' hW R.b)) hp hn hN hN4 HX.out.2.2 hY hL hq0 hK).mono ?_⟩
        rintro r w' ⟨p1, n1, es1, rfl, g1, g2, g3, hb⟩
        exact ⟨_, rfl, ⟨p1, n1, es1, rfl, g1, fun a ha => Nat.le_trans (Nat.le_trans hW.size R.b.size) (g2 a ha), g3⟩, hb⟩
    · exact ox_pure rfl fun X ρ v R => ⟨_, by simp [execOp, go_sem], R.dep 6 20 (by decide) rfl rfl⟩
  intro vals w2 hb2 hv
  have e_0 : vals 0 = _ := hv (0, 14) (by decide)
  obtain ⟨f1, e_1, -⟩ := hv (1, 15) (by decide)
  have e_2 : vals 2 = _ := hv (2, 16) (by decide)
  have e_3 : vals 3 = _ := hv (3, 17) (by decide)
  obtain ⟨b4, f4, f4', e_4, -⟩ := hv (4, 18) (by decide)
  obtain ⟨b5, f5, f5', e_5, -⟩ := hv (5, 19) (by decide)
  obtain ⟨p6, n6, es6, e_6, -⟩ := hv (6, 20) (by decide)
  obtain ⟨p7, n7, es7, e_7, g1, g2, g3⟩ := hv (7, 4) (by decide)
  refine ends_none rfl ?_
  simp only [List.foldl, e_0, e_1, e_2, e_3, e_4, e_5, e_6, e_7, List.setIfInBounds_toArray, List.set_cons_succ, List.set_cons_zero]
  clear hv e_0 e_1 e_2 e_3 e_4 e_5 e_6 e_7
  have HR' : Hid (PrP (dlz q zs) 180 w (.returned (.slice p7 n7 n7)) w2) := ⟨p7, n7, es7, rfl, g1, g2, g3, bnext' hW hb2⟩
  clear g1 g2 g3 r1 r2 HX
  go_wp2
  go_ret
  exact HR'.out
end Go.Proofs.YtifebbacnlhggaaGreatDoor
/-
  upoly.Sub, Lead.
-/
namespace Go.Proofs.YtifebbacnlhggaaGreatDoor
open Go.RowKit
set_option linter.unusedVariables false
set_option linter.unusedSimpArgs false

end Go.Proofs.YtifebbacnlhggaaGreatDoor
/-
  upoly.Deriv.
-/
namespace Go.Proofs.YtifebbacnlhggaaGreatDoor
open Go.RowKit
set_option linter.unusedVariables false
set_option linter.unusedSimpArgs false

set_option maxHeartbeats 2000000 in
theorem clipP_any (q : Option Addr) (m mc : Nat) (w : World) (h : m ≤ mc) (hc : mc ≤ maxLen) (hq : q = none → mc = 0) :
    Calls Tryz.prog 106 #[.slice q m mc] w fun e w' => e = .returned (.slice q m m) ∧ w = w' := by
  unfold maxLen at hc
  go_enter Tryz.func106, Tryz.ntmps106
  go_wp2
  go_ret
  exact ⟨rfl, rfl⟩
/-- A normal polynomial's derivative is normal. -/
theorem derz_top (zs : List Int) : tlen (derz (tr zs)) = tlen zs - 1 := by
  have hl := length_derz (tr zs)
  rw [length_tr] at hl
  refine tlen_eq _ _ (fun j hj => gx_past _ _ (by rw [hl]; exact Nat.le_refl _) j hj) ?_
  rcases Nat.eq_zero_or_pos (tlen zs - 1) with h | h
  · exact .inl h
  · refine .inr ?_
    rw [gx_derz _ _ (by rw [length_tr]; omega), gx_tr]
    have h1 := tlen_top zs (by omega)
    have e : tlen zs - 1 - 1 + 1 = tlen zs - 1 := by omega
    rw [e]
    exact Int.mul_ne_zero (by omega) h1
set_option maxHeartbeats 4000000 in
set_option maxRecDepth 100000 in
/-- upoly.Deriv. -/
theorem uDeriv_any {w : World} {K : Nat} {p : Option Addr} {n0 nc0 : Nat} {es00 : List Ent} {zs0 : List Int} (h0 : PA w K p n0 nc0 es00 zs0) (hn0 : n0 ≤ 100000) (hK : K ≤ 900) :
    Calls Tryz.prog 55 #[.slice p n0 nc0] w (PnP (derz (tr zs0)) (2 + K) w) := by
  obtain ⟨i0, hi, hzz⟩ := Option.map_eq_some_iff.1 info_api
  simp only [Prod.mk.injEq] at hzz
  obtain ⟨hz0, hz1, hz2⟩ := hzz
  have HI : Hid (Tryz.prog.info? 24 = some i0 ∧ i0.zero = some (.agg #[.bool false, .slice none 0 0]) ∧ i0.size = 2 ∧ i0.bytes = 32) := ⟨hi, hz0, hz1, hz2⟩
  have hn : tlen zs0 ≤ 100000 := by have := tlen_le zs0; have := h0.zl; omega
  go_enter Tryz.func55, Tryz.ntmps55
  go_wp2_with fail
  refine (utrim_any K p n0 nc0 es00 zs0 _ h0 (by omega)).mono ?_
  rintro e W ⟨rfl, hbW⟩
  have h := h0.trim.below hbW
  have HTP : Hid (tlen (derz (tr zs0)) = tlen zs0 - 1) := derz_top zs0
  have hel0 := h.el
  have hzl0 := h.zl
  have hvl := length_derz (tr zs0)
  have hvg := gx_derz (tr zs0)
  rw [length_tr] at hvl hvg
  generalize hvs : derz (tr zs0) = vs at *
  generalize es00.take (tlen zs0) = es0 at *
  generalize tr zs0 = zs at *
  generalize tlen zs0 = n at *
  have HX : Hid (PA W K p n n es0 zs ∧ Below w.heap.size w W ∧ tlen vs = n - 1) := ⟨h, hbW, HTP.out⟩
  have HVS : Hid ((∀ j, j < n - 1 → gx vs j = ((j : Int) + 1) * gx zs (j + 1)) ∧ vs.length = n - 1) := ⟨hvg, hvl⟩
  clear h0 h hi hz0 hz1 hz2 hvs hvg hvl hbW HTP
  go_wp2_with fail
  go_loopw [3, 4] (fun sv iv wr => ∃ (k : Nat) (es : List Ent), (k = 0 ∨ k + 1 ≤ n) ∧ iv = .int .i64 ((k + 1 : Nat) : Int) ∧ Hid (es.length = k ∧ LG W.heap.size 24 (fun wx z e => NV W.heap.size wx (2 + K) z e) wr sv es (vs.take k) ∧ Below W.heap.size W wr)) (fun _ iv _ => n - (intOf iv).toNat)
  case atStart => exact ⟨0, [], .inl rfl, by go_num, rfl, by rw [List.take_zero]; exact LG.nil _ _ _ _, Below.refl _ _⟩
  case round =>
    obtain ⟨k, es, hk, rfl, H⟩ := hrel
    generalize hK1 : k + 1 = k1 at *
    have HK : Hid (k + 1 = k1) := hK1
    have hk1 : 1 ≤ k1 := by omega
    have hk2 : k1 ≤ 100001 := by omega
    have hk3 : k ≤ 100000 := by omega
    clear hK1
    rcases Nat.lt_or_ge k1 n with hlt | hge
    · obtain ⟨hel, hLR, hB⟩ := H.out
      have hPR := HX.out.1.below hB
      obtain ⟨b, o, hp, hc⟩ := hPR.pl (by omega)
      subst hp
      obtain ⟨x0, x1⟩ := hc k1 (by omega)
      have hx := hPR.ev k1 hlt
      have i1 : (k1 : Int) < (n : Int) := by omega
      have v1 : IntKind.i64.wrap (k1 : Int) = (k1 : Int) := by rw [IntKind.wrap_i64]; omega
      have HC : Hid (W.cell? ⟨b, o + k1 * 2, none⟩ = some (.bool (ge es0 k1).s) ∧ W.cell? ⟨b, o + k1 * 2 + 1, none⟩ = some (.slice (ge es0 k1).p (ge es0 k1).n (ge es0 k1).c)) := by
        obtain ⟨b', o', hb', hc'⟩ := HX.out.1.pl (by omega)
        cases hb'
        exact hc' k1 (by omega)
      have hof := Of_e (k1 : Int) wr.drew (by omega) (by omega)
      obtain ⟨hi, hz0, hz1, hz2⟩ := HI.out
      clear hel hLR hB hc hPR
      go_upto_region 6 with fail
      go_region_held3 (fun w' => w'.cell? ⟨b, o + k1 * 2, none⟩ = some (.bool (ge es0 k1).s) ∧ w'.cell? ⟨b, o + k1 * 2 + 1, none⟩ = some (.slice (ge es0 k1).p (ge es0 k1).n (ge es0 k1).c) ∧ w'.cell? ⟨b, o + k1 * 2, none⟩ = some (.bool (ge es0 k1).s) ∧ w'.cell? ⟨b, o + k1 * 2 + 1, none⟩ = some (.slice (ge es0 k1).p (ge es0 k1).n (ge es0 k1).c)) (first | with_reducible exact ⟨x0, x1, x0, x1⟩ | with_reducible exact K3 | (refine keep4R ⟨x0, x1, x0, x1⟩ ?_; (repeat (first | (with_reducible exact hB2) | (with_reducible exact hB1) | (with_reducible exact Below.refl _ _) | (refine Bel_al ?_ (Nat.le_refl _)) | (refine Below.drew ?_))); done))
        (first
          | (go_at_call 48; go_fit hof; rintro r w1 ⟨u1, rfl, hO1, hb1⟩; have hB1 := undrew hb1; have hmu := Mul_ev (hO1.ev (by omega)) (hx.below hB1) (by omega); clear hb1)
          | (go_at_call 98; go_fit hmu; rintro r w2 ⟨u, rfl, hN0, hb2⟩; have hN1 := hN0.mono (Nat.le_trans H.out.2.2.size hB1.size); have hF1 : Go.Proofs.YtifebbacnlhggaaGreatDoor.From wr.heap.size u.p := fun a ha => Nat.le_trans hB1.size (hN0.frm a ha); clear hN0; have hB2 := bnext' hB1 hb2; have hown0 := own_below H.out.2.1.own hB2; rw [H.out.1] at hown0; have HO : Hid (w2.ownsRow W.heap.size 24 2 u3 k (fl es)) := hown0; clear hown0; have hsz : W.heap.size ≤ w2.heap.size := Nat.le_trans H.out.2.2.size hB2.size)
          | (refine step_append_lies _ rfl _ _ 26 rfl W.heap.size 24 i0 (.agg #[.bool false, .slice none 0 0]) 2 32 Tryz.underlying26 hi hz0 hz1 hz2 rfl (by decide) u3 k (fl es) rfl (HO.out.alloc _) ⟨w2.heap.size, 0, none⟩ 1 1 [.bool u.s, .slice u.p u.n u.c] rfl rfl ?_ (fun x hx => by simp at hx; rcases hx with rfl | rfl <;> rfl) (by decide) (by unfold maxLen; omega) (by omega) (by simp; omega) _ rfl ?_; exact World.news_of_block (heap_alloc_new w2 _); intro g cap w3 hown3 hgrow3 hat3 hlt3; have hB3 : Below W.heap.size W w3 := ((bnext' H.out.2.2 hB2).alloc (by omega) _).grown hgrow3 (by simp; omega) (fun q hq => by have := (HO.out.lt q hq).1; omega); have K3 := And.intro (cell_later hB3 HC.out.1) (And.intro (cell_later hB3 HC.out.2) (And.intro (cell_later hB3 HC.out.1) (cell_later hB3 HC.out.2))); have HA : Hid (LG W.heap.size 24 (fun wx z e => NV W.heap.size wx (2 + K) z e) w3 (.slice (some ⟨g, 0, none⟩) (k + 1) cap) (es ++ [u]) (vs.take k ++ [(k1 : Int) * gx zs k1])) := LG.app (lasts_NV _ _) H.out.1 H.out.2.1 hB2 hN1 (fun h0 a ha => .inr (hF1 a ha)) hown3 hgrow3 hat3; clear hown3 hgrow3 hat3))
      all_goals
        clear hmu hof hx hN1 x0 x1
        go_wp2
        refine ⟨⟨k + 1, es ++ [u], .inr (by have := HK.out; omega), by have := HK.out; subst this; go_num, by have := H.out.1; simp; omega, ?_, hB3⟩, by simp [intOf]; omega⟩
        have hkk := HK.out
        rw [take_snocg vs k (by have := HVS.out.2; omega), HVS.out.1 k (by omega)]
        have e1 : ((k : Int) + 1) * gx zs (k + 1) = (k1 : Int) * gx zs k1 := by subst hkk; push_cast; rfl
        rw [e1]
        exact HA.out
    · obtain ⟨hel, hLR, hB⟩ := H.out
      have hvl := HVS.out.2
      have hkk := HK.out
      rw [List.take_of_length_le (by omega)] at hLR
      obtain ⟨q, cap, hv, hcap1, hcap2, hpl, hF, hq0⟩ := hLR.pl
      subst hv
      have HL : Hid (vs.length = k ∧ (∀ j, j < k → NV W.heap.size wr (2 + K) (gx vs j) (ge es j)) ∧ PL wr q es ∧ es.length = k ∧ Below W.heap.size W wr) := ⟨by rw [hLR.zl]; exact hel, by rw [← hel]; exact hLR.ev, hpl, hel, hB⟩
      rw [hel] at hcap1 ⊢
      clear H hLR hB hk hkk hpl
      go_wp2_with fail
      refine (clipP_any q k cap _ hcap1 hcap2 hq0).mono ?_
      rintro e w1 ⟨rfl, rfl⟩
      go_wp2
      go_ret
      obtain ⟨l1, l2, l3, l4, l5⟩ := HL.out
      obtain ⟨-, hbW, htv⟩ := HX.out
      exact ⟨q, k, es, rfl, ⟨l4, l1, by omega, l3, fun a ha => Nat.le_trans hbW.size (hF a ha), fun j hj => (l2 j hj).mono hbW.size⟩, bnext' hbW l5⟩
end Go.Proofs.YtifebbacnlhggaaGreatDoor
/-
  A rule's Delta; ashlarref8's Delta.
-/
namespace Go.Proofs.YtifebbacnlhggaaGreatDoor
open Go.RowKit
set_option linter.unusedVariables false
set_option linter.unusedSimpArgs false

set_option maxHeartbeats 2000000 in
set_option maxRecDepth 100000 in
/-- Delta of Shift and QShift. -/
theorem oDelta_none {w : World} {g : Nat} {a : Int} {e : Ent} (h : RuleAt w g a e) (ha : a ≠ 2) (p : Option Addr) (n nc : Nat) (K : Nat) :
    Calls Tryz.prog 19 #[.pointer (some ⟨g, 0, none⟩), .slice p n nc] w (PnP [] K w) := by
  have hc := oAlg_any h
  have h1 : (a == 2) = false := by rw [beq_eq_false_iff_ne]; exact ha
  have h2 : ¬ a = 2 := ha
  clear h ha
  go_enter Tryz.func19, Tryz.ntmps19
  go_wp2_with fail
  go_fit hc
  rintro r w1 ⟨rfl, hb⟩
  clear hc
  go_wp2
  go_ret
  exact ⟨none, 0, [], rfl, pn_nil _ _ _, hb⟩
set_option maxHeartbeats 2000000 in
set_option maxRecDepth 100000 in
/-- Delta of Diff. -/
theorem oDelta_diff {w : World} {g : Nat} {e : Ent} (h : RuleAt w g 2 e) {K : Nat} {p : Option Addr} {n nc : Nat} {es : List Ent} {zs : List Int} (hP : PA w K p n nc es zs) (hn : n ≤ 1000) (hK : K ≤ 60) :
    Calls Tryz.prog 19 #[.pointer (some ⟨g, 0, none⟩), .slice p n nc] w (PnP (derz (tr zs)) (2 + K) w) := by
  have hc := oAlg_any h
  clear h
  go_enter Tryz.func19, Tryz.ntmps19
  go_wp2_with fail
  go_fit hc
  rintro r w1 ⟨rfl, hb⟩
  have hd := uDeriv_any (hP.below hb) (by omega) (by omega)
  clear hc
  go_wp2_with fail
  go_fit hd
  rintro r w2 ⟨p1, n1, es1, rfl, h1, hb2⟩
  have HR' : Hid (PnP (derz (tr zs)) (2 + K) w (.returned (.slice p1 n1 n1)) w2) := ⟨p1, n1, es1, rfl, h1.mono hb.size, bnext' hb hb2⟩
  clear hd h1 hb2
  go_wp2
  go_ret
  exact HR'.out
end Go.Proofs.YtifebbacnlhggaaGreatDoor
/-
  upoly.each and Norm, with where the list lies.
-/
namespace Go.Proofs.YtifebbacnlhggaaGreatDoor
open Go.RowKit
set_option linter.unusedVariables false
set_option linter.unusedSimpArgs false

set_option maxHeartbeats 2000000 in
set_option maxRecDepth 100000 in
/-- upoly.each. -/
theorem each_row (K : Nat) (p : Option Addr) (n nc : Nat) (es : List Ent) (zs : List Int) (w : World) (h : PA w K p n nc es zs) (hn : n ≤ 1000000) (J : Nat) (C : Array Value) (hE : ∀ args w', Sem.run Tryz.prog (callFunc J args) w' = .ok (.enter J args) w')
    (O : World → Int → Ent → Prop) (φ : Int → Int) (hOb : ∀ w w' z e, O w z e → Below w.heap.size w w' → O w' z e) (hOs : ∀ w z e g o u v, O w z e → (0 < e.n → Off g e.p) → O ((w.setCell ⟨g, o, none⟩ u).setCell ⟨g, o + 1, none⟩ v) z e)
    (hJ : ∀ w' z e, Below w.heap.size w w' → EV w' K z e → Calls Tryz.prog J (#[.agg #[.bool e.s, .slice e.p e.n e.c]] ++ C) w' fun r w'' => ∃ f : Ent, r = .returned (.agg #[.bool f.s, .slice f.p f.n f.c]) ∧ O w'' (φ z) f ∧ (0 < f.n → f.p = e.p ∧ f.n ≤ e.n ∨ Go.Proofs.YtifebbacnlhggaaGreatDoor.From w'.heap.size f.p) ∧ Below w'.heap.size w' w'') :
    Calls Tryz.prog 101 #[.slice p n nc, .func (.func J) #[] C] w fun r w' => ∃ q fs, r = .returned (.slice q n n) ∧ fs.length = n ∧ PL w' q fs ∧ Go.Proofs.YtifebbacnlhggaaGreatDoor.From w.heap.size q ∧ (∀ j, j < n → O w' (φ (gx zs j)) (ge fs j)) ∧ Below w.heap.size w w' ∧ q = some ⟨w.heap.size, 0, none⟩ ∧ Row2 w' w.heap.size 24 fs ∧ (∀ j, j < n → 0 < (ge fs j).n → Off w.heap.size (ge fs j).p) := by
  have hmk := mk_poly n (by omega)
  have hle := h.el
  have HOb := (show Hid _ from hOb)
  have HOs := (show Hid _ from hOs)
  have HJ := (show Hid _ from hJ)
  clear hOb hOs hJ
  go_enter Tryz.func101, Tryz.ntmps101
  go_wp2_with fail
  have hR0 := Row2.new w 24 (ezs n)
  have hW0 : Below w.heap.size w (w.alloc (.cells (ca2 (ezs n)) 24)) := (Below.refl _ _).alloc (Nat.le_refl _) _
  have hs0 : w.heap.size + 1 ≤ (w.alloc (.cells (ca2 (ezs n)) 24)).heap.size := by simp
  generalize w.alloc (.cells (ca2 (ezs n)) 24) = W0 at *
  clear hmk
  go_loopw [6, 7, 13] (fun iv cv kv wr => ∃ k : Nat, k ≤ n ∧ kv = .int .i64 k ∧ Hid (EaI O φ w.heap.size n k zs W0 wr)) (fun _ _ kv _ => n - (intOf kv).toNat)
  case atStart => exact ⟨0, Nat.zero_le _, by go_num, ezs n, hR0, length_ezs n, fun j hj => by omega, Below.refl _ _⟩
  case round =>
    obtain ⟨k, hk, rfl, H⟩ := hrel
    rcases Nat.lt_or_ge k n with hlt | hge
    · obtain ⟨es', hR, hel, hev, hB⟩ := H.out
      have hBw : Below w.heap.size w wr := hW0.trans hB
      have hPA := h.below hBw
      obtain ⟨b, o, hp, hc⟩ := hPA.pl (by omega)
      subst hp
      obtain ⟨c0, c1⟩ := hc k (by omega)
      have hv := hPA.ev k hlt
      have HH : Hid (EaI O φ w.heap.size n k zs W0 wr) := H.out
      clear H hR hel hev hB hc hPA
      go_wp2_with fail
      have hal := bel_al (o := .cells #[.bool (ge es k).s, .slice (ge es k).p (ge es k).n (ge es k).c] 24) (Below.refl wr.heap.size wr)
      refine (HJ.out _ (gx zs k) (ge es k) (bnext hBw (Nat.le_refl _) hal) (hv.below hal)).mono ?_
      rintro e w1 ⟨f, rfl, hO, hF, hb1⟩
      have hb2 := bnext' hal hb1
      obtain ⟨es', hR, hel, hev, hB⟩ := HH.out
      have hR1 := hR.below hb2 hR.lt
      obtain ⟨d0, d1⟩ := hR1.cell k (by omega)
      have f0 := hR1.frozen (k * 2)
      have f1 := hR1.frozen (k * 2 + 1)
      have hoff : Hid (0 < f.n → Off w.heap.size f.p) := fun h0 => by
        rcases hF h0 with ⟨e1, e2⟩ | e1
        · rw [e1]
          obtain ⟨xs, k1, -⟩ := h.ev k hlt
          exact k1.rd.off (Nat.le_refl _) (by rw [k1.len]; omega)
        · have hs1 := hB.size
          have hs2 := hal.size
          exact off_from e1 (by omega)
      have HI : Hid (O w1 (φ (gx zs k)) f ∧ Row2 w1 w.heap.size 24 es' ∧ es'.length = n ∧ (∀ j, j < k → O w1 (φ (gx zs j)) (ge es' j) ∧ (0 < (ge es' j).n → Off w.heap.size (ge es' j).p)) ∧ Below w.heap.size W0 w1) := ⟨hO, hR1, hel, fun j hj => ⟨HOb.out _ _ _ _ (hev j hj).1 hb2, (hev j hj).2⟩, hB.trans (hb2.mono (by have := hBw.size; omega))⟩
      clear hO hF hb1 hb2 hR hel hev hB hR1 hal hv c0 c1 HH
      go_wp2
      go_roundw
      case rel =>
        obtain ⟨hO, hR, hel, hev, hB⟩ := HI.out
        refine ⟨k + 1, by omega, by go_num, es'.set k f, hR.set k f (by omega), by simpa using hel, fun j hj => ?_, ?_⟩
        · rcases Nat.lt_or_ge j k with h' | h'
          · rw [ge_set_other _ _ _ _ (by omega)]
            exact ⟨HOs.out _ _ _ _ _ _ _ (hev j h').1 (hev j h').2, (hev j h').2⟩
          · obtain rfl : j = k := by omega
            rw [ge_set_same _ _ _ (by omega)]
            exact ⟨HOs.out _ _ _ _ _ _ _ hO hoff.out, hoff.out⟩
        · exact (hB.setCell (p := ⟨w.heap.size, k * 2, none⟩) (Nat.le_refl _) _).setCell (p := ⟨w.heap.size, k * 2 + 1, none⟩) (Nat.le_refl _) _
      case measure => simp [intOf]; omega
    · obtain rfl : k = n := by omega
      obtain ⟨es', hR, hel, hev, hB⟩ := H.out
      have HI : Hid (Row2 wr w.heap.size 24 es' ∧ es'.length = k ∧ (∀ j, j < k → O wr (φ (gx zs j)) (ge es' j) ∧ (0 < (ge es' j).n → Off w.heap.size (ge es' j).p)) ∧ Below w.heap.size w wr) := ⟨hR, hel, hev, hW0.trans hB⟩
      clear H hR hel hev hB hge hk
      go_wp2
      go_ret
      obtain ⟨hR, hel, hev, hB⟩ := HI.out
      exact ⟨_, es', rfl, hel, hR.pl, fun a ha => by cases ha; exact Nat.le_refl _, fun j hj => (hev j hj).1, hB, rfl, hR, fun j hj => (hev j hj).2⟩
set_option maxHeartbeats 2000000 in
set_option maxRecDepth 100000 in
/-- upoly.Norm, and where its list lies. -/
theorem uNorm_row (K : Nat) (p : Option Addr) (n nc : Nat) (es : List Ent) (zs : List Int) (w : World) (h : PA w K p n nc es zs) (hn : n ≤ 1000000) (hK : K ≤ 1000) :
    Calls Tryz.prog 49 #[.slice p n nc] w fun r w' => ∃ (g : Nat) (fs : List Ent), r = .returned (.slice (some ⟨g, 0, none⟩) (tlen zs) (tlen zs)) ∧ w.heap.size ≤ g ∧ Row2 w' g 24 fs ∧ fs.length = tlen zs ∧ (∀ j, j < tlen zs → NV w.heap.size w' K (gx (tr zs) j) (ge fs j) ∧ (0 < (ge fs j).n → Off g (ge fs j).p)) ∧ Below w.heap.size w w' := by
  have htl := tlen_le zs
  have hzl := h.zl
  go_enter Tryz.func49, Tryz.ntmps49
  go_wp2_with fail
  refine (utrim_any K p n nc es zs _ h hn).mono ?_
  rintro e w1 ⟨rfl, hb1⟩
  have h1 := (h.below hb1).trim
  have he := each_row K _ _ _ _ _ w1 h1 (by omega) 103 #[] callOwn (fun w z e => NV w1.heap.size w K z e) id (fun _ _ _ _ h hb => h.below hb) (fun _ _ _ _ _ _ _ h ho => h.set2o ho) (fun w' z e hb hv => (own_any hv hK).mono fun r w'' ⟨f, a, b, c⟩ => ⟨f, a, b.mono hb.size, fun _ => .inr (by obtain ⟨xs, k, -⟩ := b; exact k.fr), c⟩)
  go_wp2_with fail
  refine he.mono ?_
  rintro e w2 ⟨q, fs, rfl, k1, k2, k3, k4, hb2, rfl, k5, k6⟩
  clear he
  go_wp2
  go_ret
  have hs := hb1.size
  exact ⟨w1.heap.size, fs, rfl, hs, k5, k1, fun j hj => ⟨(k4 j hj).mono hs, k6 j hj⟩, bnext' hb1 hb2⟩
end Go.Proofs.YtifebbacnlhggaaGreatDoor
/-
  An entry does not lie in a block that is newer.
-/
namespace Go.Proofs.YtifebbacnlhggaaGreatDoor
open Go.RowKit
set_option linter.unusedVariables false
set_option linter.unusedSimpArgs false

theorem EV.offm {w : World} {K : Nat} {z : Int} {e : Ent} (h : EV w K z e) {g : Nat} (hg : w.heap.size ≤ g) : 0 < e.n → Off g e.p := fun h0 a ha k => by
  obtain ⟨xs, h1, h2, h3⟩ := h
  obtain ⟨b, o, hp, hlt⟩ := h1.rd.lt (by rw [h1.len]; exact h0)
  rw [hp] at ha
  cases ha
  dsimp only at k
  omega
end Go.Proofs.YtifebbacnlhggaaGreatDoor
