/-
  Plain facts on p(x + a): Horner's scheme, round by round, against composition.
-/
import Derived.Test.YtejnhpjejcpekaaGreatDoorDcUmUoDmDvPmDqGaGbKpGcGdGeQa
import Derived.Test.YtejnhpjejcpekaaGreatDoorDfVlVsVtVvVnVr
import Derived.Test.YtejnhpjejcpekaaGreatDoorRkVq
import Derived.Test.YtejnhpjejcpekaaGreatDoorVbDaCxRbCyViVuWxUpUq
import Derived.Test.YtejnhpjejcpekaaGreatDoorUfUgUjBsLeUkUiWiWj
import Derived.Deep.DeepFit
import Derived.Test.YtejnhpjejcpekaaGreatDoorRhCqRrRwVaVg
import Derived.Test.YtejnhpjejcpekaaGreatDoorYpRn
import Derived.Test.YtejnhpjejcpekaaGreatDoorWhPnWkWlBx
import Derived.Test.YtejnhpjejcpekaaGreatDoorWbWcWdWe
import Derived.Test.YtejnhpjejcpekaaGreatDoorQhGfGgUnWfUuUxUtUvUw
import Derived.Deep.RegionHeld3
import Derived.Test.YtejnhpjejcpekaaGreatDoorUyInU0TaTbTc
import Derived.Deep.CutRange
import Derived.Laws.OwnMore
import Derived.Test.YtejnhpjejcpekaaGreatDoorBbCvNjUbUcUdOwRaWmBe
namespace Go.Proofs.YtejnhpjejcpekaaGreatDoor
open Go.RowKit
set_option linter.unusedVariables false
set_option linter.unusedSimpArgs false
set_option maxHeartbeats 8000000
def hor (a : Int) : List Int → List Int
  | [] => []
  | c :: cs => (c + a * gx (hor a cs) 0) :: hor a cs
def shr (a : Int) : Nat → List Int → List Int
  | 0, zs => zs
  | i + 1, zs => (shr a i zs).take i ++ hor a ((shr a i zs).drop i)
theorem gx_app_lo (xs ys : List Int) (j : Nat) (h : j < xs.length) : gx (xs ++ ys) j = gx xs j := by simp [gx, List.getElem?_append_left h]
theorem gx_app_hi (xs ys : List Int) (j : Nat) : gx (xs ++ ys) (xs.length + j) = gx ys j := by
  simp [gx, List.getElem?_append_right]
theorem ps_line (s : List Int) (a : Int) (t : Nat) : ps s [a, 1] (t + 1) t = a * gx s t + (if t = 0 then 0 else gx s (t - 1)) := by
  rw [ps, if_pos (Nat.le_refl _), Nat.sub_self]
  have g0 : gx [a, 1] 0 = a := by simp [gx]
  have g1 : gx [a, 1] 1 = 1 := by simp [gx]
  rw [g0]
  cases t with
  | zero => simp [ps, Int.mul_comm]
  | succ t =>
    rw [ps, ps_far s [a, 1] (t + 1) t (by simp), if_pos (by omega), show t + 1 - t = 1 by omega, g1, if_neg (by omega), Nat.add_sub_cancel, Int.mul_comm a]
    omega
theorem cells_at (w : World) (x y : Value) (t : Nat) : (w.alloc (.cells #[x, y] t)).cell? ⟨w.heap.size, 0, none⟩ = some x ∧ (w.alloc (.cells #[x, y] t)).cell? ⟨w.heap.size, 1, none⟩ = some y := ⟨by simp [go_sem], by simp [go_sem]⟩
theorem PR.wide {W : World} {N M : Nat} {p : Option Addr} {n nc : Nat} {es : List Ent} {zs : List Int} (h : PR W N p n nc es zs) (hM : N ≤ M) : PR W M p n nc es zs := ⟨h.el, h.zl, h.cap, h.bnd, h.pl, fun j hj => (h.ev j hj).wide hM⟩
theorem pr_lit2 {W : World} {N g : Nat} {y z : Int} {e f : Ent} (h0 : W.cell? ⟨g, 0, none⟩ = some (.bool e.s)) (h1 : W.cell? ⟨g, 1, none⟩ = some (.slice e.p e.n e.c)) (h2 : W.cell? ⟨g, 2, none⟩ = some (.bool f.s)) (h3 : W.cell? ⟨g, 3, none⟩ = some (.slice f.p f.n f.c)) (he : RE W N y e) (hf : RE W N z f) : PR W N (some ⟨g, 0, none⟩) 2 2 [e, f] [y, z] :=
  ⟨rfl, rfl, Nat.le_refl _, by decide, fun _ => ⟨g, 0, rfl, fun j hj => by
    match j, hj with
    | 0, _ => exact ⟨h0, h1⟩
    | 1, _ => exact ⟨h2, h3⟩⟩, fun j hj => by
    match j, hj with
    | 0, _ => exact he
    | 1, _ => exact hf⟩
theorem cells_at4 (w : World) (a b c d : Value) (t : Nat) : (w.alloc (.cells #[a, b, c, d] t)).cell? ⟨w.heap.size, 0, none⟩ = some a ∧ (w.alloc (.cells #[a, b, c, d] t)).cell? ⟨w.heap.size, 1, none⟩ = some b ∧ (w.alloc (.cells #[a, b, c, d] t)).cell? ⟨w.heap.size, 2, none⟩ = some c ∧ (w.alloc (.cells #[a, b, c, d] t)).cell? ⟨w.heap.size, 3, none⟩ = some d := ⟨by simp [go_sem], by simp [go_sem], by simp [go_sem], by simp [go_sem]⟩
theorem rNeg_v {w : World} {N : Nat} {x : Int} {s : Bool} {p : Option Addr} {n : Nat} (h : RV w N x s p n) :
    Calls Tryz.prog 47 #[.agg #[.bool s, .slice p n n]] w fun e w' => ∃ s', e = .returned (.agg #[.bool s', .slice p n n]) ∧ RV w' N (-x) s' p n ∧ Below w.heap.size w w' := by
  obtain ⟨ds, h1, rfl, h3⟩ := h
  refine (rNeg_rn h1).mono ?_
  rintro e w' ⟨s', g1, g2, g3, g4⟩
  exact ⟨s', g1, ⟨ds, g2, g3.out, h3⟩, g4⟩
def Sf (g7 g10 : Nat) (e : Ent) : Prop := 0 < e.n → Off g7 e.p ∧ Off g10 e.p
structure UN (w wr : World) (g3 g7 g8 g9 g10 W n i M : Nat) (u one base cr : Ent) (xs : List Int) (d : Nat → Int) (us : List Ent) (c : Int) : Prop where
  b3 : Bx wr g3 (.bool u.s) (.slice u.p u.n u.c)
  a3 : AI wr u.p u.n u.c xs
  r7 : Row2 wr g7 26 us
  l7 : us.length = n
  b8 : Bx wr g8 (.bool one.s) (.slice one.p one.n one.c)
  v8 : EV wr 2 1 one
  b9 : Bx wr g9 (.bool base.s) (.slice base.p base.n base.c)
  v9 : EV wr (W + 1) (pw W) base
  b10 : Bx wr g10 (.bool cr.s) (.slice cr.p cr.n cr.c)
  v10 : EV wr 2 c cr
  c01 : c = 0 ∨ c = 1
  s3 : Sf g7 g10 u
  s8 : Sf g7 g10 one
  s9 : Sf g7 g10 base
  s10 : Sf g7 g10 cr
  q : ∀ j, j < i → NV w.heap.size wr M (d j) (ge us j) ∧ Sf g7 g10 (ge us j)
  gs : w.heap.size ≤ g3 ∧ w.heap.size ≤ g7 ∧ g7 < wr.heap.size ∧ g10 < wr.heap.size ∧ w.heap.size ≤ g10 ∧ g3 ≠ g7 ∧ g3 ≠ g10 ∧ g7 ≠ g10 ∧ g8 ≠ g7 ∧ g8 ≠ g10 ∧ g9 ≠ g7 ∧ g9 ≠ g10
  bw : Below w.heap.size w wr
theorem Sf.off {g7 g10 : Nat} {e : Ent} (h : Sf g7 g10 e) : 0 < e.n → Off g10 e.p := fun h0 => (h h0).2
section
variable {w wr w' : World} {g3 g7 g8 g9 g10 W n i M : Nat} {u one base cr : Ent} {xs : List Int} {d : Nat → Int} {us : List Ent} {c : Int}
theorem UN.below (h : UN w wr g3 g7 g8 g9 g10 W n i M u one base cr xs d us c) (hb : Below wr.heap.size wr w') : UN w w' g3 g7 g8 g9 g10 W n i M u one base cr xs d us c :=
  ⟨h.b3.later hb, h.a3.below hb, h.r7.below hb h.r7.lt, h.l7, h.b8.later hb, h.v8.below hb, h.b9.later hb, h.v9.below hb, h.b10.later hb, h.v10.below hb, h.c01, h.s3, h.s8, h.s9, h.s10, fun j hj => ⟨(h.q j hj).1.below hb, (h.q j hj).2⟩, by have := h.gs; have := hb.size; omega, bnext' h.bw hb⟩
end
structure OA (g i : Nat) (u one base cr : Ent) (us : List Ent) : Prop where
  u : 0 < u.n → Off g u.p
  one : 0 < one.n → Off g one.p
  base : 0 < base.n → Off g base.p
  cr : 0 < cr.n → Off g cr.p
  q : ∀ j, j < i → 0 < (ge us j).n → Off g (ge us j).p
structure CE (w wx : World) (g14 : Nat) (g3 g7 g8 g9 g10 W n i : Nat) (u one base cr : Ent) (xs : List Int) (d : Nat → Int) (us : List Ent) (c v : Int) (ce : Ent) : Prop where
  un : UN w wx g3 g7 g8 g9 g10 W n i W u one base cr xs d us c
  b : Bx wx g14 (.bool ce.s) (.slice ce.p ce.n ce.c)
  v : NV w.heap.size wx W v ce
  s : Sf g7 g10 ce
  o : 0 < ce.n → Off g14 ce.p
  ne : g14 ≠ g3 ∧ g14 ≠ g7 ∧ g14 ≠ g8 ∧ g14 ≠ g9 ∧ g14 ≠ g10 ∧ w.heap.size ≤ g14
  oa : OA g14 i u one base cr us
theorem CE.below {w wx w' : World} {g14 g3 g7 g8 g9 g10 W n i : Nat} {u one base cr ce : Ent} {xs : List Int} {d : Nat → Int} {us : List Ent} {c v : Int} (h : CE w wx g14 g3 g7 g8 g9 g10 W n i u one base cr xs d us c v ce) (hb : Below wx.heap.size wx w') : CE w w' g14 g3 g7 g8 g9 g10 W n i u one base cr xs d us c v ce :=
  ⟨h.un.below hb, h.b.later hb, h.v.below hb, h.s, h.o, h.ne, h.oa⟩
end Go.Proofs.YtejnhpjejcpekaaGreatDoor
