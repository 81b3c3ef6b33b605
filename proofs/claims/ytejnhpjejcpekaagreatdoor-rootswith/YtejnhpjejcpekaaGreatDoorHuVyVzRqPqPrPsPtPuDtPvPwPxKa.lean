/-
  Plain facts on p(x + a): Horner's scheme, round by round, against composition.
-/
import Derived.Test.YtejnhpjejcpekaaGreatDoorPmDqGaGbKpGcGdGeQaQb
import Derived.Test.YtejnhpjejcpekaaGreatDoorDfVlVsVtVvVnVr
import Derived.Test.YtejnhpjejcpekaaGreatDoorVqDcUmUoDmDv
import Derived.Test.YtejnhpjejcpekaaGreatDoorVbDaCxRbCyViVuWxUpUq
import Derived.Test.YtejnhpjejcpekaaGreatDoorUgUjBsLeUkUiWiWjUlDdReRx
import Derived.Deep.DeepFit
import Derived.Test.YtejnhpjejcpekaaGreatDoorRfRhCqRrRw
import Derived.Test.YtejnhpjejcpekaaGreatDoorYpRn
import Derived.Test.YtejnhpjejcpekaaGreatDoorWhPnWkWlBxBbCvNj
import Derived.Test.YtejnhpjejcpekaaGreatDoorWbWcWdWe
import Derived.Test.YtejnhpjejcpekaaGreatDoorQhGfGgUnWfUuUxUtUvUw
import Derived.Deep.RegionHeld3
import Derived.Test.YtejnhpjejcpekaaGreatDoorUyInU0TaTbTc
import Derived.Deep.CutRange
import Derived.Laws.OwnMore
namespace Go.Proofs.YtejnhpjejcpekaaGreatDoor
open Go.RowKit
set_option linter.unusedVariables false
set_option linter.unusedSimpArgs false
set_option maxHeartbeats 8000000
def hor (a : Int) : List Int → List Int
  | [] => []
  | c :: cs => (c + a * gx (hor a cs) 0) :: hor a cs
theorem gx_cons_zero (c : Int) (cs : List Int) : gx (c :: cs) 0 = c := by simp [gx]
theorem gx_cons_succ (c : Int) (cs : List Int) (j : Nat) : gx (c :: cs) (j + 1) = gx cs j := by simp [gx]
theorem gx_hor (a : Int) : ∀ (zs : List Int) (j : Nat), gx (hor a zs) j = gx zs j + a * gx (hor a zs) (j + 1)
  | [], j => by simp [hor, gx]
  | c :: cs, 0 => by rw [hor, gx_cons_zero, gx_cons_zero, gx_cons_succ]
  | c :: cs, j + 1 => by rw [hor, gx_cons_succ, gx_cons_succ, gx_cons_succ]; exact gx_hor a cs j
def shr (a : Int) : Nat → List Int → List Int
  | 0, zs => zs
  | i + 1, zs => (shr a i zs).take i ++ hor a ((shr a i zs).drop i)
theorem gx_app_lo (xs ys : List Int) (j : Nat) (h : j < xs.length) : gx (xs ++ ys) j = gx xs j := by simp [gx, List.getElem?_append_left h]
theorem gx_app_hi (xs ys : List Int) (j : Nat) : gx (xs ++ ys) (xs.length + j) = gx ys j := by
  simp [gx, List.getElem?_append_right]
theorem ps_line (s : List Int) (a : Int) (t : Nat) : ps s [a, 1] (t + 1) t = a * gx s t + (if t = 0 then 0 else gx s (t - 1)) := by
  rw [ps, if_pos (Nat.le_refl _), Nat.sub_self]
  have g0 : gx [a, 1] 0 = a := by simp [gx]
  have g1 : gx [a, 1] 1 = 1 := by simp [gx]
  rw [g0]
  cases t with
  | zero => simp [ps, Int.mul_comm]
  | succ t =>
    rw [ps, ps_far s [a, 1] (t + 1) t (by simp), if_pos (by omega), show t + 1 - t = 1 by omega, g1, if_neg (by omega), Nat.add_sub_cancel, Int.mul_comm a]
    omega
theorem cells_at (w : World) (x y : Value) (t : Nat) : (w.alloc (.cells #[x, y] t)).cell? ⟨w.heap.size, 0, none⟩ = some x ∧ (w.alloc (.cells #[x, y] t)).cell? ⟨w.heap.size, 1, none⟩ = some y := ⟨by simp [go_sem], by simp [go_sem]⟩
theorem PR.wide {W : World} {N M : Nat} {p : Option Addr} {n nc : Nat} {es : List Ent} {zs : List Int} (h : PR W N p n nc es zs) (hM : N ≤ M) : PR W M p n nc es zs := ⟨h.el, h.zl, h.cap, h.bnd, h.pl, fun j hj => (h.ev j hj).wide hM⟩
theorem pr_lit2 {W : World} {N g : Nat} {y z : Int} {e f : Ent} (h0 : W.cell? ⟨g, 0, none⟩ = some (.bool e.s)) (h1 : W.cell? ⟨g, 1, none⟩ = some (.slice e.p e.n e.c)) (h2 : W.cell? ⟨g, 2, none⟩ = some (.bool f.s)) (h3 : W.cell? ⟨g, 3, none⟩ = some (.slice f.p f.n f.c)) (he : RE W N y e) (hf : RE W N z f) : PR W N (some ⟨g, 0, none⟩) 2 2 [e, f] [y, z] :=
  ⟨rfl, rfl, Nat.le_refl _, by decide, fun _ => ⟨g, 0, rfl, fun j hj => by
    match j, hj with
    | 0, _ => exact ⟨h0, h1⟩
    | 1, _ => exact ⟨h2, h3⟩⟩, fun j hj => by
    match j, hj with
    | 0, _ => exact he
    | 1, _ => exact hf⟩
theorem cells_at4 (w : World) (a b c d : Value) (t : Nat) : (w.alloc (.cells #[a, b, c, d] t)).cell? ⟨w.heap.size, 0, none⟩ = some a ∧ (w.alloc (.cells #[a, b, c, d] t)).cell? ⟨w.heap.size, 1, none⟩ = some b ∧ (w.alloc (.cells #[a, b, c, d] t)).cell? ⟨w.heap.size, 2, none⟩ = some c ∧ (w.alloc (.cells #[a, b, c, d] t)).cell? ⟨w.heap.size, 3, none⟩ = some d := ⟨by simp [go_sem], by simp [go_sem], by simp [go_sem], by simp [go_sem]⟩
theorem rNeg_v {w : World} {N : Nat} {x : Int} {s : Bool} {p : Option Addr} {n : Nat} (h : RV w N x s p n) :
    Calls Tryz.prog 47 #[.agg #[.bool s, .slice p n n]] w fun e w' => ∃ s', e = .returned (.agg #[.bool s', .slice p n n]) ∧ RV w' N (-x) s' p n ∧ Below w.heap.size w w' := by
  obtain ⟨ds, h1, rfl, h3⟩ := h
  refine (rNeg_rn h1).mono ?_
  rintro e w' ⟨s', g1, g2, g3, g4⟩
  exact ⟨s', g1, ⟨ds, g2, g3.out, h3⟩, g4⟩
def Sf (g7 g10 : Nat) (e : Ent) : Prop := 0 < e.n → Off g7 e.p ∧ Off g10 e.p
structure UN (w wr : World) (g3 g7 g8 g9 g10 W n i M : Nat) (u one base cr : Ent) (xs : List Int) (d : Nat → Int) (us : List Ent) (c : Int) : Prop where
  b3 : Bx wr g3 (.bool u.s) (.slice u.p u.n u.c)
  a3 : AI wr u.p u.n u.c xs
  r7 : Row2 wr g7 26 us
  l7 : us.length = n
  b8 : Bx wr g8 (.bool one.s) (.slice one.p one.n one.c)
  v8 : EV wr 2 1 one
  b9 : Bx wr g9 (.bool base.s) (.slice base.p base.n base.c)
  v9 : EV wr (W + 1) (pw W) base
  b10 : Bx wr g10 (.bool cr.s) (.slice cr.p cr.n cr.c)
  v10 : EV wr 2 c cr
  c01 : c = 0 ∨ c = 1
  s3 : Sf g7 g10 u
  s8 : Sf g7 g10 one
  s9 : Sf g7 g10 base
  s10 : Sf g7 g10 cr
  q : ∀ j, j < i → NV w.heap.size wr M (d j) (ge us j) ∧ Sf g7 g10 (ge us j)
  gs : w.heap.size ≤ g3 ∧ w.heap.size ≤ g7 ∧ g7 < wr.heap.size ∧ g10 < wr.heap.size ∧ w.heap.size ≤ g10 ∧ g3 ≠ g7 ∧ g3 ≠ g10 ∧ g7 ≠ g10 ∧ g8 ≠ g7 ∧ g8 ≠ g10 ∧ g9 ≠ g7 ∧ g9 ≠ g10
  bw : Below w.heap.size w wr
theorem Sf.off {g7 g10 : Nat} {e : Ent} (h : Sf g7 g10 e) : 0 < e.n → Off g10 e.p := fun h0 => (h h0).2
section
variable {w wr w' : World} {g3 g7 g8 g9 g10 W n i M : Nat} {u one base cr : Ent} {xs : List Int} {d : Nat → Int} {us : List Ent} {c : Int}
theorem UN.below (h : UN w wr g3 g7 g8 g9 g10 W n i M u one base cr xs d us c) (hb : Below wr.heap.size wr w') : UN w w' g3 g7 g8 g9 g10 W n i M u one base cr xs d us c :=
  ⟨h.b3.later hb, h.a3.below hb, h.r7.below hb h.r7.lt, h.l7, h.b8.later hb, h.v8.below hb, h.b9.later hb, h.v9.below hb, h.b10.later hb, h.v10.below hb, h.c01, h.s3, h.s8, h.s9, h.s10, fun j hj => ⟨(h.q j hj).1.below hb, (h.q j hj).2⟩, by have := h.gs; have := hb.size; omega, bnext' h.bw hb⟩
end
structure OA (g i : Nat) (u one base cr : Ent) (us : List Ent) : Prop where
  u : 0 < u.n → Off g u.p
  one : 0 < one.n → Off g one.p
  base : 0 < base.n → Off g base.p
  cr : 0 < cr.n → Off g cr.p
  q : ∀ j, j < i → 0 < (ge us j).n → Off g (ge us j).p
theorem ev_off {w : World} {K g : Nat} {z : Int} {e : Ent} (h : EV w K z e) (hg : w.heap.size ≤ g) : 0 < e.n → Off g e.p := fun h0 => by
  obtain ⟨xs, h1, -⟩ := h
  exact h1.rd.off hg (by rw [h1.len]; exact h0)
structure CE (w wx : World) (g14 : Nat) (g3 g7 g8 g9 g10 W n i : Nat) (u one base cr : Ent) (xs : List Int) (d : Nat → Int) (us : List Ent) (c v : Int) (ce : Ent) : Prop where
  un : UN w wx g3 g7 g8 g9 g10 W n i W u one base cr xs d us c
  b : Bx wx g14 (.bool ce.s) (.slice ce.p ce.n ce.c)
  v : NV w.heap.size wx W v ce
  s : Sf g7 g10 ce
  o : 0 < ce.n → Off g14 ce.p
  ne : g14 ≠ g3 ∧ g14 ≠ g7 ∧ g14 ≠ g8 ∧ g14 ≠ g9 ∧ g14 ≠ g10 ∧ w.heap.size ≤ g14
  oa : OA g14 i u one base cr us
theorem CE.below {w wx w' : World} {g14 g3 g7 g8 g9 g10 W n i : Nat} {u one base cr ce : Ent} {xs : List Int} {d : Nat → Int} {us : List Ent} {c v : Int} (h : CE w wx g14 g3 g7 g8 g9 g10 W n i u one base cr xs d us c v ce) (hb : Below wx.heap.size wx w') : CE w w' g14 g3 g7 g8 g9 g10 W n i u one base cr xs d us c v ce :=
  ⟨h.un.below hb, h.b.later hb, h.v.below hb, h.s, h.o, h.ne, h.oa⟩
set_option maxRecDepth 100000 in
theorem sum_ge (p q : Option Addr) (n nc m mc : Nat) (xs ys : List Int) (w : World) (hn : xs.length = n) (hm : ys.length = m) (hmn : m ≤ n) (hnb : n ≤ 1000000000)
    (hX : Rd w p .u32 xs) (hXu : U32 xs) (hY : Rd w q .u32 ys) (hYu : U32 ys) :
    Calls Tryz.prog 217 #[.slice p n nc, .slice q m mc] w fun e w' => ∃ zs, e = .returned (.slice (some ⟨w.heap.size, 0, none⟩) (n + 1) (n + 1)) ∧ zs.length = n + 1 ∧ U32 zs ∧ val zs = val xs + val ys ∧
      Row w' w.heap.size 88 .u32 zs ∧ Below w.heap.size w w' := by
  have hl' : ¬ (n : Int) < m := by omega
  have hmx : max (n : Int) (m : Int) = (n : Int) := by omega
  have hmk := mk_u32 (n + 1) (by omega)
  have ec : ((n + 1 : Nat) : Int) = (n : Int) + 1 := by omega
  rw [ec] at hmk
  clear ec
  have hcp := fun ty => copy_u32 ty w p n nc (n + 1) xs hX hn (by omega)
  have hlen : (xs ++ zeros 1).length = n + 1 := by simp [zeros]; omega
  go_enter Tryz.func217, Tryz.ntmps217
  go_wp2_with fail
  refine (addTo_any w.heap.size 0 (n + 1) (n + 1) (xs ++ zeros 1) q m mc ys _ (by omega) (by omega) (Nat.le_refl _) (Row.new w _ _ _) (u32_append hXu (u32_zeros _)) hm (by omega) (hY.alloc _) hYu (fun h => hY.off (Nat.le_refl _) (by omega))).mono ?_
  rintro e w' ⟨c, new, rfl, h1, h2, h3, h4, h5, h6, h7⟩
  go_wp2
  go_ret
  have hs := sum_top xs ys new n m (n + 1) c hn hm (by omega) (by omega) hXu hYu h2 h1 h3 h4 (by
    rw [h5, List.drop_zero, List.take_of_length_le (by omega), val_append, val_zero, Int.mul_zero, Int.add_zero])
  refine ⟨new, rfl, h1, h2, hs, ?_, ?_⟩
  · rw [List.take_zero, List.nil_append, Nat.zero_add, List.drop_of_length_le (by omega), List.append_nil] at h6
    exact h6
  · exact below_grown ((Below.refl _ _).alloc (Nat.le_refl _) _) h7 (by simp) (Nat.le_refl _)
theorem rd_drop {w : World} {b off : Nat} {k : IntKind} {xs : List Int} (h : Rd w (some ⟨b, off, none⟩) k xs) (j : Nat) : Rd w (some ⟨b, off + j, none⟩) k (xs.drop j) := fun hx => by
  have hl : j < xs.length := by simp at hx; omega
  obtain ⟨b', off', e, hc⟩ := h (by omega)
  cases e
  refine ⟨b, off + j, rfl, fun i hi => ?_⟩
  have := hc (j + i) (by simp at hi; omega)
  rw [gx_drop, Nat.add_assoc]; exact this
theorem gx_mid (Z R : List Int) (o j : Nat) (h : o + R.length ≤ Z.length) : gx (mid Z o R) j = if o ≤ j ∧ j < o + R.length then gx R (j - o) else gx Z j := by
  by_cases hc : o ≤ j ∧ j < o + R.length
  · rw [if_pos hc]
    have := mid_gx Z R o (j - o) h (by omega)
    rwa [show o + (j - o) = j by omega] at this
  · rw [if_neg hc]
    rcases Nat.lt_or_ge j o with h1 | h1
    · unfold mid
      rw [List.append_assoc, gx_append_left _ _ _ (by simp; omega), gx_take _ _ _ h1]
    · exact row_gx Z R o j h (by omega)
theorem mid_sub (Z RR new : List Int) (o h : Nat) (ho : o + RR.length ≤ Z.length) (hn : h + new.length = RR.length) : mid (mid Z o RR) (o + h) new = mid Z o (RR.take h ++ new) := by
  have l1 := mid_length Z RR o ho
  have l2 : (RR.take h ++ new).length = RR.length := by simp; omega
  refine gx_ext _ _ (by rw [mid_length _ _ _ (by rw [l1]; omega), l1, mid_length _ _ _ (by rw [l2]; omega)]) fun j hj => ?_
  rw [gx_mid _ _ _ _ (by rw [l1]; omega), gx_mid _ _ _ _ ho, gx_mid _ _ _ _ (by rw [l2]; omega), l2]
  by_cases h1 : o + h ≤ j ∧ j < o + h + new.length
  · rw [if_pos h1, if_pos (by omega), gx_append_right _ _ _ (by simp; omega)]
    congr 1; simp; omega
  · rw [if_neg h1]
    by_cases h2 : o ≤ j ∧ j < o + RR.length
    · rw [if_pos h2, if_pos (by omega), gx_append_left _ _ _ (by simp; omega), gx_take _ _ _ (by omega)]
    · rw [if_neg h2, if_neg (by omega)]
theorem kara {xl xh yl yh P md : Int} (h : md + xl * yl + xh * yh = (xl + xh) * (yl + yh)) : xl * yl + P * P * (xh * yh) + P * md = (xl + P * xh) * (yl + P * yh) := by
  have e : md = xl * yh + xh * yl := by grind
  rw [e]; grind
theorem mid_drop_part (Z RR : List Int) (o h m : Nat) (ho : o + RR.length ≤ Z.length) (hm : h + m = RR.length) : ((mid Z o RR).drop (o + h)).take m = RR.drop h := by
  have l1 := mid_length Z RR o ho
  refine gx_ext _ _ (by simp [l1]; omega) fun j hj => ?_
  have hj' : j < m := by simp at hj; omega
  rw [gx_take _ _ _ hj', gx_drop, gx_drop, gx_mid _ _ _ _ ho, if_pos (by omega)]
  congr 1; omega
theorem no_carry {a b c P : Int} (h : a + P * c = b) (ha : 0 ≤ a) (hb : b < P) (hc0 : 0 ≤ c) (hc1 : c ≤ 1) : c = 0 := by
  rcases (show c = 0 ∨ c = 1 by omega) with e | e
  · exact e
  · subst e; omega
theorem no_lack {a b d c P : Int} (h : a + b = d + P * c) (ha : a < P) (hd : b ≤ d) (hc0 : 0 ≤ c) (hc1 : c ≤ 1) : c = 0 := by
  rcases (show c = 0 ∨ c = 1 by omega) with e | e
  · exact e
  · subst e; omega
theorem rd_take_part {w : World} {g o : Nat} {e : TypeId} {Z R : List Int} {j m : Nat} (h : Row w g e .u32 (mid Z o R)) (ho : o + R.length ≤ Z.length) (hm : j + m ≤ R.length) : Rd w (some ⟨g, o + j, none⟩) .u32 ((R.drop j).take m) := fun hx => by
  refine ⟨g, o + j, rfl, fun i hi => ?_⟩
  have hi' : i < m := by simp at hi; omega
  have := h.mid_cell ho (j + i) (by omega)
  rw [gx_take _ _ _ hi', gx_drop, Nat.add_assoc]; exact this
theorem mid_midK (Z R1 R2 : List Int) (o : Nat) (h : o + (R1.length + R2.length) ≤ Z.length) : mid (mid Z o R1) (o + R1.length) R2 = mid Z o (R1 ++ R2) := by
  have l1 := mid_length Z R1 o (by omega)
  refine gx_ext _ _ (by rw [mid_length _ _ _ (by rw [l1]; omega), l1, mid_length _ _ _ (by simp; omega)]) fun j hj => ?_
  rw [gx_mid _ _ _ _ (by rw [l1]; omega), gx_mid _ _ _ _ (by omega), gx_mid _ _ _ _ (by simp; omega), List.length_append]
  by_cases h1 : o + R1.length ≤ j ∧ j < o + R1.length + R2.length
  · rw [if_pos h1, if_pos (by omega), gx_append_right _ _ _ (by omega)]
    congr 1; omega
  · rw [if_neg h1]
    by_cases h2 : o ≤ j ∧ j < o + R1.length
    · rw [if_pos h2, if_pos (by omega), gx_append_left _ _ _ (by omega)]
    · rw [if_neg h2, if_neg (by omega)]
theorem u32_mid {Z R : List Int} {o : Nat} (hZ : U32 Z) (hR : U32 R) : U32 (mid Z o R) := u32_append (u32_append (u32_take hZ _) hR) (u32_drop hZ _)
end Go.Proofs.YtejnhpjejcpekaaGreatDoor
