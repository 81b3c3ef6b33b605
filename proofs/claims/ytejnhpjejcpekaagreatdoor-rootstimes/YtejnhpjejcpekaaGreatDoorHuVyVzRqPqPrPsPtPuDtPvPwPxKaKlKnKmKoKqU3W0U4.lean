/-
  Plain facts on p(x + a): Horner's scheme, round by round, against composition.
-/
import Derived.Test.YtejnhpjejcpekaaGreatDoorDcUmUoDmDvPmDqGaGbKpGcGdGeQa
import Derived.Test.YtejnhpjejcpekaaGreatDoorDfVlVsVtVvVnVr
import Derived.Test.YtejnhpjejcpekaaGreatDoorRkVq
import Derived.Test.YtejnhpjejcpekaaGreatDoorVbDaCxRbCyViVuWxUpUq
import Derived.Test.YtejnhpjejcpekaaGreatDoorUjBsLeUkUiWiWjUlDdReRxRfRhCqRrRw
import Derived.Deep.DeepFit
import Derived.Test.YtejnhpjejcpekaaGreatDoorYpRn
import Derived.Test.YtejnhpjejcpekaaGreatDoorWhPnWkWl
import Derived.Test.YtejnhpjejcpekaaGreatDoorWbWcWdWe
import Derived.Test.YtejnhpjejcpekaaGreatDoorGfGgUnWfUuUxUtUvUwUyInU0TaTbTc
import Derived.Deep.RegionHeld3
import Derived.Deep.CutRange
import Derived.Laws.OwnMore
import Derived.Test.YtejnhpjejcpekaaGreatDoorUeUfUg
import Derived.Test.YtejnhpjejcpekaaGreatDoorBxBbCvNjUbUcUdOw
namespace Go.Proofs.YtejnhpjejcpekaaGreatDoor
open Go.RowKit
set_option linter.unusedVariables false
set_option linter.unusedSimpArgs false
set_option maxHeartbeats 8000000
def hor (a : Int) : List Int → List Int
  | [] => []
  | c :: cs => (c + a * gx (hor a cs) 0) :: hor a cs
def shr (a : Int) : Nat → List Int → List Int
  | 0, zs => zs
  | i + 1, zs => (shr a i zs).take i ++ hor a ((shr a i zs).drop i)
theorem gx_app_lo (xs ys : List Int) (j : Nat) (h : j < xs.length) : gx (xs ++ ys) j = gx xs j := by simp [gx, List.getElem?_append_left h]
theorem gx_app_hi (xs ys : List Int) (j : Nat) : gx (xs ++ ys) (xs.length + j) = gx ys j := by
  simp [gx, List.getElem?_append_right]
theorem ps_line (s : List Int) (a : Int) (t : Nat) : ps s [a, 1] (t + 1) t = a * gx s t + (if t = 0 then 0 else gx s (t - 1)) := by
  rw [ps, if_pos (Nat.le_refl _), Nat.sub_self]
  have g0 : gx [a, 1] 0 = a := by simp [gx]
  have g1 : gx [a, 1] 1 = 1 := by simp [gx]
  rw [g0]
  cases t with
  | zero => simp [ps, Int.mul_comm]
  | succ t =>
    rw [ps, ps_far s [a, 1] (t + 1) t (by simp), if_pos (by omega), show t + 1 - t = 1 by omega, g1, if_neg (by omega), Nat.add_sub_cancel, Int.mul_comm a]
    omega
theorem cells_at (w : World) (x y : Value) (t : Nat) : (w.alloc (.cells #[x, y] t)).cell? ⟨w.heap.size, 0, none⟩ = some x ∧ (w.alloc (.cells #[x, y] t)).cell? ⟨w.heap.size, 1, none⟩ = some y := ⟨by simp [go_sem], by simp [go_sem]⟩
theorem PR.wide {W : World} {N M : Nat} {p : Option Addr} {n nc : Nat} {es : List Ent} {zs : List Int} (h : PR W N p n nc es zs) (hM : N ≤ M) : PR W M p n nc es zs := ⟨h.el, h.zl, h.cap, h.bnd, h.pl, fun j hj => (h.ev j hj).wide hM⟩
theorem pr_lit2 {W : World} {N g : Nat} {y z : Int} {e f : Ent} (h0 : W.cell? ⟨g, 0, none⟩ = some (.bool e.s)) (h1 : W.cell? ⟨g, 1, none⟩ = some (.slice e.p e.n e.c)) (h2 : W.cell? ⟨g, 2, none⟩ = some (.bool f.s)) (h3 : W.cell? ⟨g, 3, none⟩ = some (.slice f.p f.n f.c)) (he : RE W N y e) (hf : RE W N z f) : PR W N (some ⟨g, 0, none⟩) 2 2 [e, f] [y, z] :=
  ⟨rfl, rfl, Nat.le_refl _, by decide, fun _ => ⟨g, 0, rfl, fun j hj => by
    match j, hj with
    | 0, _ => exact ⟨h0, h1⟩
    | 1, _ => exact ⟨h2, h3⟩⟩, fun j hj => by
    match j, hj with
    | 0, _ => exact he
    | 1, _ => exact hf⟩
theorem cells_at4 (w : World) (a b c d : Value) (t : Nat) : (w.alloc (.cells #[a, b, c, d] t)).cell? ⟨w.heap.size, 0, none⟩ = some a ∧ (w.alloc (.cells #[a, b, c, d] t)).cell? ⟨w.heap.size, 1, none⟩ = some b ∧ (w.alloc (.cells #[a, b, c, d] t)).cell? ⟨w.heap.size, 2, none⟩ = some c ∧ (w.alloc (.cells #[a, b, c, d] t)).cell? ⟨w.heap.size, 3, none⟩ = some d := ⟨by simp [go_sem], by simp [go_sem], by simp [go_sem], by simp [go_sem]⟩
theorem rNeg_v {w : World} {N : Nat} {x : Int} {s : Bool} {p : Option Addr} {n : Nat} (h : RV w N x s p n) :
    Calls Tryz.prog 47 #[.agg #[.bool s, .slice p n n]] w fun e w' => ∃ s', e = .returned (.agg #[.bool s', .slice p n n]) ∧ RV w' N (-x) s' p n ∧ Below w.heap.size w w' := by
  obtain ⟨ds, h1, rfl, h3⟩ := h
  refine (rNeg_rn h1).mono ?_
  rintro e w' ⟨s', g1, g2, g3, g4⟩
  exact ⟨s', g1, ⟨ds, g2, g3.out, h3⟩, g4⟩
section
variable {w wr w' : World} {g3 g7 g8 g9 g10 W n i M : Nat} {u one base cr : Ent} {xs : List Int} {d : Nat → Int} {us : List Ent} {c : Int}
end
structure PC (B : Nat) (w : World) (K : Nat) (p : Option Addr) (n nc : Nat) (es : List Ent) (zs : List Int) : Prop where
  pn : PN B w K p n es zs
  cap : n ≤ nc
  bnd : nc ≤ maxLen
  nil : p = none → nc = 0
theorem PC.pa {B : Nat} {w : World} {K : Nat} {p : Option Addr} {n nc : Nat} {es : List Ent} {zs : List Int} (h : PC B w K p n nc es zs) (hK : K ≤ 1000) : PA w K p n nc es zs :=
  ⟨h.pn.el, h.pn.zl, h.cap, h.bnd, h.nil, h.pn.pl, fun j hj => (h.pn.ev j hj).ev hK⟩
theorem PC.below {B : Nat} {w w' : World} {K : Nat} {p : Option Addr} {n nc : Nat} {es : List Ent} {zs : List Int} (h : PC B w K p n nc es zs) (hb : Below w.heap.size w w') : PC B w' K p n nc es zs := ⟨h.pn.below hb, h.cap, h.bnd, h.nil⟩
def lin (x : Int) : List Int := [-x, 1]
theorem gx_mlin (x : Int) (zs : List Int) (t : Nat) : gx (mulp zs (lin x)) t = (if t = 0 then 0 else gx zs (t - 1)) - x * gx zs t := by
  rw [gx_mulp, lin, ps_line]
  split <;> grind
theorem mlin_nrm {zs : List Int} (x : Int) (h : tlen zs = zs.length) : tlen (mulp zs (lin x)) = (mulp zs (lin x)).length := by
  rcases Nat.eq_zero_or_pos zs.length with h0 | h0
  · rw [List.length_eq_zero_iff.1 h0]
    simp [mulp, tlen]
  · have hl : (mulp zs (lin x)).length = zs.length + 1 := by
      rw [mulp, if_neg (by rw [lin]; simp; intro h1; rw [h1] at h0; exact absurd h0 (by simp)), length_mulz]
      simp [lin]
    rw [hl]
    refine tlen_eq _ _ (fun j hj => gx_past _ _ (by rw [hl]; exact Nat.le_refl _) j hj) (.inr ?_)
    have h1 := tlen_top zs (by omega)
    rw [h] at h1
    rw [Nat.add_sub_cancel, gx_mlin, if_neg (by omega), gx_past zs _ (Nat.le_refl _) _ (Nat.le_refl _), Int.mul_zero, Int.sub_zero]
    exact h1
theorem mlin_len {zs : List Int} (x : Int) (h : 0 < zs.length) : (mulp zs (lin x)).length = zs.length + 1 := by
  rw [mulp, if_neg (by rw [lin]; simp; intro h1; rw [h1] at h; exact absurd h (by simp)), length_mulz]
  simp [lin]
theorem mlin_nil (x : Int) : mulp [] (lin x) = [] := by simp [mulp]
theorem mlin_lt {x : Int} {zs : List Int} {K L : Nat} (hz : ∀ t, ((gx zs t).natAbs : Int) < pw K) (hx : (x.natAbs : Int) < pw L) (t : Nat) : ((gx (mulp zs (lin x)) t).natAbs : Int) < pw (K + L + 1) := by
  rw [gx_mlin, pw_succ]
  have h1 : ((x * gx zs t).natAbs : Int) ≤ pw (K + L) := by
    rw [Int.natAbs_mul, Nat.add_comm K L, pw_add]
    push_cast
    exact Int.mul_le_mul (Int.le_of_lt hx) (Int.le_of_lt (hz t)) (by omega) (Int.le_of_lt (pw_pos L))
  have h2 : (((if t = 0 then 0 else gx zs (t - 1)) : Int).natAbs : Int) < pw (K + L) := by
    split
    · exact pw_pos _
    · exact Int.lt_of_lt_of_le (hz (t - 1)) (pw_mono (by omega))
  have h3 := pw_pos (K + L)
  omega
theorem nv_up {w : World} {B K L : Nat} {z : Int} {e : Ent} (h : NV B w K z e) (hk : K ≤ L) : NV B w L z e := by
  obtain ⟨xs, a, b, c⟩ := h
  exact ⟨xs, a, b, by omega⟩
theorem nv_off {w : World} {B K g : Nat} {z : Int} {e : Ent} (h : NV B w K z e) (hg : g < B) : Off g e.p := by
  obtain ⟨xs, k1, -⟩ := h
  exact off_from k1.fr hg
def LiP (x : Int) (w : World) (r : Ending) (w' : World) : Prop :=
  ∃ (g : Nat) (fs : List Ent), r = .returned (.slice (some ⟨g, 0, none⟩) 2 2) ∧ PR w' 4 (some ⟨g, 0, none⟩) 2 2 fs (lin x) ∧ w.heap.size ≤ g ∧ Below w.heap.size w w'
set_option maxRecDepth 100000 in
theorem rLine_any {w : World} {x : Int} {e : Ent} (h : RE w 4 x e) :
    Calls Tryz.prog 14 #[.agg #[.bool e.s, .slice e.p e.n e.c]] w (LiP x w) := by
  obtain ⟨s, q, n, c⟩ := e
  obtain ⟨h1, h2⟩ := h
  simp only at h1 h2
  subst h2
  have hal := bel_al (o := .cells #[.bool s, .slice q c c] 34) (Below.refl w.heap.size w)
  have hn := rNeg_v (h1.below hal)
  have HX : Hid (Below w.heap.size w (w.alloc (.cells #[.bool s, .slice q c c] 34))) := hal
  clear h1 hal
  go_enter Tryz.func14, Tryz.ntmps14
  go_wp2_with fail
  go_fit hn
  rintro r w1 ⟨s1, rfl, h1, hb1⟩
  have HB : Hid (Below w.heap.size w w1 ∧ RV w1 4 (-x) s1 q c) := ⟨bnext' HX.out hb1, h1⟩
  clear hn h1 hb1 HX
  go_wp2_with fail
  go_fit (rOf_n 1 w1 (by decide) (by decide))
  rintro r w2 ⟨u, rfl, hu, -, hb2⟩
  have HC : Hid (Below w.heap.size w w2 ∧ RV w2 4 (-x) s1 q c ∧ RE w2 4 1 u) := ⟨bnext' HB.out.1 hb2, HB.out.2.below hb2, hu⟩
  clear HB hu hb2
  go_wp2_with fail
  go_ret
  obtain ⟨c0, c1, c2, c3⟩ := cells_at4 w2 (.bool s1) (.slice q c c) (.bool u.s) (.slice u.p u.n u.c) 34
  have hal := bel_al (o := .cells #[.bool s1, .slice q c c, .bool u.s, .slice u.p u.n u.c] 34) (Below.refl w2.heap.size w2)
  exact ⟨w2.heap.size, [⟨s1, q, c, c⟩, u], rfl, pr_lit2 (e := ⟨s1, q, c, c⟩) (f := u) c0 c1 c2 c3 ⟨HC.out.2.1.below hal, rfl⟩ (HC.out.2.2.below hal), HC.out.1.size, bnext' HC.out.1 hal⟩
def pv (x : Int) (zs : List Int) : Nat → Int
  | 0 => 0
  | k + 1 => (pv x zs k - gx zs k) / x
def qz (x : Int) (zs : List Int) (m : Nat) : List Int := (List.range m).map fun i => pv x zs (i + 1)
theorem gx_qz (x : Int) (zs : List Int) (m t : Nat) : gx (qz x zs m) t = if t < m then pv x zs (t + 1) else 0 := by
  split
  · rename_i h
    rw [qz, gx_mem _ _ (by simpa using h)]
    simp
  · rename_i h
    exact gx_past _ m (by simp [qz]) t (by omega)
theorem pv_bd {x : Int} {zs : List Int} {P : Int} (h : ∀ t, ((gx zs t).natAbs : Int) < P) : ∀ k, ((pv x zs k).natAbs : Int) ≤ (k : Int) * P
  | 0 => by simp [pv]
  | k + 1 => by
    have ih := pv_bd (x := x) h k
    have h1 := Int.natAbs_ediv_le_natAbs (pv x zs k - gx zs k) x
    have h2 := h k
    rw [pv]
    push_cast
    rw [Int.add_mul, Int.one_mul]
    omega
theorem pv_lt {x : Int} {zs : List Int} {K : Nat} (h : ∀ t, ((gx zs t).natAbs : Int) < pw K) (k : Nat) (hk : k ≤ 1000) : ((pv x zs k).natAbs : Int) < pw (K + 1) ∧ ((pv x zs k - gx zs k).natAbs : Int) < pw (K + 1) := by
  have h1 := pv_bd (x := x) h k
  have h2 := h k
  have h3 := pw_pos K
  rw [pw_succ]
  have h4 : (k : Int) * pw K ≤ 1000 * pw K := Int.mul_le_mul_of_nonneg_right (by omega) (by omega)
  constructor <;> omega
def Goes (x : Int) (zs : List Int) (m : Nat) : Prop := (∀ k, k < m → (pv x zs k - gx zs k) % x = 0) ∧ pv x zs m = gx zs m
theorem goes_mul {x : Int} {zs : List Int} {m : Nat} (hl : zs.length = m + 1) (h : Goes x zs m) (t : Nat) : gx zs t = gx (mulp (qz x zs m) (lin x)) t := by
  rw [gx_mlin, gx_qz, gx_qz]
  have hp : (if t = 0 then 0 else if t - 1 < m then pv x zs (t - 1 + 1) else 0) = if t ≤ m then pv x zs t else 0 := by
    rcases t with _ | t
    · simp [pv]
    · rw [if_neg (by omega), Nat.add_sub_cancel]
      by_cases h1 : t < m
      · rw [if_pos h1, if_pos (by omega)]
      · rw [if_neg h1, if_neg (by omega)]
  rw [hp]
  rcases Nat.lt_trichotomy t m with h1 | h1 | h1
  · rw [if_pos (by omega), if_pos h1, pv]
    have h2 := Int.mul_ediv_add_emod (pv x zs t - gx zs t) x
    rw [h.1 t h1] at h2
    omega
  · subst h1
    rw [if_pos (Nat.le_refl _), if_neg (by omega), h.2]
    simp
  · rw [if_neg (by omega), if_neg (by omega), gx_past zs _ (Nat.le_refl _) t (by omega)]
    simp
theorem mul_goes {x : Int} (hx : x ≠ 0) {zs q : List Int} {m : Nat} (hl : zs.length = m + 1) (h : ∀ t, gx zs t = gx (mulp q (lin x)) t) : Goes x zs m ∧ ∀ t, gx q t = gx (qz x zs m) t := by
  have h' : ∀ t, gx zs t = (if t = 0 then 0 else gx q (t - 1)) - x * gx q t := fun t => by rw [h, gx_mlin]
  have hp : ∀ k, pv x zs k = if k = 0 then 0 else gx q (k - 1) := fun k => by
    induction k with
    | zero => rfl
    | succ k ih =>
      rw [pv, if_neg (by omega), Nat.add_sub_cancel, ih, h']
      have e : (if k = 0 then 0 else gx q (k - 1)) - ((if k = 0 then 0 else gx q (k - 1)) - x * gx q k) = x * gx q k := by omega
      rw [e, Int.mul_ediv_cancel_left _ hx]
  have hz : ∀ j t, q.length ≤ t + j → m ≤ t → gx q t = 0 := fun j => by
    induction j with
    | zero => exact fun t ht _ => gx_past q _ (Nat.le_refl _) t ht
    | succ j ih =>
      intro t ht hm
      have h1 := h' (t + 1)
      rw [gx_past zs _ (Nat.le_refl _) (t + 1) (by omega), if_neg (by omega), Nat.add_sub_cancel, ih (t + 1) (by omega) (by omega)] at h1
      omega
  refine ⟨⟨fun k hk => ?_, ?_⟩, fun t => ?_⟩
  · rw [hp, h']
    have e : (if k = 0 then 0 else gx q (k - 1)) - ((if k = 0 then 0 else gx q (k - 1)) - x * gx q k) = x * gx q k := by omega
    rw [e, Int.mul_emod_right]
  · rw [hp, h' m, hz q.length m (by omega) (Nat.le_refl _), Int.mul_zero, Int.sub_zero]
  · rw [gx_qz]
    split
    · rw [hp, if_neg (by omega), Nat.add_sub_cancel]
    · exact hz q.length t (by omega) (by omega)
theorem qz_nrm {x : Int} {zs : List Int} {m : Nat} (hl : zs.length = m + 1) (hn : tlen zs = zs.length) (h : Goes x zs m) : tlen (qz x zs m) = m := by
  refine tlen_eq _ _ (fun j hj => by rw [gx_qz, if_neg (by omega)]) ?_
  rcases Nat.eq_zero_or_pos m with h0 | h0
  · exact .inl h0
  · refine .inr ?_
    rw [gx_qz, if_pos (by omega), show m - 1 + 1 = m by omega, h.2]
    have h1 := tlen_top zs (by omega)
    rwa [hn, hl, Nat.add_sub_cancel] at h1
theorem gx_drop1 (zs : List Int) (t : Nat) : gx (zs.drop 1) t = gx zs (t + 1) := by
  simp only [gx, List.getD_eq_getElem?_getD, List.getElem?_drop, Nat.add_comm 1 t]
theorem drop_mul {zs : List Int} (h : gx zs 0 = 0) (t : Nat) : gx zs t = gx (mulp (zs.drop 1) (lin 0)) t := by
  rw [gx_mlin, gx_drop1, Int.zero_mul, Int.sub_zero]
  split
  · rename_i h0; rw [h0, h]
  · rw [show t - 1 + 1 = t by omega]
theorem drop_not {zs : List Int} (h : gx zs 0 ≠ 0) : ¬ Dvd zs (lin 0) := fun ⟨q, hq⟩ => h (by rw [hq 0, gx_mlin]; simp)
end Go.Proofs.YtejnhpjejcpekaaGreatDoor
