/-
  A row of polynomials, read as data (out of Om).
-/
import Derived.Test.YtifebbacnlhggaaGreatDoorOaOfJpRzCwDj
import Derived.Test.YtifebbacnlhggaaGreatDoorVkJoNcOn
import Derived.Deep.Slices
import Derived.Deep.DeepFit
import Derived.Test.YtifebbacnlhggaaGreatDoorUeUfUgHdNb
import Derived.Test.YtifebbacnlhggaaGreatDoorBbCvNjUbUcUdOw
import Derived.Test.YtifebbacnlhggaaGreatDoorRaWmBeRd
import Derived.Test.YtifebbacnlhggaaGreatDoorCyViVuWxUpUqRm
import Derived.Test.YtifebbacnlhggaaGreatDoorDcUmUoDmDvPmHuVsVt
import Derived.Test.YtifebbacnlhggaaGreatDoorUjBsLeUkUiWiWjUlDdReRx
import Derived.Test.YtifebbacnlhggaaGreatDoorByDqUxUtUvUwUyUzUrUsHaHbHcWvUhHeVv
import Derived.Test.YtifebbacnlhggaaGreatDoorVaVgRo
namespace Go.Proofs.YtifebbacnlhggaaGreatDoor
open Go.ChangeShapes Go.WideShapes Go.ChangeAt Go.RowKit Go.Joins
set_option linter.unusedVariables false
set_option linter.unusedSimpArgs false

/-- A row of polynomials as it may be handed in. -/
structure RZ (w : World) (p : Option Addr) (n nc : Nat) (hs : List Hdr) : Prop where
  el : hs.length = n
  cap : n ≤ nc
  bnd : nc ≤ maxLen
  pn : p = none → nc = 0
  hl : HL w p hs
  ev : ∀ j, j < n → ∃ es, PZ w (gh hs j).p (gh hs j).n (gh hs j).c es
theorem RZ.below {w w' : World} {p : Option Addr} {n nc : Nat} {hs : List Hdr} (h : RZ w p n nc hs) (hb : Below w.heap.size w w') : RZ w' p n nc hs :=
  ⟨h.el, h.cap, h.bnd, h.pn, h.hl.below hb, fun j hj => let ⟨es, he⟩ := h.ev j hj; ⟨es, he.below hb⟩⟩
end Go.Proofs.YtifebbacnlhggaaGreatDoor
/-
  ashlarlaw8.Cut, few.
-/
namespace Go.Proofs.YtifebbacnlhggaaGreatDoor
open Go.RowKit
set_option linter.unusedVariables false
set_option linter.unusedSimpArgs false

end Go.Proofs.YtifebbacnlhggaaGreatDoor
/-
  Operators: where they end; ore.trim.
-/
namespace Go.Proofs.YtifebbacnlhggaaGreatDoor
open Go.RowKit
set_option linter.unusedVariables false
set_option linter.unusedSimpArgs false

theorem gt_take {α : Type} [Inhabited α] (l : List α) (n j : Nat) (h : j < n) : gt (l.take n) j = gt l j := by simp [gt, List.getElem?_take, h]
theorem gh_take (l : List Hdr) (n j : Nat) (h : j < n) : gh (l.take n) j = gh l j := by simp [gh, List.getElem?_take, h]
/-- A row's beginning. -/
theorem HRow.cut {α : Type} [Inhabited α] {D : Nat} {E : World → Nat → Nat → α → Hdr → Prop} {w : World} {B T : Nat} {ts : List α} {h : Hdr} {hs : List Hdr} (k : HRow D E w B T ts h hs) (n : Nat) (hn : n ≤ h.n) : HRow D E w B T (ts.take n) ⟨h.p, n, n⟩ (hs.take n) := by
  refine ⟨by have := k.el; simp; omega, by have := k.tl; simp; omega, Nat.le_refl _, Nat.le_trans hn (Nat.le_trans k.cap k.bnd), fun e => ?_, Nat.le_trans hn k.few, fun hp => ?_, fun a ha h0 => k.at_ a ha (Nat.lt_of_lt_of_le h0 hn), fun j hj => ?_⟩
  · have h1 := k.pn e
    have h2 := k.cap
    show n = 0
    omega
  · have hl : 0 < n ∧ 0 < hs.length := by simp at hp; omega
    obtain ⟨b, o, hb, hc⟩ := k.hl hl.2
    refine ⟨b, o, hb, fun j hj => ?_⟩
    have hj' : j < n ∧ j < hs.length := by simp at hj; omega
    rw [gh_take _ _ _ hj'.1]
    exact hc j hj'.2
  · rw [gh_take _ _ _ hj, gt_take _ _ _ hj]
    exact k.ev j (Nat.lt_of_lt_of_le hj hn)
end Go.Proofs.YtifebbacnlhggaaGreatDoor
/-
  Normal polynomials behind a store (out of Eb), and wider (out of It).
-/
namespace Go.Proofs.YtifebbacnlhggaaGreatDoor
open Go.RowKit
set_option linter.unusedVariables false
set_option linter.unusedSimpArgs false

theorem PN.put {B : Nat} {w : World} {K : Nat} {p : Option Addr} {n : Nat} {es : List Ent} {zs : List Int} (h : PN B w K p n es zs) {b o : Nat} (hb : b < B) (v : Value) : PN B (w.setCell ⟨b, o, none⟩ v) K p n es zs :=
  ⟨h.el, h.zl, h.nrm, h.pl.set_other _ _ (off_from h.fr hb), h.fr, fun j hj => by
    obtain ⟨xs, c1, c2, c3⟩ := h.ev j hj
    exact ⟨xs, c1.set (a := ⟨b, o, none⟩) hb v, c2, c3⟩⟩
theorem PN.wider {B : Nat} {w : World} {K L : Nat} {p : Option Addr} {n : Nat} {es : List Ent} {zs : List Int} (h : PN B w K p n es zs) (hL : K ≤ L) : PN B w L p n es zs :=
  ⟨h.el, h.zl, h.nrm, h.pl, h.fr, fun j hj => by obtain ⟨xs, a, b, c⟩ := h.ev j hj; exact ⟨xs, a, b, by omega⟩⟩
end Go.Proofs.YtifebbacnlhggaaGreatDoor
/-
  A block of slices (out of Oy).
-/
namespace Go.Proofs.YtifebbacnlhggaaGreatDoor
open Go.RowKit
set_option linter.unusedVariables false
set_option linter.unusedSimpArgs false

theorem PN.tr {B : Nat} {w : World} {K : Nat} {p : Option Addr} {n : Nat} {es : List Ent} {zs : List Int} (h : PN B w K p n es zs) : Go.Proofs.YtifebbacnlhggaaGreatDoor.tr zs = zs := tr_self (by rw [h.nrm, h.zl])
/-- A block of slices. -/
def HB (w : World) (g : Nat) (hs : List Hdr) : Prop := w.heap[g]? = some (.cells (hs.map Hdr.val).toArray 26 (0, 0))
section
variable {w w' : World} {g : Nat} {hs : List Hdr}
theorem HB.lt (h : HB w g hs) : g < w.heap.size := (Array.getElem?_eq_some_iff.1 h).1
theorem HB.cell (h : HB w g hs) (j : Nat) (hj : j < hs.length) : w.cell? ⟨g, j, none⟩ = some (gh hs j).val := by
  have h' : w.heap[g]? = some (.cells (hs.map Hdr.val).toArray 26 (0, 0)) := h
  simp [World.cell?, h', gh, hj]
theorem HB.frozen (h : HB w g hs) (j : Nat) : w.frozen? ⟨g, j, none⟩ = false := frozen_of_row w g j _ _ h
theorem HB.set (h : HB w g hs) (j : Nat) (v : Hdr) : HB (w.setCell ⟨g, j, none⟩ v.val) g (hs.set j v) := by
  unfold HB
  rw [heap_setCell_same w g j _ _ _ h]
  simp [List.map_set]
theorem HB.below {B : Nat} (h : HB w g hs) (hb : Below B w w') (hg : g < B) : HB w' g hs := (hb.block g hg).trans h
theorem gh_set (hs : List Hdr) (i j : Nat) (v : Hdr) (hi : i < hs.length) : gh (hs.set i v) j = if j = i then v else gh hs j := by
  unfold gh
  simp only [List.getD_eq_getElem?_getD, List.getElem?_set]
  by_cases e : i = j
  · subst e; simp [hi]
  · have e' : ¬ j = i := fun h => e h.symm
    simp [e, e']
end
def hzs (n : Nat) : List Hdr := List.replicate n ⟨none, 0, 0⟩
end Go.Proofs.YtifebbacnlhggaaGreatDoor
/-
  Operators that are answered; ore.convert, Norm.
-/
namespace Go.Proofs.YtifebbacnlhggaaGreatDoor
open Go.RowKit
set_option linter.unusedVariables false
set_option linter.unusedSimpArgs false

theorem ez_of_pn {B : Nat} {w : World} {K E : Nat} {p : Option Addr} {n : Nat} {es : List Ent} {zs : List Int} (h : PN B w K p n es zs) (hK : K ≤ 1000) (hn : n ≤ E) (hE : E ≤ 1000000) : EZ K E w B w.heap.size zs ⟨p, n, n⟩ := by
  refine ⟨es, h.pa hK (by omega), hn, fun a ha h0 => ⟨h.fr a ha, ?_⟩, fun j hj h0 a ha => ⟨?_, (lasts_EV K).lt ((h.ev j hj).ev hK) h0 a ha⟩⟩
  · obtain ⟨b, o, hp, hlt⟩ := h.pl.lt (by rw [h.el]; exact h0)
    simp only at ha
    rw [hp] at ha
    cases ha
    exact hlt
  · obtain ⟨xs, k, -⟩ := h.ev j hj
    exact k.fr a ha
/-- An operator that is answered: its entries are normal, its memory lies from B on. -/
structure NO (B : Nat) (w : World) (K E : Nat) (l : List (List Int)) (p : Option Addr) (n : Nat) (hs : List Hdr) : Prop where
  el : hs.length = n
  tl : l.length = n
  hl : HL w p hs
  fr : Go.Proofs.YtifebbacnlhggaaGreatDoor.From B p
  ev : ∀ j, j < n → (gh hs j).c = (gh hs j).n ∧ (gh hs j).n ≤ E ∧ ∃ es, PN B w K (gh hs j).p (gh hs j).n es (gt l j)
theorem NO.below {B : Nat} {w w' : World} {K E : Nat} {l : List (List Int)} {p : Option Addr} {n : Nat} {hs : List Hdr} (h : NO B w K E l p n hs) (hb : Below w.heap.size w w') : NO B w' K E l p n hs :=
  ⟨h.el, h.tl, h.hl.below hb, h.fr, fun j hj => let ⟨a, b, es, c⟩ := h.ev j hj; ⟨a, b, es, c.below hb⟩⟩
theorem NO.cut {B : Nat} {w : World} {K E : Nat} {l : List (List Int)} {p : Option Addr} {n m : Nat} {hs : List Hdr} (h : NO B w K E l p n hs) (hm : m ≤ n) : NO B w K E (l.take m) p m (hs.take m) := by
  refine ⟨by have := h.el; simp; omega, by have := h.tl; simp; omega, fun hp => ?_, h.fr, fun j hj => ?_⟩
  · have hl : 0 < m ∧ 0 < hs.length := by simp at hp; omega
    obtain ⟨b, o, hb, hc⟩ := h.hl hl.2
    refine ⟨b, o, hb, fun j hj => ?_⟩
    have hj' : j < m ∧ j < hs.length := by simp at hj; omega
    rw [gh_take _ _ _ hj'.1]
    exact hc j hj'.2
  · rw [gh_take _ _ _ hj, gt_take _ _ _ hj]
    exact h.ev j (by omega)
theorem NO.hr {B : Nat} {w : World} {K E : Nat} {l : List (List Int)} {p : Option Addr} {n : Nat} {hs : List Hdr} (h : NO B w K E l p n hs) (hK : K ≤ 1000) (hE : E ≤ 1000000) (hn : n ≤ 1000000) : HR n (EZ K E) w B w.heap.size l ⟨p, n, n⟩ := by
  refine ⟨hs, h.el, h.tl, Nat.le_refl _, by show n ≤ maxLen; unfold maxLen; omega, fun e => ?_, Nat.le_refl _, h.hl, fun a ha h0 => ⟨h.fr a ha, ?_⟩, fun j hj => ?_⟩
  · rcases Nat.eq_zero_or_pos n with h0 | h0
    · exact h0
    · obtain ⟨b, o, hb, -⟩ := h.hl (by rw [h.el]; exact h0)
      simp only at e
      rw [hb] at e
      cases e
  · obtain ⟨b, o, hb, hc⟩ := h.hl (by rw [h.el]; exact h0)
    simp only at ha
    rw [hb] at ha
    cases ha
    exact block_lt_of_cell (hc 0 (by rw [h.el]; exact h0))
  · obtain ⟨a, b, es, c⟩ := h.ev j hj
    have h1 := ez_of_pn c hK b hE
    have e : (⟨(gh hs j).p, (gh hs j).n, (gh hs j).n⟩ : Hdr) = gh hs j := by
      generalize gh hs j = x at a
      obtain ⟨x1, x2, x3⟩ := x
      simp only at a
      rw [a]
    rw [e] at h1
    exact h1
/-- The first of an answer's entries are there. -/
def CB (F : Nat → List Int) (K E g n i : Nat) (w wr : World) : Prop :=
  ∃ hs : List Hdr, HB wr g hs ∧ hs.length = n ∧ (∀ r, r < i → (gh hs r).c = (gh hs r).n ∧ (gh hs r).n ≤ E ∧ ∃ es, PN (g + 1) wr K (gh hs r).p (gh hs r).n es (F r)) ∧ Below w.heap.size w wr ∧ w.heap.size ≤ g
theorem CB.step {F : Nat → List Int} {K E g n i : Nat} {w wr v3 : World} {p3 : Option Addr} {n3 : Nat} {es3 : List Ent} (h : CB F K E g n i w wr) (hi : i < n) (hv : Below wr.heap.size wr v3) (hN : PN (g + 1) v3 K p3 n3 es3 (F i)) (hE : n3 ≤ E) : CB F K E g n (i + 1) w (v3.setCell ⟨g, i, none⟩ (.slice p3 n3 n3)) := by
  obtain ⟨hs, h1, h2, h3, h4, h5⟩ := h
  refine ⟨hs.set i ⟨p3, n3, n3⟩, (h1.below hv h1.lt).set i ⟨p3, n3, n3⟩, by simp [h2], fun r hr => ?_, (h4.trans (hv.mono h4.size)).setCell (p := ⟨g, i, none⟩) h5 _, h5⟩
  rw [gh_set _ _ _ _ (by omega)]
  by_cases e : r = i
  · subst e
    rw [if_pos rfl]
    exact ⟨rfl, hE, es3, hN.put (Nat.lt_succ_self g) _⟩
  · rw [if_neg e]
    obtain ⟨a, b, es, c⟩ := h3 r (by omega)
    exact ⟨a, b, es, (c.below hv).put (Nat.lt_succ_self g) _⟩
theorem CB.no {F : Nat → List Int} {K E g n : Nat} {w wr : World} (h : CB F K E g n n w wr) : ∃ hs, NO g wr K E ((List.range n).map F) (some ⟨g, 0, none⟩) n hs := by
  obtain ⟨hs, h1, h2, h3, h4, h5⟩ := h
  refine ⟨hs, h2, by simp, fun hp => ⟨g, 0, rfl, fun j hj => by rw [Nat.zero_add]; exact h1.cell j hj⟩, fun a ha => by cases ha; exact Nat.le_refl _, fun j hj => ?_⟩
  obtain ⟨a, b, es, c⟩ := h3 j hj
  refine ⟨a, b, es, ?_⟩
  have e : gt ((List.range n).map F) j = F j := by simp [gt, hj]
  rw [e]
  exact c.mono (Nat.le_succ g)
theorem NO.mono {B B' : Nat} {w : World} {K E : Nat} {l : List (List Int)} {p : Option Addr} {n : Nat} {hs : List Hdr} (h : NO B w K E l p n hs) (hB : B' ≤ B) : NO B' w K E l p n hs :=
  ⟨h.el, h.tl, h.hl, fun a ha => Nat.le_trans hB (h.fr a ha), fun j hj => let ⟨a, b, es, c⟩ := h.ev j hj; ⟨a, b, es, c.mono hB⟩⟩
end Go.Proofs.YtifebbacnlhggaaGreatDoor
/-
  A polynomial of the reference in a row of them (out of Oq).
-/
namespace Go.Proofs.YtifebbacnlhggaaGreatDoor
open Go.RowKit
set_option linter.unusedVariables false
set_option linter.unusedSimpArgs false

/-- A polynomial of the reference among them. -/
def EY (N D : Nat) (w : World) (B T : Nat) (zs : List Int) (h : Hdr) : Prop :=
  ∃ fs, PR w N h.p h.n h.c fs zs ∧ h.c = h.n ∧ tlen zs = h.n ∧ h.n ≤ D ∧ (∀ a, h.p = some a → 0 < h.n → B ≤ a.block ∧ a.block < T) ∧ ∀ j, j < h.n → 0 < (ge fs j).n → ∀ a, (ge fs j).p = some a → B ≤ a.block ∧ a.block < T
end Go.Proofs.YtifebbacnlhggaaGreatDoor
/-
  The reference's operators: Trim, At, From.
-/
namespace Go.Proofs.YtifebbacnlhggaaGreatDoor
open Go.RowKit
set_option linter.unusedVariables false
set_option linter.unusedSimpArgs false

end Go.Proofs.YtifebbacnlhggaaGreatDoor
/-
  The reference's operators: From, Add, Scale.
-/
namespace Go.Proofs.YtifebbacnlhggaaGreatDoor
open Go.RowKit
set_option linter.unusedVariables false
set_option linter.unusedSimpArgs false

end Go.Proofs.YtifebbacnlhggaaGreatDoor
/-
  The length of an operator's entries (out of Ad).
-/
namespace Go.Proofs.YtifebbacnlhggaaGreatDoor
open Go.RowKit
set_option linter.unusedVariables false
set_option linter.unusedSimpArgs false

end Go.Proofs.YtifebbacnlhggaaGreatDoor
/-
  ore.Order; degrees, bits, the normal form (out of Ag, Ai).
-/
namespace Go.Proofs.YtifebbacnlhggaaGreatDoor
open Go.RowKit
set_option linter.unusedVariables false
set_option linter.unusedSimpArgs false

end Go.Proofs.YtifebbacnlhggaaGreatDoor
/-
  Plain: normal forms (out of Al).
-/
namespace Go.Proofs.YtifebbacnlhggaaGreatDoor
open Go.RowKit
set_option linter.unusedVariables false
set_option linter.unusedSimpArgs false

end Go.Proofs.YtifebbacnlhggaaGreatDoor
/-
  ashlarref8.Order (out of Aj).
-/
namespace Go.Proofs.YtifebbacnlhggaaGreatDoor
open Go.RowKit
set_option linter.unusedVariables false
set_option linter.unusedSimpArgs false

end Go.Proofs.YtifebbacnlhggaaGreatDoor
/-
  ore.Degree, Bits, Eq.
-/
namespace Go.Proofs.YtifebbacnlhggaaGreatDoor
open Go.RowKit
set_option linter.unusedVariables false
set_option linter.unusedSimpArgs false

end Go.Proofs.YtifebbacnlhggaaGreatDoor
/-
  ore.entry, combine, Add, Sub.
-/
namespace Go.Proofs.YtifebbacnlhggaaGreatDoor
open Go.RowKit
set_option linter.unusedVariables false
set_option linter.unusedSimpArgs false

end Go.Proofs.YtifebbacnlhggaaGreatDoor
/-
  Sizes of small polynomials; upoly.Mul where one is zero (out of Ou, Oy, Pv).
-/
namespace Go.Proofs.YtifebbacnlhggaaGreatDoor
open Go.RowKit
set_option linter.unusedVariables false
set_option linter.unusedSimpArgs false

end Go.Proofs.YtifebbacnlhggaaGreatDoor
/-
  ore.Scale, Order, Degree, Bits, Lead.
-/
namespace Go.Proofs.YtifebbacnlhggaaGreatDoor
open Go.RowKit
set_option linter.unusedVariables false
set_option linter.unusedSimpArgs false

end Go.Proofs.YtifebbacnlhggaaGreatDoor
/-
  ore.Eq.
-/
namespace Go.Proofs.YtifebbacnlhggaaGreatDoor
open Go.RowKit
set_option linter.unusedVariables false
set_option linter.unusedSimpArgs false

end Go.Proofs.YtifebbacnlhggaaGreatDoor
/-
  ashlarref3.Is of an answer that is right.
-/
namespace Go.Proofs.YtifebbacnlhggaaGreatDoor
open Go.RowKit
set_option linter.unusedVariables false
set_option linter.unusedSimpArgs false

theorem rIs_e {B : Nat} {w : World} {K N : Nat} {z : Int} {e f : Ent} (h : NV B w K z e) (hK : K ≤ 1000) (k : RE w N z f) (hN : N ≤ 1000) :
    Calls Tryz.prog 22 #[.agg #[.bool e.s, .slice e.p e.n e.c], .agg #[.bool f.s, .slice f.p f.n f.c]] w fun r w' => r = .returned (.bool true) ∧ Below w.heap.size w w' := by
  obtain ⟨xs, h1, h2, h3⟩ := h
  obtain ⟨⟨ds, k1, k2, k3⟩, k4⟩ := k
  rw [h2, k4]
  exact rIs_any h1 (by omega) k1.len (by omega) k1.rd k1.u k1.nrm k1.sg k2
theorem NV.drew {B : Nat} {w : World} {K : Nat} {z : Int} {e : Ent} (h : NV B w K z e) : NV B w.drew K z e := by
  obtain ⟨xs, h1, h2⟩ := h
  exact ⟨xs, h1.drew, h2⟩
set_option maxHeartbeats 2000000 in
set_option maxRecDepth 100000 in
/-- ashlarref3.Is. -/
theorem rpIs_any {B : Nat} {w : World} {K N : Nat} {p q : Option Addr} {n nc : Nat} {es fs : List Ent} {zs : List Int} (h : PN B w K p n es zs) (k : PR w N q n nc fs zs) (hK : K ≤ 1000) (hN : N ≤ 1000) (hn : n ≤ 1000000) :
    Calls Tryz.prog 15 #[.slice p n n, .slice q n nc] w fun r w' => r = .returned (.bool true) ∧ Below w.heap.size w w' := by
  have hel := h.el
  have hfl := k.el
  go_enter Tryz.func15, Tryz.ntmps15
  go_wp2_with fail
  go_loopw [5, 6] (fun iv sv wr => ∃ j : Nat, j ≤ n ∧ iv = .int .i64 j ∧ Hid (Below w.heap.size w wr)) (fun iv _ _ => n - (intOf iv).toNat)
  case atStart => exact ⟨0, Nat.zero_le _, by go_num, Below.refl _ _⟩
  case round =>
    obtain ⟨j, hj, rfl, H⟩ := hrel
    rcases Nat.lt_or_ge j n with hlt | hge
    · have hh := h.below H.out
      have hk := k.below H.out
      have hv := hh.ev j hlt
      have hw := hk.ev j hlt
      obtain ⟨b, o, hp, hc⟩ := hh.pl (by omega)
      obtain ⟨c, r, hq, hd⟩ := hk.pl (by omega)
      subst hp hq
      obtain ⟨c0, c1⟩ := hc j (by omega)
      obtain ⟨d0, d1⟩ := hd j (by omega)
      clear hc hd hh hk
      go_wp2_with fail
      go_region_held3 (fun w' => w'.cell? ⟨b, o + j * 2, none⟩ = some (.bool (ge es j).s) ∧ w'.cell? ⟨b, o + j * 2 + 1, none⟩ = some (.slice (ge es j).p (ge es j).n (ge es j).c) ∧ w'.cell? ⟨c, r + j * 2, none⟩ = some (.bool (ge fs j).s) ∧ w'.cell? ⟨c, r + j * 2 + 1, none⟩ = some (.slice (ge fs j).p (ge fs j).n (ge fs j).c)) (first | with_reducible exact ⟨c0, c1, d0, d1⟩ | with_reducible exact keepc4 ⟨c0, c1, d0, d1⟩ hV1 | (simp [go_sem, *]; done))
        (first
          | (go_at_call 22; refine (rIs_e (hv.drew) hK hw.drew hN).mono ?_; rintro e w1 ⟨rfl, hb1⟩; have hV1 := undrew hb1))
      have hB := bnext' H.out hV1
      clear c0 c1 d0 d1 hv hw
      go_wp2
      go_roundw
      case rel => exact ⟨j + 1, by omega, by go_num, hB⟩
      case measure => simp [intOf]; omega
    · obtain rfl : j = n := by omega
      go_wp2
      go_ret
      exact ⟨rfl, H.out⟩
end Go.Proofs.YtifebbacnlhggaaGreatDoor
