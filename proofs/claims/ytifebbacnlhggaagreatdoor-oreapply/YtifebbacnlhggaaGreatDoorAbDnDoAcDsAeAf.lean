/-
  Operators: where they end; ore.trim.
-/
import Derived.Test.YtifebbacnlhggaaGreatDoorDjVkJoNcOnDpAa
import Derived.Test.YtifebbacnlhggaaGreatDoorUfUgHdNbFvOi
import Derived.Deep.DeepFit
import Derived.Test.YtifebbacnlhggaaGreatDoorWhPnWkWlBxBbCvNjUbUcUdOw
import Derived.Test.YtifebbacnlhggaaGreatDoorRaWmBeRdLnWrIb
import Derived.Test.YtifebbacnlhggaaGreatDoorVbDaCxRbCyViVuWxUpUqRm
import Derived.Test.YtifebbacnlhggaaGreatDoorDcUmUoDmDvPmHuVsVt
namespace Go.Proofs.YtifebbacnlhggaaGreatDoor
open Go.RowKit
set_option linter.unusedVariables false
set_option linter.unusedSimpArgs false

/-- Where an operator ends. -/
def olen (zss : List (List Int)) : Nat := tlen (zss.map fun z => (tlen z : Int))
theorem olen_le (zss : List (List Int)) : olen zss ≤ zss.length := by
  have := tlen_le (zss.map fun z => (tlen z : Int))
  rwa [List.length_map] at this
theorem gx_tlens (zss : List (List Int)) (j : Nat) : gx (zss.map fun z => (tlen z : Int)) j = (tlen (gt zss j) : Int) := by
  rcases Nat.lt_or_ge j zss.length with h | h
  · simp [gx, gt, h]
  · have h1 : gt zss j = [] := by simp [gt, h]; rfl
    rw [h1]
    simp [gx, h]
    rfl
theorem olen_zero (zss : List (List Int)) (j : Nat) (h : olen zss ≤ j) : tlen (gt zss j) = 0 := by
  have := tlen_zero _ _ h
  rw [gx_tlens] at this
  omega
theorem olen_eq (zss : List (List Int)) (k : Nat) (h1 : ∀ j, k ≤ j → tlen (gt zss j) = 0) (h2 : k = 0 ∨ ¬ tlen (gt zss (k - 1)) = 0) : olen zss = k := by
  refine tlen_eq _ k (fun j hj => by rw [gx_tlens, h1 j hj]; rfl) ?_
  rcases h2 with h | h
  · exact .inl h
  · refine .inr ?_
    rw [gx_tlens]
    omega
theorem gt_over0 (zss : List (List Int)) (j : Nat) (h : zss.length ≤ j) : gt zss j = [] := by simp [gt, h]; rfl
theorem gt_take {α : Type} [Inhabited α] (l : List α) (n j : Nat) (h : j < n) : gt (l.take n) j = gt l j := by simp [gt, List.getElem?_take, h]
theorem gh_take (l : List Hdr) (n j : Nat) (h : j < n) : gh (l.take n) j = gh l j := by simp [gh, List.getElem?_take, h]
/-- A row's beginning. -/
theorem HRow.cut {α : Type} [Inhabited α] {D : Nat} {E : World → Nat → Nat → α → Hdr → Prop} {w : World} {B T : Nat} {ts : List α} {h : Hdr} {hs : List Hdr} (k : HRow D E w B T ts h hs) (n : Nat) (hn : n ≤ h.n) : HRow D E w B T (ts.take n) ⟨h.p, n, n⟩ (hs.take n) := by
  refine ⟨by have := k.el; simp; omega, by have := k.tl; simp; omega, Nat.le_refl _, Nat.le_trans hn (Nat.le_trans k.cap k.bnd), fun e => ?_, Nat.le_trans hn k.few, fun hp => ?_, fun a ha h0 => k.at_ a ha (Nat.lt_of_lt_of_le h0 hn), fun j hj => ?_⟩
  · have h1 := k.pn e
    have h2 := k.cap
    show n = 0
    omega
  · have hl : 0 < n ∧ 0 < hs.length := by simp at hp; omega
    obtain ⟨b, o, hb, hc⟩ := k.hl hl.2
    refine ⟨b, o, hb, fun j hj => ?_⟩
    have hj' : j < n ∧ j < hs.length := by simp at hj; omega
    rw [gh_take _ _ _ hj'.1]
    exact hc j hj'.2
  · rw [gh_take _ _ _ hj, gt_take _ _ _ hj]
    exact k.ev j (Nat.lt_of_lt_of_le hj hn)
set_option maxHeartbeats 2000000 in
theorem clipO_any (q : Option Addr) (m mc : Nat) (w : World) (h : m ≤ mc) (hc : mc ≤ maxLen) (hq : q = none → mc = 0) :
    Calls Tryz.prog 122 #[.slice q m mc] w fun e w' => e = .returned (.slice q m m) ∧ w = w' := by
  unfold maxLen at hc
  go_enter Tryz.func122, Tryz.ntmps122
  go_wp2
  go_ret
  exact ⟨rfl, rfl⟩
set_option maxHeartbeats 2000000 in
set_option maxRecDepth 100000 in
/-- ore.trim. -/
theorem otrim_any {w : World} {B T K E D : Nat} {zss : List (List Int)} {h : Hdr} (H : HR D (EZ K E) w B T zss h) (hT : T ≤ w.heap.size) (hD : D ≤ 1000000) (hE : E ≤ 1000000) :
    Calls Tryz.prog 76 #[.slice h.p h.n h.c] w fun e w' => e = .returned (.slice h.p (olen zss) (olen zss)) ∧ Below w.heap.size w w' := by
  obtain ⟨hs, k⟩ := H
  have HX : Hid (HRow D (EZ K E) w B T zss h hs ∧ T ≤ w.heap.size) := ⟨k, hT⟩
  have hn : h.n ≤ D := k.few
  have hcap : h.n ≤ h.c := k.cap
  have hbnd : h.c ≤ maxLen := k.bnd
  have hpn : h.p = none → h.c = 0 := k.pn
  have HL : Hid (zss.length = h.n) := k.tl
  obtain ⟨p, n, nc⟩ := h
  simp only at hn hcap hbnd hpn HL ⊢
  have hbnd' := hbnd
  unfold maxLen at hbnd'
  clear k hT
  go_enter Tryz.func76, Tryz.ntmps76
  go_wp2
  go_loopw [3] (fun nv wr => ∃ k : Nat, k ≤ n ∧ nv = .int .i64 k ∧ Hid ((∀ j, k ≤ j → tlen (gt zss j) = 0) ∧ Below w.heap.size w wr)) (fun nv _ => (intOf nv).toNat)
  case atStart => exact ⟨n, Nat.le_refl _, by go_num, fun j hj => by rw [gt_over0 _ _ (by have := HL.out; omega)]; rfl, Below.refl _ _⟩
  case round =>
    obtain ⟨k, hk, rfl, H⟩ := hrel
    rcases Nat.eq_zero_or_pos k with h0 | h0
    · subst h0
      have HT : Hid (olen zss = 0) := olen_eq zss 0 (fun j _ => H.out.1 j (Nat.zero_le _)) (.inl rfl)
      have hcl := fun w => clipO_any p 0 nc w (Nat.zero_le _) hbnd hpn
      go_wp2_with fail
      go_fit (hcl wr)
      rintro e w1 ⟨rfl, rfl⟩
      clear hcl
      go_wp2
      go_ret
      exact ⟨by rw [HT.out]; rfl, H.out.2⟩
    · obtain ⟨i, rfl⟩ : ∃ i, k = i + 1 := ⟨k - 1, by omega⟩
      obtain ⟨H1, H2⟩ := H.out
      have HH : Hid ((∀ j, i + 1 ≤ j → tlen (gt zss j) = 0) ∧ Below w.heap.size w wr) := ⟨H1, H2⟩
      obtain ⟨b, o, hp, hc⟩ := HX.out.1.hl (by rw [HX.out.1.el]; show 0 < n; omega)
      simp only at hp
      subst hp
      have c0 := hc i (by rw [HX.out.1.el]; show i < n; omega)
      have c1 : wr.cell? ⟨b, o + i, none⟩ = some (gh hs i).val := by rw [H2.cell (block_lt_of_cell c0)]; exact c0
      have hE2 := (lasts_EZ K E).below (HX.out.1.ev i (by show i < n; omega)) HX.out.2 H2
      generalize gh hs i = hd at c1 hE2
      obtain ⟨p2, n2, nc2⟩ := hd
      simp only [Hdr.val] at c1
      obtain ⟨es2, hP2, hd3, -, -⟩ := hE2
      simp only at hP2 hd3
      have v1 : wrap64 ((i : Int) + 1 - 1) = (i : Int) := by unfold wrap64; omega
      have hlt : (i : Int) < (n : Int) := by omega
      clear H H1 H2 hc c0
      go_wp2_with fail
      go_fit (uDeg_any K p2 n2 nc2 es2 (gt zss i) wr hP2 (by omega))
      rintro e w1 ⟨rfl, hb1⟩
      have hB := bnext' HH.out.2 hb1
      have HBB : Hid (Below w.heap.size w w1) := hB
      clear c1 hP2 hb1 hB
      have hcs : Hid (tlen (gt zss i) = 0 ∨ ¬ tlen (gt zss i) = 0) := Classical.em _
      rcases hcs.out with hz | hz
      · have HZ : Hid (tlen (gt zss i) = 0) := hz
        have d1 : (tlen (gt zss i) : Int) - 1 < 0 := by omega
        clear hz hcs
        generalize (tlen (gt zss i) : Int) - 1 = t at *
        go_wp2
        go_roundw
        case rel => exact ⟨i, by omega, by go_num, fun j hj => by
          rcases Nat.lt_or_ge i j with h | h
          · exact HH.out.1 j h
          · have : j = i := by omega
            subst this; exact HZ.out, HBB.out⟩
        case measure => simp [intOf]
      · have HT : Hid (olen zss = i + 1) := olen_eq zss (i + 1) HH.out.1 (.inr hz)
        have d1 : ¬ (tlen (gt zss i) : Int) - 1 < 0 := by omega
        clear hz hcs
        generalize (tlen (gt zss i) : Int) - 1 = t at *
        have hcl := fun w => clipO_any (some ⟨b, o, none⟩) (i + 1) nc w (by omega) hbnd hpn
        go_wp2_with fail
        go_fit (hcl w1)
        rintro e w2 ⟨rfl, rfl⟩
        clear hcl
        go_wp2
        go_ret
        exact ⟨by rw [HT.out]; rfl, HBB.out⟩
end Go.Proofs.YtifebbacnlhggaaGreatDoor
/-
  Normal polynomials behind a store (out of Eb), and wider (out of It).
-/
namespace Go.Proofs.YtifebbacnlhggaaGreatDoor
open Go.RowKit
set_option linter.unusedVariables false
set_option linter.unusedSimpArgs false

theorem PN.put {B : Nat} {w : World} {K : Nat} {p : Option Addr} {n : Nat} {es : List Ent} {zs : List Int} (h : PN B w K p n es zs) {b o : Nat} (hb : b < B) (v : Value) : PN B (w.setCell ⟨b, o, none⟩ v) K p n es zs :=
  ⟨h.el, h.zl, h.nrm, h.pl.set_other _ _ (off_from h.fr hb), h.fr, fun j hj => by
    obtain ⟨xs, c1, c2, c3⟩ := h.ev j hj
    exact ⟨xs, c1.set (a := ⟨b, o, none⟩) hb v, c2, c3⟩⟩
theorem PN.wider {B : Nat} {w : World} {K L : Nat} {p : Option Addr} {n : Nat} {es : List Ent} {zs : List Int} (h : PN B w K p n es zs) (hL : K ≤ L) : PN B w L p n es zs :=
  ⟨h.el, h.zl, h.nrm, h.pl, h.fr, fun j hj => by obtain ⟨xs, a, b, c⟩ := h.ev j hj; exact ⟨xs, a, b, by omega⟩⟩
end Go.Proofs.YtifebbacnlhggaaGreatDoor
/-
  A block of slices (out of Oy).
-/
namespace Go.Proofs.YtifebbacnlhggaaGreatDoor
open Go.RowKit
set_option linter.unusedVariables false
set_option linter.unusedSimpArgs false

theorem PN.tr {B : Nat} {w : World} {K : Nat} {p : Option Addr} {n : Nat} {es : List Ent} {zs : List Int} (h : PN B w K p n es zs) : Go.Proofs.YtifebbacnlhggaaGreatDoor.tr zs = zs := tr_self (by rw [h.nrm, h.zl])
/-- A block of slices. -/
def HB (w : World) (g : Nat) (hs : List Hdr) : Prop := w.heap[g]? = some (.cells (hs.map Hdr.val).toArray 26 (0, 0))
section
variable {w w' : World} {g : Nat} {hs : List Hdr}
theorem HB.lt (h : HB w g hs) : g < w.heap.size := (Array.getElem?_eq_some_iff.1 h).1
theorem HB.cell (h : HB w g hs) (j : Nat) (hj : j < hs.length) : w.cell? ⟨g, j, none⟩ = some (gh hs j).val := by
  have h' : w.heap[g]? = some (.cells (hs.map Hdr.val).toArray 26 (0, 0)) := h
  simp [World.cell?, h', gh, hj]
theorem HB.frozen (h : HB w g hs) (j : Nat) : w.frozen? ⟨g, j, none⟩ = false := frozen_of_row w g j _ _ h
theorem HB.set (h : HB w g hs) (j : Nat) (v : Hdr) : HB (w.setCell ⟨g, j, none⟩ v.val) g (hs.set j v) := by
  unfold HB
  rw [heap_setCell_same w g j _ _ _ h]
  simp [List.map_set]
theorem HB.below {B : Nat} (h : HB w g hs) (hb : Below B w w') (hg : g < B) : HB w' g hs := (hb.block g hg).trans h
theorem gh_set (hs : List Hdr) (i j : Nat) (v : Hdr) (hi : i < hs.length) : gh (hs.set i v) j = if j = i then v else gh hs j := by
  unfold gh
  simp only [List.getD_eq_getElem?_getD, List.getElem?_set]
  by_cases e : i = j
  · subst e; simp [hi]
  · have e' : ¬ j = i := fun h => e h.symm
    simp [e, e']
end
def hzs (n : Nat) : List Hdr := List.replicate n ⟨none, 0, 0⟩
end Go.Proofs.YtifebbacnlhggaaGreatDoor
/-
  Operators that are answered; ore.convert, Norm.
-/
namespace Go.Proofs.YtifebbacnlhggaaGreatDoor
open Go.RowKit
set_option linter.unusedVariables false
set_option linter.unusedSimpArgs false

theorem ez_of_pn {B : Nat} {w : World} {K E : Nat} {p : Option Addr} {n : Nat} {es : List Ent} {zs : List Int} (h : PN B w K p n es zs) (hK : K ≤ 1000) (hn : n ≤ E) (hE : E ≤ 1000000) : EZ K E w B w.heap.size zs ⟨p, n, n⟩ := by
  refine ⟨es, h.pa hK (by omega), hn, fun a ha h0 => ⟨h.fr a ha, ?_⟩, fun j hj h0 a ha => ⟨?_, (lasts_EV K).lt ((h.ev j hj).ev hK) h0 a ha⟩⟩
  · obtain ⟨b, o, hp, hlt⟩ := h.pl.lt (by rw [h.el]; exact h0)
    simp only at ha
    rw [hp] at ha
    cases ha
    exact hlt
  · obtain ⟨xs, k, -⟩ := h.ev j hj
    exact k.fr a ha
/-- An operator that is answered: its entries are normal, its memory lies from B on. -/
structure NO (B : Nat) (w : World) (K E : Nat) (l : List (List Int)) (p : Option Addr) (n : Nat) (hs : List Hdr) : Prop where
  el : hs.length = n
  tl : l.length = n
  hl : HL w p hs
  fr : Go.Proofs.YtifebbacnlhggaaGreatDoor.From B p
  ev : ∀ j, j < n → (gh hs j).c = (gh hs j).n ∧ (gh hs j).n ≤ E ∧ ∃ es, PN B w K (gh hs j).p (gh hs j).n es (gt l j)
theorem NO.below {B : Nat} {w w' : World} {K E : Nat} {l : List (List Int)} {p : Option Addr} {n : Nat} {hs : List Hdr} (h : NO B w K E l p n hs) (hb : Below w.heap.size w w') : NO B w' K E l p n hs :=
  ⟨h.el, h.tl, h.hl.below hb, h.fr, fun j hj => let ⟨a, b, es, c⟩ := h.ev j hj; ⟨a, b, es, c.below hb⟩⟩
theorem NO.cut {B : Nat} {w : World} {K E : Nat} {l : List (List Int)} {p : Option Addr} {n m : Nat} {hs : List Hdr} (h : NO B w K E l p n hs) (hm : m ≤ n) : NO B w K E (l.take m) p m (hs.take m) := by
  refine ⟨by have := h.el; simp; omega, by have := h.tl; simp; omega, fun hp => ?_, h.fr, fun j hj => ?_⟩
  · have hl : 0 < m ∧ 0 < hs.length := by simp at hp; omega
    obtain ⟨b, o, hb, hc⟩ := h.hl hl.2
    refine ⟨b, o, hb, fun j hj => ?_⟩
    have hj' : j < m ∧ j < hs.length := by simp at hj; omega
    rw [gh_take _ _ _ hj'.1]
    exact hc j hj'.2
  · rw [gh_take _ _ _ hj, gt_take _ _ _ hj]
    exact h.ev j (by omega)
theorem NO.hr {B : Nat} {w : World} {K E : Nat} {l : List (List Int)} {p : Option Addr} {n : Nat} {hs : List Hdr} (h : NO B w K E l p n hs) (hK : K ≤ 1000) (hE : E ≤ 1000000) (hn : n ≤ 1000000) : HR n (EZ K E) w B w.heap.size l ⟨p, n, n⟩ := by
  refine ⟨hs, h.el, h.tl, Nat.le_refl _, by show n ≤ maxLen; unfold maxLen; omega, fun e => ?_, Nat.le_refl _, h.hl, fun a ha h0 => ⟨h.fr a ha, ?_⟩, fun j hj => ?_⟩
  · rcases Nat.eq_zero_or_pos n with h0 | h0
    · exact h0
    · obtain ⟨b, o, hb, -⟩ := h.hl (by rw [h.el]; exact h0)
      simp only at e
      rw [hb] at e
      cases e
  · obtain ⟨b, o, hb, hc⟩ := h.hl (by rw [h.el]; exact h0)
    simp only at ha
    rw [hb] at ha
    cases ha
    exact block_lt_of_cell (hc 0 (by rw [h.el]; exact h0))
  · obtain ⟨a, b, es, c⟩ := h.ev j hj
    have h1 := ez_of_pn c hK b hE
    have e : (⟨(gh hs j).p, (gh hs j).n, (gh hs j).n⟩ : Hdr) = gh hs j := by
      generalize gh hs j = x at a
      obtain ⟨x1, x2, x3⟩ := x
      simp only at a
      rw [a]
    rw [e] at h1
    exact h1
/-- Without zeros at the end. -/
def otr (l : List (List Int)) : List (List Int) := l.take (olen l)
/-- The first of an answer's entries are there. -/
def CB (F : Nat → List Int) (K E g n i : Nat) (w wr : World) : Prop :=
  ∃ hs : List Hdr, HB wr g hs ∧ hs.length = n ∧ (∀ r, r < i → (gh hs r).c = (gh hs r).n ∧ (gh hs r).n ≤ E ∧ ∃ es, PN (g + 1) wr K (gh hs r).p (gh hs r).n es (F r)) ∧ Below w.heap.size w wr ∧ w.heap.size ≤ g
theorem CB.step {F : Nat → List Int} {K E g n i : Nat} {w wr v3 : World} {p3 : Option Addr} {n3 : Nat} {es3 : List Ent} (h : CB F K E g n i w wr) (hi : i < n) (hv : Below wr.heap.size wr v3) (hN : PN (g + 1) v3 K p3 n3 es3 (F i)) (hE : n3 ≤ E) : CB F K E g n (i + 1) w (v3.setCell ⟨g, i, none⟩ (.slice p3 n3 n3)) := by
  obtain ⟨hs, h1, h2, h3, h4, h5⟩ := h
  refine ⟨hs.set i ⟨p3, n3, n3⟩, (h1.below hv h1.lt).set i ⟨p3, n3, n3⟩, by simp [h2], fun r hr => ?_, (h4.trans (hv.mono h4.size)).setCell (p := ⟨g, i, none⟩) h5 _, h5⟩
  rw [gh_set _ _ _ _ (by omega)]
  by_cases e : r = i
  · subst e
    rw [if_pos rfl]
    exact ⟨rfl, hE, es3, hN.put (Nat.lt_succ_self g) _⟩
  · rw [if_neg e]
    obtain ⟨a, b, es, c⟩ := h3 r (by omega)
    exact ⟨a, b, es, (c.below hv).put (Nat.lt_succ_self g) _⟩
theorem CB.no {F : Nat → List Int} {K E g n : Nat} {w wr : World} (h : CB F K E g n n w wr) : ∃ hs, NO g wr K E ((List.range n).map F) (some ⟨g, 0, none⟩) n hs := by
  obtain ⟨hs, h1, h2, h3, h4, h5⟩ := h
  refine ⟨hs, h2, by simp, fun hp => ⟨g, 0, rfl, fun j hj => by rw [Nat.zero_add]; exact h1.cell j hj⟩, fun a ha => by cases ha; exact Nat.le_refl _, fun j hj => ?_⟩
  obtain ⟨a, b, es, c⟩ := h3 j hj
  refine ⟨a, b, es, ?_⟩
  have e : gt ((List.range n).map F) j = F j := by simp [gt, hj]
  rw [e]
  exact c.mono (Nat.le_succ g)
theorem NO.mono {B B' : Nat} {w : World} {K E : Nat} {l : List (List Int)} {p : Option Addr} {n : Nat} {hs : List Hdr} (h : NO B w K E l p n hs) (hB : B' ≤ B) : NO B' w K E l p n hs :=
  ⟨h.el, h.tl, h.hl, fun a ha => Nat.le_trans hB (h.fr a ha), fun j hj => let ⟨a, b, es, c⟩ := h.ev j hj; ⟨a, b, es, c.mono hB⟩⟩
end Go.Proofs.YtifebbacnlhggaaGreatDoor
/-
  A polynomial of the reference in a row of them (out of Oq).
-/
namespace Go.Proofs.YtifebbacnlhggaaGreatDoor
open Go.RowKit
set_option linter.unusedVariables false
set_option linter.unusedSimpArgs false

theorem info_refP : (Tryz.prog.info? 44).map (fun i => (i.zero, i.size, i.bytes)) = some (some (.slice none 0 0), 1, 24) := by kernel_rfl
/-- A polynomial of the reference among them. -/
def EY (N D : Nat) (w : World) (B T : Nat) (zs : List Int) (h : Hdr) : Prop :=
  ∃ fs, PR w N h.p h.n h.c fs zs ∧ h.c = h.n ∧ tlen zs = h.n ∧ h.n ≤ D ∧ (∀ a, h.p = some a → 0 < h.n → B ≤ a.block ∧ a.block < T) ∧ ∀ j, j < h.n → 0 < (ge fs j).n → ∀ a, (ge fs j).p = some a → B ≤ a.block ∧ a.block < T
theorem lasts_EY (N D : Nat) : LastsH (EY N D) := ⟨fun {w w' B T z h row} he hT hg hr => by
    obtain ⟨fs, k, e1, e2, h1, h2, h3⟩ := he
    refine ⟨fs, ⟨k.el, k.zl, k.cap, k.bnd, fun hx => (k.pl.same fun a ha hlt => hg.block a.block hlt fun e => ?_) hx, fun j hj => (lasts_RE N).grown (k.ev j hj) hg fun hn a ha e => ?_⟩, e1, e2, h1, h2, h3⟩
    · have h4 := h2 a ha (by rw [← k.el]; exact hx)
      have h5 := hr a.block e.symm
      omega
    · have h4 := h3 j hj hn a ha
      have h5 := hr a.block e.symm
      omega, fun {w B T B' T' z h} he hB hT => by
    obtain ⟨fs, k, e1, e2, h1, h2, h3⟩ := he
    exact ⟨fs, k, e1, e2, h1, fun a ha hn => by have := h2 a ha hn; omega, fun j hj hn a ha => by have := h3 j hj hn a ha; omega⟩⟩
theorem ey_of_from {N D : Nat} {w w' : World} {q : Option Addr} {m : Nat} {fs : List Ent} {zs : List Int} (h : PR w' N q m m fs zs) (h1 : Go.Proofs.YtifebbacnlhggaaGreatDoor.From w.heap.size q) (ht : tlen zs = m) (h2 : ∀ j, j < m → 0 < (ge fs j).n → Go.Proofs.YtifebbacnlhggaaGreatDoor.From w.heap.size (ge fs j).p) (hm : m ≤ D) : EY N D w' w.heap.size w'.heap.size zs ⟨q, m, m⟩ := by
  refine ⟨fs, h, rfl, ht, hm, fun a ha hn => ⟨h1 a ha, ?_⟩, fun j hj hn a ha => ⟨h2 j hj hn a ha, (lasts_RE N).lt (h.ev j hj) hn a ha⟩⟩
  obtain ⟨b, o, hp, hlt⟩ := h.pl.lt (by rw [h.el]; exact hn)
  simp only at ha
  rw [hp] at ha
  cases ha
  exact hlt
theorem take_map_snoc {α β : Type} [Inhabited α] (f : α → β) (l : List α) (j : Nat) (h : j < l.length) : (l.take (j + 1)).map f = (l.take j).map f ++ [f (gt l j)] := by
  rw [List.take_succ_eq_append_getElem h, List.map_append]
  simp [gt, h]
end Go.Proofs.YtifebbacnlhggaaGreatDoor
/-
  The reference's operators: Trim, At, From.
-/
namespace Go.Proofs.YtifebbacnlhggaaGreatDoor
open Go.RowKit
set_option linter.unusedVariables false
set_option linter.unusedSimpArgs false

set_option maxHeartbeats 2000000 in
set_option maxRecDepth 100000 in
/-- ashlarref8.Trim. -/
theorem rTrim8_any {w : World} {B T N E D : Nat} {zss : List (List Int)} {h : Hdr} (H : HR D (EY N E) w B T zss h) (hT : T ≤ w.heap.size) (hD : D ≤ 1000000) (hE : E ≤ 1000000) :
    Calls Tryz.prog 58 #[.slice h.p h.n h.c] w fun e w' => e = .returned (.slice h.p (olen zss) (olen zss)) ∧ Below w.heap.size w w' := by
  obtain ⟨hs, k⟩ := H
  have HX : Hid (HRow D (EY N E) w B T zss h hs ∧ T ≤ w.heap.size) := ⟨k, hT⟩
  have hn : h.n ≤ D := k.few
  have hcap : h.n ≤ h.c := k.cap
  have hbnd : h.c ≤ maxLen := k.bnd
  have hpn : h.p = none → h.c = 0 := k.pn
  have HL : Hid (zss.length = h.n) := k.tl
  obtain ⟨p, n, nc⟩ := h
  simp only at hn hcap hbnd hpn HL ⊢
  have hbnd' := hbnd
  unfold maxLen at hbnd'
  clear k hT
  go_enter Tryz.func58, Tryz.ntmps58
  go_wp2
  go_loopw [3] (fun nv wr => ∃ k : Nat, k ≤ n ∧ nv = .int .i64 k ∧ Hid ((∀ j, k ≤ j → tlen (gt zss j) = 0) ∧ Below w.heap.size w wr)) (fun nv _ => (intOf nv).toNat)
  case atStart => exact ⟨n, Nat.le_refl _, by go_num, fun j hj => by rw [gt_over0 _ _ (by have := HL.out; omega)]; rfl, Below.refl _ _⟩
  case round =>
    obtain ⟨k, hk, rfl, H⟩ := hrel
    rcases Nat.eq_zero_or_pos k with h0 | h0
    · subst h0
      have HT : Hid (olen zss = 0) := olen_eq zss 0 (fun j _ => H.out.1 j (Nat.zero_le _)) (.inl rfl)
      rcases p with _ | a
      · obtain rfl := hpn rfl
        go_wp2
        go_ret
        exact ⟨by rw [HT.out]; rfl, H.out.2⟩
      · go_wp2
        go_ret
        exact ⟨by rw [HT.out]; rfl, H.out.2⟩
    · obtain ⟨i, rfl⟩ : ∃ i, k = i + 1 := ⟨k - 1, by omega⟩
      obtain ⟨H1, H2⟩ := H.out
      have HH : Hid ((∀ j, i + 1 ≤ j → tlen (gt zss j) = 0) ∧ Below w.heap.size w wr) := ⟨H1, H2⟩
      obtain ⟨b, o, hp, hc⟩ := HX.out.1.hl (by rw [HX.out.1.el]; show 0 < n; omega)
      simp only at hp
      subst hp
      have c0 := hc i (by rw [HX.out.1.el]; show i < n; omega)
      have c1 : wr.cell? ⟨b, o + i, none⟩ = some (gh hs i).val := by rw [H2.cell (block_lt_of_cell c0)]; exact c0
      have hE2 : Hid (tlen (gt zss i) = (gh hs i).n) := by obtain ⟨fs, -, -, h2, -⟩ := HX.out.1.ev i (by show i < n; omega); exact h2
      generalize gh hs i = hd at c1 hE2
      obtain ⟨p2, n2, nc2⟩ := hd
      simp only [Hdr.val] at c1 hE2
      have v1 : wrap64 ((i : Int) + 1 - 1) = (i : Int) := by unfold wrap64; omega
      have hlt : (i : Int) < (n : Int) := by omega
      clear H H1 H2 hc c0
      rcases Nat.eq_zero_or_pos n2 with hz | hz
      · subst hz
        go_wp2
        go_roundw
        case rel => exact ⟨i, by omega, by go_num, fun j hj => by
          rcases Nat.lt_or_ge i j with h | h
          · exact HH.out.1 j h
          · have : j = i := by omega
            subst this; exact hE2.out, HH.out.2⟩
        case measure => simp [intOf]
      · have HT : Hid (olen zss = i + 1) := olen_eq zss (i + 1) HH.out.1 (.inr (by show ¬ tlen (gt zss i) = 0; rw [hE2.out]; omega))
        have d1 : ((n2 : Int) == 0) = false := by rw [beq_eq_false_iff_ne]; omega
        have d2 : ¬ (n2 : Int) = 0 := by omega
        go_wp2
        go_ret
        exact ⟨by rw [HT.out]; rfl, HH.out.2⟩
/-- An operator of the reference that is answered. -/
def OrP (D : Nat) (l : List (List Int)) (N E : Nat) (w : World) (e : Ending) (w' : World) : Prop :=
  ∃ p, e = .returned (.slice p (olen l) (olen l)) ∧ HR D (EY N E) w' w.heap.size w'.heap.size (otr l) ⟨p, olen l, olen l⟩ ∧ Below w.heap.size w w'
/-- A list that has grown, trimmed. -/
theorem trim_end {w wr w1 : World} {D N E : Nat} {q : Option Addr} {cap : Nat} {hs : List Hdr} {l : List (List Int)} (h : HRow D (EY N E) wr w.heap.size wr.heap.size l ⟨q, hs.length, cap⟩ hs) (hb : Below w.heap.size w wr) (hb1 : Below wr.heap.size wr w1) :
    OrP D l N E w (.returned (.slice q (olen l) (olen l))) w1 := by
  have hol := olen_le l
  have htl := h.tl
  refine ⟨q, rfl, ?_, bnext' hb hb1⟩
  have h1 := h.cut (olen l) (by simp only at htl ⊢; omega)
  have h2 : HR D (EY N E) wr w.heap.size wr.heap.size (otr l) ⟨q, olen l, olen l⟩ := ⟨_, h1⟩
  exact (lasts_HR (lasts_EY N E)).wide ((lasts_HR (lasts_EY N E)).below h2 (Nat.le_refl _) hb1) (Nat.le_refl _) hb1.size
end Go.Proofs.YtifebbacnlhggaaGreatDoor
/-
  The reference's operators: From, Add, Scale.
-/
namespace Go.Proofs.YtifebbacnlhggaaGreatDoor
open Go.RowKit
set_option linter.unusedVariables false
set_option linter.unusedSimpArgs false

set_option maxHeartbeats 4000000 in
set_option maxRecDepth 100000 in
/-- ashlarref8.From. -/
theorem rFrom8_any {w : World} {B T K E D : Nat} {zss : List (List Int)} {h : Hdr} (H : HR D (EZ K E) w B T zss h) (hT : T ≤ w.heap.size) (hD : D ≤ 1000) (hE : E ≤ 1000) (hK : K ≤ 400) :
    Calls Tryz.prog 26 #[.slice h.p h.n h.c] w (OrP D (zss.map tr) (2 * K) E w) := by
  obtain ⟨I0, hi, hzz⟩ := Option.map_eq_some_iff.1 info_refP
  simp only [Prod.mk.injEq] at hzz
  obtain ⟨hz0, hz1, hz2⟩ := hzz
  have HI : Hid (Tryz.prog.info? 44 = some I0 ∧ I0.zero = some (.slice none 0 0) ∧ I0.size = 1 ∧ I0.bytes = 24) := ⟨hi, hz0, hz1, hz2⟩
  clear hi hz0 hz1 hz2
  obtain ⟨hs, k⟩ := H
  have HX : Hid (HRow D (EZ K E) w B T zss h hs ∧ T ≤ w.heap.size) := ⟨k, hT⟩
  have hn : h.n ≤ D := k.few
  have HL : Hid (zss.length = h.n) := k.tl
  obtain ⟨p, n, nc⟩ := h
  simp only at hn HL ⊢
  clear k hT
  go_enter Tryz.func26, Tryz.ntmps26
  go_wp2_with fail
  go_loopw [3, 4] (fun qv iv wr => ∃ (k : Nat) (ls : List Hdr), k ≤ n ∧ iv = .int .i64 k ∧ Hid (ls.length = k ∧ LH w.heap.size 44 (EY (2 * K) E) wr qv ls ((zss.take k).map tr) ∧ Below w.heap.size w wr)) (fun _ iv _ => n - (intOf iv).toNat)
  case atStart => exact ⟨0, [], Nat.zero_le _, by go_num, rfl, by rw [List.take_zero]; exact LH.nil _ _ _ _, Below.refl _ _⟩
  case round =>
    obtain ⟨k, ls, hk, rfl, G⟩ := hrel
    rcases Nat.lt_or_ge k n with hlt | hge
    · have g4 := G.out.2.2
      obtain ⟨b, o, hp, hc⟩ := HX.out.1.hl (by rw [HX.out.1.el]; show 0 < n; omega)
      simp only at hp
      subst hp
      have c0 := hc k (by rw [HX.out.1.el]; exact hlt)
      have c1 : wr.cell? ⟨b, o + k, none⟩ = some (gh hs k).val := by rw [g4.cell (block_lt_of_cell c0)]; exact c0
      have hE2 := (lasts_EZ K E).below (HX.out.1.ev k hlt) HX.out.2 g4
      generalize gh hs k = hd at c1 hE2
      obtain ⟨p2, n2, nc2⟩ := hd
      simp only [Hdr.val] at c1
      obtain ⟨es2, hP2, hd3, -, -⟩ := hE2
      simp only at hP2 hd3
      have i1 : (k : Int) < (n : Int) := by omega
      have hcall := rpFrom_new hP2 (by omega) hK
      have hlen : Hid (tlen (gt zss k) ≤ E) := by have h1 := tlen_le (gt zss k); have h2 := hP2.zl; show _ ≤ _; omega
      clear hc c0 hP2 g4
      go_wp2_with fail
      go_fit hcall
      rintro e w1 ⟨q, m, fs, rfl, hR1, hF1, ht1, hF2, hb1⟩
      have HE : Hid (EY (2 * K) E w1 wr.heap.size w1.heap.size (tr (gt zss k)) ⟨q, m, m⟩) := ey_of_from hR1 hF1 ht1 hF2 (by rw [← ht1, tlen_tr]; exact hlen.out)
      clear c1 hR1 hF1 hF2 hcall
      obtain ⟨hi, hz0, hz1, hz2⟩ := HI.out
      have hown0 := own_below G.out.2.1.own hb1
      rw [G.out.1] at hown0
      have HO : Hid (w1.ownsRow w.heap.size 44 1 u3 k (ls.map Hdr.val)) := hown0
      have hsz : w.heap.size ≤ w1.heap.size := Nat.le_trans G.out.2.2.size hb1.size
      clear hown0
      go_wp2_with (refine wpList_append_lies _ rfl _ _ 57 rfl w.heap.size 44 I0 (.slice none 0 0) 1 24 Tryz.underlying57 hi hz0 hz1 hz2 rfl (by decide) u3 k (ls.map Hdr.val) rfl (HO.out.alloc _) ⟨w1.heap.size, 0, none⟩ 1 1 [.slice q m m] rfl rfl ?_ (fun x hx => by simp at hx; subst hx; rfl) (by decide) (by unfold maxLen; omega) (by omega) (by simp; omega) _ rfl ?_; exact World.news_of_block (heap_alloc_new w1 _); intro g cap w3 hown3 hgrow3 hat3 hlt3; have hB3 : Below w.heap.size w w3 := ((bnext' G.out.2.2 hb1).alloc hsz _).grown hgrow3 (by simp; omega) (fun q hq => (HO.out.lt q hq).1); have HA : Hid (LH w.heap.size 44 (EY (2 * K) E) w3 (.slice (some ⟨g, 0, none⟩) (k + 1) cap) (ls ++ [⟨q, m, m⟩]) ((zss.take k).map tr ++ [tr (gt zss k)])) := LH.app (lasts_EY (2 * K) E) G.out.1 G.out.2.1 hb1 HE.out (Nat.le_refl _) (Nat.le_refl _) G.out.2.2.size hown3 hgrow3 hat3; clear hown3 hgrow3 hat3)
      refine ⟨⟨k + 1, ls ++ [⟨q, m, m⟩], by omega, by go_num, by have := G.out.1; simp; omega, by rw [take_map_snoc tr zss k (by have := HL.out; omega)]; exact HA.out, hB3⟩, by simp [intOf]; omega⟩
    · obtain rfl : k = n := by omega
      obtain ⟨hel, hLR, hB⟩ := G.out
      rw [List.take_of_length_le (by have := HL.out; omega)] at hLR
      obtain ⟨q, cap, hv, hRow⟩ := hLR.row (lasts_EY (2 * K) E) (D := D) (by omega)
      subst hv
      have ht2 := rTrim8_any ⟨_, hRow⟩ (Nat.le_refl _) (by omega) (by omega)
      have HRW : Hid (HRow D (EY (2 * K) E) wr w.heap.size wr.heap.size (zss.map tr) ⟨q, ls.length, cap⟩ ls ∧ Below w.heap.size w wr) := ⟨hRow, hB⟩
      simp only at ht2
      rw [hel] at ht2 ⊢
      clear hRow hLR hB G
      go_wp2_with fail
      go_fit ht2
      rintro e w1 ⟨rfl, hb1⟩
      have HR' : Hid (OrP D (zss.map tr) (2 * K) E w (.returned (.slice q (olen (zss.map tr)) (olen (zss.map tr)))) w1) := trim_end HRW.out.1 HRW.out.2 hb1
      clear hb1 ht2
      generalize olen (zss.map tr) = m at *
      go_wp2
      go_ret
      exact HR'.out
theorem pr_bdk {w : World} {K : Nat} {p : Option Addr} {n nc : Nat} {es : List Ent} {zs : List Int} (h : PR w (2 * K) p n nc es zs) (i : Nat) : ((gx zs i).natAbs : Int) < pw K := by
  have e : pd (2 * K) = pw K := by unfold pd pw; rw [Int.pow_mul]; rfl
  rcases Nat.lt_or_ge i n with hi | hi
  · rw [← e]
    exact (h.ev i hi).1.bd
  · have h0 : gx zs i = 0 := by simp [gx, h.zl, hi]
    rw [h0]
    exact pw_pos K
theorem mulp_le (zs ys : List Int) : (mulp zs ys).length ≤ zs.length + ys.length := by
  unfold mulp
  split
  · simp
  · rw [length_mulz]; omega
end Go.Proofs.YtifebbacnlhggaaGreatDoor
