/-
  ashlarlaw3.few.
-/
import Derived.Test.YtejnhpjejcpekaaGreatDoorVbDaCxRbCyViVuWxUpUq
import Derived.Test.YtejnhpjejcpekaaGreatDoorKdRzCwDj
import Derived.Test.YtejnhpjejcpekaaGreatDoorCuOaOfJpDhFr
import Derived.Test.YtejnhpjejcpekaaGreatDoorRfRhCqRrRw
import Derived.Test.YtejnhpjejcpekaaGreatDoorUyInU0TaTbTc
import Derived.Test.YtejnhpjejcpekaaGreatDoorDfVlVsVtVvVnVr
import Derived.Test.YtejnhpjejcpekaaGreatDoorVaVgRo
import Derived.Test.YtejnhpjejcpekaaGreatDoorUbUcUdOwRaWmBe
import Derived.Test.YtejnhpjejcpekaaGreatDoorQhGfGgUnWfUuUxUtUvUw
import Derived.Deep.DeepFit
import Derived.Test.YtejnhpjejcpekaaGreatDoorDnU7W1U9
import Derived.StillTailTactics
import Derived.Deep.RegionHeld3
import Derived.Test.YtejnhpjejcpekaaGreatDoorVqDcUmUoDmDv
import Derived.Test.YtejnhpjejcpekaaGreatDoorUgUjBsLeUkUiWiWjUlDdReRx
import Derived.RangeFuncNested
import Derived.RangeFuncBound
import Derived.RangeFuncCalls
import Derived.RangeFuncLeaves
import Derived.Shelf.Abstract
import Derived.Shelf.RegionOpen
import Derived.WalkKit
import Derived.OwnWalkIn
import Derived.TacticsInMore
import Derived.LoopNIn
import Derived.LoopIn
import Derived.Test.YtejnhpjejcpekaaGreatDoorW0U4U5WvUh
import Derived.Test.YtejnhpjejcpekaaGreatDoorRjRgRk
import Derived.Test.YtejnhpjejcpekaaGreatDoorRmRpDkDlDbRi
import Derived.Test.YtejnhpjejcpekaaGreatDoorRvCzTeZaYa
namespace Go.Proofs.YtejnhpjejcpekaaGreatDoor
open Go.RowKit
set_option linter.unusedVariables false
set_option linter.unusedSimpArgs false
set_option maxHeartbeats 8000000
theorem pz_lit {W : World} {g : Nat} {e : Ent} (h0 : W.cell? ⟨g, 0, none⟩ = some (.bool e.s)) (h1 : W.cell? ⟨g, 1, none⟩ = some (.slice e.p e.n e.c)) (hr : RawE W e) : PZ W (some ⟨g, 0, none⟩) 1 1 [e] :=
  ⟨rfl, Nat.le_refl _, by decide, nofun, fun _ => ⟨g, 0, rfl, fun j hj => by
    obtain rfl : j = 0 := by simp at hj; omega
    exact ⟨h0, h1⟩⟩, fun j hj => by
    obtain rfl : j = 0 := by omega
    exact hr⟩
theorem cells_lit (w : World) (x y : Value) (t : Nat) : (w.alloc (.cells #[x, y] t)).cell? ⟨w.heap.size, 0, none⟩ = some x ∧ (w.alloc (.cells #[x, y] t)).cell? ⟨w.heap.size, 1, none⟩ = some y := ⟨by simp [go_sem], by simp [go_sem]⟩
theorem rFrom_e {w : World} {K : Nat} {z : Int} {e : Ent} (h : EV w K z e) :
    Calls Tryz.prog 12 #[.agg #[.bool e.s, .slice e.p e.n e.c]] w fun r w' => ∃ u : Ent, r = .returned (.agg #[.bool u.s, .slice u.p u.n u.c]) ∧ RE w' (2 * K) z u ∧ Go.Proofs.YtejnhpjejcpekaaGreatDoor.From w.heap.size u.p ∧ Below w.heap.size w w' := by
  obtain ⟨xs, h1, h2, h3⟩ := h
  refine (From_ansF e.s e.p e.n e.c xs w h1).mono ?_
  rintro r w1 ⟨s, p, n, d, rfl, h4, h5, h6, h7, h8⟩
  exact ⟨⟨s, p, n, n⟩, rfl, ⟨⟨d, h4, by rw [h5, h2], by show n ≤ _; omega⟩, rfl⟩, h7, h8⟩
section
variable (L : Int) (b : List Int) (m K0 : Nat) (a : Nat → Int)
end
structure PQ (w wr : World) (g gp M n KL s : Nat) (us : List Ent) (F : Nat → Int) (L : Int) (l f : Ent) (N : Nat → Prop) : Prop where
  row : RW wr g 26 us
  len : us.length = n
  ev : ∀ t, t < n → EV wr M (F t) (ge us t) ∧ (0 < (ge us t).n → Off g (ge us t).p ∧ Off gp (ge us t).p)
  nv : ∀ t, t < n → N t → NV w.heap.size wr M (F t) (ge us t)
  lb : Bx wr w.heap.size (.bool l.s) (.slice l.p l.n l.c)
  le : EV wr KL L l
  lo : 0 < l.n → Off g l.p ∧ Off gp l.p
  pb : Bx wr gp (.bool f.s) (.slice f.p f.n f.c)
  pe : EV wr M (L ^ s) f
  po : 0 < f.n → Off g f.p
  bw : Below w.heap.size w wr
  lt : w.heap.size < g ∧ g < gp
section
variable {w wr w' : World} {g gp M n KL s : Nat} {us : List Ent} {F G : Nat → Int} {L : Int} {l f u : Ent} {N N' : Nat → Prop}
theorem PQ.below (h : PQ w wr g gp M n KL s us F L l f N) (hb : Below wr.heap.size wr w') : PQ w w' g gp M n KL s us F L l f N :=
  ⟨h.row.below hb h.row.lt, h.len, fun t ht => ⟨(h.ev t ht).1.below hb, (h.ev t ht).2⟩, fun t ht hN => (h.nv t ht hN).below hb, h.lb.later hb, h.le.below hb, h.lo, h.pb.later hb, h.pe.below hb, h.po, bnext' h.bw hb, h.lt⟩
theorem PQ.same (h : PQ w wr g gp M n KL s us F L l f N) (hG : ∀ t, t < n → G t = F t) (hN : ∀ t, t < n → N' t → N t) : PQ w wr g gp M n KL s us G L l f N' :=
  ⟨h.row, h.len, fun t ht => by rw [hG t ht]; exact h.ev t ht, fun t ht hq => by rw [hG t ht]; exact h.nv t ht (hN t ht hq), h.lb, h.le, h.lo, h.pb, h.pe, h.po, h.bw, h.lt⟩
theorem PQ.set (h : PQ w wr g gp M n KL s us F L l f N) (t : Nat) (e : Ent) (ht : t < n) (hv : EV wr M (G t) e) (hnv : N' t → NV w.heap.size wr M (G t) e) (ho : 0 < e.n → Off g e.p ∧ Off gp e.p) (hG : ∀ r, r < n → r ≠ t → G r = F r) (hN : ∀ r, r < n → r ≠ t → N' r → N r) :
    PQ w ((wr.setCell ⟨g, t * 2, none⟩ (.bool e.s)).setCell ⟨g, t * 2 + 1, none⟩ (.slice e.p e.n e.c)) g gp M n KL s (us.set t e) G L l f N' := by
  have hl := h.len
  have hlt := h.lt
  refine ⟨h.row.set t e (by omega), by simpa using hl, fun r hr => ?_, fun r hr hq => ?_, Bx_any h.lb (by omega), h.le.set2 fun h0 => (h.lo h0).1, h.lo, Bx_any h.pb (by omega), h.pe.set2 h.po, h.po, Bel_st (Bel_st h.bw (by show w.heap.size ≤ g; omega)) (by show w.heap.size ≤ g; omega), hlt⟩
  · by_cases he : r = t
    · subst he
      rw [ge_set_same _ _ _ (by omega)]
      exact ⟨hv.set2 fun h0 => (ho h0).1, ho⟩
    · rw [ge_set_other _ _ _ _ he, hG r hr he]
      exact ⟨(h.ev r hr).1.set2 fun h0 => ((h.ev r hr).2 h0).1, (h.ev r hr).2⟩
  · by_cases he : r = t
    · subst he
      rw [ge_set_same _ _ _ (by omega)]
      exact (hnv hq).set2o fun h0 => (ho h0).1
    · rw [ge_set_other _ _ _ _ he, hG r hr he]
      exact (h.nv r hr (hN r hr he hq)).set2o fun h0 => ((h.ev r hr).2 h0).1
end
structure Q3 (w wr : World) (g gp g2 M m R KL k k1 : Nat) (us vs : List Ent) (F G : Nat → Int) (L : Int) (l f : Ent) : Prop where
  row : RW wr g 26 us
  len : m ≤ us.length
  nv : ∀ t, t < m → NV w.heap.size wr M (F t) (ge us t) ∧ (0 < (ge us t).n → Off g2 (ge us t).p ∧ Off gp (ge us t).p)
  row2 : RW wr g2 26 vs
  len2 : vs.length = R
  ev2 : ∀ i, i < R → EV wr M (G i) (ge vs i) ∧ (0 < (ge vs i).n → Off g2 (ge vs i).p ∧ Off gp (ge vs i).p)
  nv2 : ∀ i, i < k → i < R → NV w.heap.size wr M (G i) (ge vs i)
  lb : Bx wr w.heap.size (.bool l.s) (.slice l.p l.n l.c)
  le : EV wr KL L l
  lo : 0 < l.n → Off g2 l.p ∧ Off gp l.p
  pb : Bx wr gp (.bool f.s) (.slice f.p f.n f.c)
  pe : EV wr M (L ^ k1) f
  po : 0 < f.n → Off g2 f.p
  bw : Below w.heap.size w wr
  lt : w.heap.size < g ∧ g < gp ∧ gp < g2
section
variable {w wr w' : World} {g gp g2 M m R KL k k1 : Nat} {us vs : List Ent} {F G H : Nat → Int} {L : Int} {l f u : Ent}
theorem Q3.below (h : Q3 w wr g gp g2 M m R KL k k1 us vs F G L l f) (hb : Below wr.heap.size wr w') : Q3 w w' g gp g2 M m R KL k k1 us vs F G L l f :=
  ⟨h.row.below hb h.row.lt, h.len, fun t ht => ⟨(h.nv t ht).1.below hb, (h.nv t ht).2⟩, h.row2.below hb h.row2.lt, h.len2, fun t ht => ⟨(h.ev2 t ht).1.below hb, (h.ev2 t ht).2⟩, fun t hk ht => (h.nv2 t hk ht).below hb, h.lb.later hb, h.le.below hb, h.lo, h.pb.later hb, h.pe.below hb, h.po, bnext' h.bw hb, h.lt⟩
theorem Q3.set (h : Q3 w wr g gp g2 M m R KL k k1 us vs F G L l f) (e : Ent) (hk : k < R) (hv : NV w.heap.size wr M (H k) e) (hM : M ≤ 1000) (ho : 0 < e.n → Off g2 e.p ∧ Off gp e.p) (hG : ∀ r, r ≠ k → H r = G r) :
    Q3 w ((wr.setCell ⟨g2, k * 2, none⟩ (.bool e.s)).setCell ⟨g2, k * 2 + 1, none⟩ (.slice e.p e.n e.c)) g gp g2 M m R KL (k + 1) k1 us (vs.set k e) F H L l f := by
  have hl := h.len2
  have hlt := h.lt
  refine ⟨(h.row.set_other _ _ (by show g ≠ g2; omega)).set_other _ _ (by show g ≠ g2; omega), h.len, fun t ht => ⟨(h.nv t ht).1.set2o fun h0 => ((h.nv t ht).2 h0).1, (h.nv t ht).2⟩, h.row2.set k e (by omega), by simpa using hl, fun r hr => ?_, fun r hr1 hr => ?_, Bx_any h.lb (by omega), h.le.set2 fun h0 => (h.lo h0).1, h.lo, Bx_any h.pb (by omega), h.pe.set2 h.po, h.po, Bel_st (Bel_st h.bw (by show w.heap.size ≤ g2; omega)) (by show w.heap.size ≤ g2; omega), hlt⟩
  · by_cases he : r = k
    · subst he
      rw [ge_set_same _ _ _ (by omega)]
      exact ⟨(hv.ev hM).set2 fun h0 => (ho h0).1, ho⟩
    · rw [ge_set_other _ _ _ _ he, hG r he]
      exact ⟨(h.ev2 r hr).1.set2 fun h0 => ((h.ev2 r hr).2 h0).1, (h.ev2 r hr).2⟩
  · by_cases he : r = k
    · subst he
      rw [ge_set_same _ _ _ (by omega)]
      exact hv.set2o fun h0 => (ho h0).1
    · rw [ge_set_other _ _ _ _ he, hG r he]
      exact (h.nv2 r (by omega) hr).set2o fun h0 => ((h.ev2 r hr).2 h0).1
end
structure PsR (xs ys qz rz : List Int) : Prop where
  eq : tr (xs.map (gx ys (ys.length - 1) ^ (xs.length + 1 - ys.length) * ·)) = tr (pz (· + ·) (mulp qz ys) rz)
  lt : rz.length < ys.length
  qn : qz.length ≤ xs.length
theorem PN.pb {B : Nat} {w : World} {K : Nat} {p : Option Addr} {n : Nat} {es : List Ent} {zs : List Int} (h : PN B w K p n es zs) (hK : K ≤ 1000) : PB B w K p n es zs :=
  ⟨h.el, h.zl, h.nrm, h.pl, h.fr, fun j hj => (h.ev j hj).en hK⟩
theorem gx_set_ne' (Z : List Int) (i j : Nat) (v : Int) (h : i ≠ j) : gx (Z.set i v) j = gx Z j := by
  unfold gx
  rw [List.getD_eq_getElem?_getD, List.getD_eq_getElem?_getD, List.getElem?_set_ne h]
def Res (m : Int) (xs : List Int) : Prop := ∀ j, 0 ≤ gx xs j ∧ gx xs j < m
theorem Res.set {m : Int} {xs : List Int} (h : Res m xs) (i : Nat) (v : Int) (h0 : 0 ≤ v) (h1 : v < m) : Res m (xs.set i v) := fun j => by
  by_cases e : i = j
  · subst e
    rcases Nat.lt_or_ge i xs.length with hl | hl
    · rw [gx_mem _ _ (by rw [List.length_set]; exact hl)]
      simp [h0, h1]
    · have := h i
      rw [gx_past xs xs.length (Nat.le_refl _) i hl] at this
      rw [gx_past (xs.set i v) xs.length (by simp) i hl]
      exact this
  · rw [gx_set_ne' _ _ _ _ e]
    exact h j
theorem Res.take {m : Int} {xs : List Int} (h : Res m xs) (n : Nat) : Res m (xs.take n) := fun j => by
  rcases Nat.lt_or_ge j n with hj | hj
  · rw [gx_take _ _ _ hj]; exact h j
  · have h0 := h xs.length
    rw [gx_past xs xs.length (Nat.le_refl _) _ (Nat.le_refl _)] at h0
    rw [gx_past (xs.take n) n (by simp; omega) j hj]
    exact h0
open Go.RowKit Go.Shelf
attribute [local go_sem] Oper.semAt_some
attribute [local go_sem] Oper.semAt_some
theorem rIs_e {B : Nat} {w : World} {K N : Nat} {z : Int} {e f : Ent} (h : NV B w K z e) (hK : K ≤ 1000) (k : RE w N z f) (hN : N ≤ 1000) :
    Calls Tryz.prog 52 #[.agg #[.bool e.s, .slice e.p e.n e.c], .agg #[.bool f.s, .slice f.p f.n f.c]] w fun r w' => r = .returned (.bool true) ∧ Below w.heap.size w w' := by
  obtain ⟨xs, h1, h2, h3⟩ := h
  obtain ⟨⟨ds, k1, k2, k3⟩, k4⟩ := k
  rw [h2, k4]
  exact rIs_any h1 (by omega) k1.len (by omega) k1.rd k1.u k1.nrm k1.sg k2
theorem NV.drew {B : Nat} {w : World} {K : Nat} {z : Int} {e : Ent} (h : NV B w K z e) : NV B w.drew K z e := by
  obtain ⟨xs, h1, h2⟩ := h
  exact ⟨xs, h1.drew, h2⟩
structure Pv (w wr : World) (g : Nat) (s : Bool) (p : Option Addr) (n : Nat) (ds : List Int) (s1 : Bool) (p1 : Option Addr) (n1 : Nat) (d1 : List Int) : Prop where
  ba : Bx wr w.heap.size (.bool s) (.slice p n n)
  br : Bx wr (w.heap.size + 1) (.bool false) (.slice none 0 0)
  bp : Bx wr g (.bool s1) (.slice p1 n1 n1)
  ra : RN wr s p n ds
  r1 : RN wr s1 p1 n1 d1
  hg : w.heap.size + 2 ≤ g
  f1 : Go.Proofs.YtejnhpjejcpekaaGreatDoor.From (w.heap.size + 2) p1
  bel : Below w.heap.size w wr
theorem Pv.later {w wr w' : World} {g : Nat} {s : Bool} {p : Option Addr} {n : Nat} {ds : List Int} {s1 : Bool} {p1 : Option Addr} {n1 : Nat} {d1 : List Int} (h : Pv w wr g s p n ds s1 p1 n1 d1) (hb : Below wr.heap.size wr w') : Pv w w' g s p n ds s1 p1 n1 d1 :=
  ⟨h.ba.later hb, h.br.later hb, h.bp.later hb, h.ra.below hb, h.r1.below hb, h.hg, h.f1, h.bel.trans (hb.mono h.bel.size)⟩
end Go.Proofs.YtejnhpjejcpekaaGreatDoor
