/-
  upoly.unpack.
-/
import Derived.Test.YtakfimhpnpapdaaGreatDoorCyViVuPrPs
import Derived.Test.YtakfimhpnpapdaaGreatDoorUy
import Derived.Deep.CutRange
namespace Go.Proofs.YtakfimhpnpapdaaGreatDoor
open Go.RowKit
set_option linter.unusedVariables false
set_option linter.unusedSimpArgs false

theorem pkf_neg (W : Nat) (d : Nat → Int) : ∀ k, pkf W (fun j => -d j) k = -pkf W d k
  | 0 => rfl
  | k + 1 => by rw [pkf, pkf, pkf_neg W d k, Int.neg_mul]; omega
/-- The entries with a's sign taken off. -/
def sgd (s : Bool) (d : Nat → Int) (j : Nat) : Int := if s then -d j else d j
theorem sgd_abs (s : Bool) (d : Nat → Int) (j : Nat) : (sgd s d j).natAbs = (d j).natAbs := by cases s <;> simp [sgd]
theorem pkf_sgd (W : Nat) (s : Bool) (d : Nat → Int) (k : Nat) : pkf W (sgd s d) k = if s then -pkf W d k else pkf W d k := by
  cases s
  · rfl
  · exact pkf_neg W d k
/-- A number whose memory is neither g7 nor g10. -/
def Sf (g7 g10 : Nat) (e : Ent) : Prop := 0 < e.n → Off g7 e.p ∧ Off g10 e.p
/-- unpack behind i entries. -/
structure UN (w wr : World) (g3 g7 g8 g9 g10 W n i M : Nat) (u one base cr : Ent) (xs : List Int) (d : Nat → Int) (us : List Ent) (c : Int) : Prop where
  b3 : Bx wr g3 (.bool u.s) (.slice u.p u.n u.c)
  a3 : AI wr u.p u.n u.c xs
  r7 : Row2 wr g7 29 us
  l7 : us.length = n
  b8 : Bx wr g8 (.bool one.s) (.slice one.p one.n one.c)
  v8 : EV wr 2 1 one
  b9 : Bx wr g9 (.bool base.s) (.slice base.p base.n base.c)
  v9 : EV wr (W + 1) (pw W) base
  b10 : Bx wr g10 (.bool cr.s) (.slice cr.p cr.n cr.c)
  v10 : EV wr 2 c cr
  c01 : c = 0 ∨ c = 1
  s3 : Sf g7 g10 u
  s8 : Sf g7 g10 one
  s9 : Sf g7 g10 base
  s10 : Sf g7 g10 cr
  q : ∀ j, j < i → NV w.heap.size wr M (d j) (ge us j) ∧ Sf g7 g10 (ge us j)
  gs : w.heap.size ≤ g3 ∧ w.heap.size ≤ g7 ∧ g7 < wr.heap.size ∧ g10 < wr.heap.size ∧ w.heap.size ≤ g10 ∧ g3 ≠ g7 ∧ g3 ≠ g10 ∧ g7 ≠ g10 ∧ g8 ≠ g7 ∧ g8 ≠ g10 ∧ g9 ≠ g7 ∧ g9 ≠ g10
  bw : Below w.heap.size w wr
theorem bset2o {B g o : Nat} {a b : World} (h : Below B a b) (hg : B ≤ g) (u v : Value) : Below B a ((b.setCell ⟨g, o, none⟩ u).setCell ⟨g, o + 1, none⟩ v) := (h.setCell (p := ⟨g, o, none⟩) hg u).setCell (p := ⟨g, o + 1, none⟩) hg v
theorem Sf.off {g7 g10 : Nat} {e : Ent} (h : Sf g7 g10 e) : 0 < e.n → Off g10 e.p := fun h0 => (h h0).2
theorem Sf.fresh {g7 g10 B : Nat} {e : Ent} (h : Go.Proofs.YtakfimhpnpapdaaGreatDoor.From B e.p) (h7 : g7 < B) (h10 : g10 < B) : Sf g7 g10 e := fun _ => ⟨off_from h h7, off_from h h10⟩
section
variable {w wr w' : World} {g3 g7 g8 g9 g10 W n i M : Nat} {u one base cr : Ent} {xs : List Int} {d : Nat → Int} {us : List Ent} {c : Int}
theorem UN.below (h : UN w wr g3 g7 g8 g9 g10 W n i M u one base cr xs d us c) (hb : Below wr.heap.size wr w') : UN w w' g3 g7 g8 g9 g10 W n i M u one base cr xs d us c :=
  ⟨h.b3.later hb, h.a3.below hb, h.r7.below hb h.r7.lt, h.l7, h.b8.later hb, h.v8.below hb, h.b9.later hb, h.v9.below hb, h.b10.later hb, h.v10.below hb, h.c01, h.s3, h.s8, h.s9, h.s10, fun j hj => ⟨(h.q j hj).1.below hb, (h.q j hj).2⟩, by have := h.gs; have := hb.size; omega, bnext' h.bw hb⟩
/-- The carry's variable is written. -/
theorem UN.carry (h : UN w wr g3 g7 g8 g9 g10 W n i M u one base cr xs d us c) {cr' : Ent} {c' : Int} (hv : EV wr 2 c' cr') (hs : Sf g7 g10 cr') (hc : c' = 0 ∨ c' = 1) :
    UN w ((wr.setCell ⟨g10, 0, none⟩ (.bool cr'.s)).setCell ⟨g10, 1, none⟩ (.slice cr'.p cr'.n cr'.c)) g3 g7 g8 g9 g10 W n i M u one base cr' xs d us c' := by
  have g := h.gs
  refine ⟨Bx_oth h.b3 (by omega), ?_, (h.r7.set_other _ _ (by simp; omega)).set_other _ _ (by simp; omega), h.l7, Bx_oth h.b8 (by omega), h.v8.set2 (o := 0) h.s8.off, Bx_oth h.b9 (by omega), h.v9.set2 (o := 0) h.s9.off, Bx_set h.b10, hv.set2 (o := 0) hs.off, hc, h.s3, h.s8, h.s9, hs, fun j hj => ⟨(h.q j hj).1.set2o (o := 0) (h.q j hj).2.off, (h.q j hj).2⟩, by simp; omega, bset2 h.bw (by omega) _ _⟩
  exact ⟨h.a3.len, h.a3.cap, h.a3.bnd, h.a3.sml, fun hx => by
    have ho := h.s3.off (by rw [h.a3.len] at hx; exact hx)
    exact ((h.a3.rd.set_other ⟨g10, 0, none⟩ _ ho).set_other ⟨g10, 1, none⟩ _ ho) hx, h.a3.u⟩
/-- An entry is written. -/
theorem UN.entry (h : UN w wr g3 g7 g8 g9 g10 W n i M u one base cr xs d us c) {e : Ent} (hi : i < n) (hv : NV w.heap.size wr M (d i) e) (hs : Sf g7 g10 e) :
    UN w ((wr.setCell ⟨g7, i * 2, none⟩ (.bool e.s)).setCell ⟨g7, i * 2 + 1, none⟩ (.slice e.p e.n e.c)) g3 g7 g8 g9 g10 W n (i + 1) M u one base cr xs d (us.set i e) c := by
  have g := h.gs
  refine ⟨Bx_any h.b3 (by omega), ?_, h.r7.set i e (by rw [h.l7]; exact hi), by rw [List.length_set]; exact h.l7, Bx_any h.b8 (by omega), h.v8.set2 fun h0 => (h.s8 h0).1, Bx_any h.b9 (by omega), h.v9.set2 fun h0 => (h.s9 h0).1, Bx_any h.b10 (by omega), h.v10.set2 fun h0 => (h.s10 h0).1, h.c01, h.s3, h.s8, h.s9, h.s10, fun j hj => ?_, by simp; omega, bset2o h.bw (by omega) _ _⟩
  · exact ⟨h.a3.len, h.a3.cap, h.a3.bnd, h.a3.sml, fun hx => by
      have ho := (h.s3 (by rw [h.a3.len] at hx; exact hx)).1
      exact ((h.a3.rd.set_other ⟨g7, i * 2, none⟩ _ ho).set_other ⟨g7, i * 2 + 1, none⟩ _ ho) hx, h.a3.u⟩
  · rcases Nat.lt_or_ge j i with hlt | hge
    · rw [ge_set_other _ _ _ _ (by omega)]
      exact ⟨(h.q j hlt).1.set2o fun h0 => ((h.q j hlt).2 h0).1, (h.q j hlt).2⟩
    · obtain rfl : j = i := by omega
      rw [ge_set_same _ _ _ (by rw [h.l7]; exact hi)]
      exact ⟨hv.set2o fun h0 => (hs h0).1, hs⟩
end
theorem ai_cut {w : World} {b o n : Nat} {xs : List Int} (h : AI w (some ⟨b, o, none⟩) n n xs) (f t : Nat) (hf : f ≤ t) (ht : t ≤ n) : AI w (some ⟨b, o + f, none⟩) (t - f) (n - f) ((xs.drop f).take (t - f)) := by
  refine ⟨by have := h.len; simp; omega, by omega, by have := h.bnd; omega, by have := h.sml; omega, fun hx => ?_, u32_take (u32_drop h.u f) _⟩
  have hl := h.len
  obtain ⟨b', o', hb, hc⟩ := h.rd (by simp at hx; omega)
  cases hb
  refine ⟨b, o + f, rfl, fun j hj => ?_⟩
  have hj' : j < t - f := by simp at hj; omega
  rw [gx_take _ _ _ hj', gx_drop, Nat.add_assoc]
  exact hc (f + j) (by omega)
theorem dig_list (xs : List Int) (k W f t : Nat) (hf : f = min k xs.length) (ht : t = min (f + W) xs.length) : (xs.drop f).take (t - f) = (xs.drop k).take W := by
  rcases Nat.lt_or_ge xs.length k with h | h
  · have : f = xs.length := by omega
    rw [this, List.drop_length, List.drop_eq_nil_of_le (Nat.le_of_lt h)]
    simp
  · have : f = k := by omega
    subst this
    rcases Nat.lt_or_ge xs.length (f + W) with h2 | h2
    · rw [List.take_of_length_le (by simp; omega), List.take_of_length_le (by simp; omega)]
    · have : t - f = W := by omega
      rw [this]
/-- The digit in its variable. -/
structure DG (wr wc : World) (g13 W : Nat) (v : Int) (e : Ent) : Prop where
  b : Bx wc g13 (.bool e.s) (.slice e.p e.n e.c)
  v : EV wc W v e
  bw : Below wr.heap.size wr wc
/-- No number lies in g. -/
structure OA (g i : Nat) (u one base cr : Ent) (us : List Ent) : Prop where
  u : 0 < u.n → Off g u.p
  one : 0 < one.n → Off g one.p
  base : 0 < base.n → Off g base.p
  cr : 0 < cr.n → Off g cr.p
  q : ∀ j, j < i → 0 < (ge us j).n → Off g (ge us j).p
theorem ev_off {w : World} {K g : Nat} {z : Int} {e : Ent} (h : EV w K z e) (hg : w.heap.size ≤ g) : 0 < e.n → Off g e.p := fun h0 => by
  obtain ⟨xs, h1, -⟩ := h
  exact h1.rd.off hg (by rw [h1.len]; exact h0)
theorem UN.offs {w wc : World} {g g3 g7 g8 g9 g10 W n i M : Nat} {u one base cr : Ent} {xs : List Int} {d : Nat → Int} {us : List Ent} {c : Int} (h : UN w wc g3 g7 g8 g9 g10 W n i M u one base cr xs d us c) (hg : wc.heap.size ≤ g) (hM : M ≤ 1000) : OA g i u one base cr us :=
  ⟨fun h0 => h.a3.rd.off hg (by rw [h.a3.len]; exact h0), ev_off h.v8 hg, ev_off h.v9 hg, ev_off h.v10 hg, fun j hj => ev_off ((h.q j hj).1.ev hM) hg⟩
/-- A variable of its own is written. -/
theorem UN.box {w wx : World} {g g3 g7 g8 g9 g10 W n i M : Nat} {u one base cr : Ent} {xs : List Int} {d : Nat → Int} {us : List Ent} {c : Int} (h : UN w wx g3 g7 g8 g9 g10 W n i M u one base cr xs d us c) (ho : OA g i u one base cr us) (hne : g ≠ g3 ∧ g ≠ g7 ∧ g ≠ g8 ∧ g ≠ g9 ∧ g ≠ g10 ∧ w.heap.size ≤ g) (x y : Value) :
    UN w ((wx.setCell ⟨g, 0, none⟩ x).setCell ⟨g, 1, none⟩ y) g3 g7 g8 g9 g10 W n i M u one base cr xs d us c := by
  obtain ⟨n3, n7, n8, n9, n10, nw⟩ := hne
  have hgs := h.gs
  refine ⟨Bx_oth h.b3 (Ne.symm n3), ?_, (h.r7.set_other _ _ (by simp; omega)).set_other _ _ (by simp; omega), h.l7, Bx_oth h.b8 (Ne.symm n8), h.v8.set2 (o := 0) ho.one, Bx_oth h.b9 (Ne.symm n9), h.v9.set2 (o := 0) ho.base, Bx_oth h.b10 (Ne.symm n10), h.v10.set2 (o := 0) ho.cr, h.c01, h.s3, h.s8, h.s9, h.s10, fun j hj => ⟨(h.q j hj).1.set2o (o := 0) (ho.q j hj), (h.q j hj).2⟩, by simp; omega, bset2 h.bw nw _ _⟩
  exact ⟨h.a3.len, h.a3.cap, h.a3.bnd, h.a3.sml, fun hx => by
    have ho' := ho.u (by rw [h.a3.len] at hx; exact hx)
    exact ((h.a3.rd.set_other ⟨g, 0, none⟩ _ ho').set_other ⟨g, 1, none⟩ _ ho') hx, h.a3.u⟩
/-- The entry with its sign taken off, in its variable. -/
structure CE (w wx : World) (g14 : Nat) (g3 g7 g8 g9 g10 W n i : Nat) (u one base cr : Ent) (xs : List Int) (d : Nat → Int) (us : List Ent) (c v : Int) (ce : Ent) : Prop where
  un : UN w wx g3 g7 g8 g9 g10 W n i W u one base cr xs d us c
  b : Bx wx g14 (.bool ce.s) (.slice ce.p ce.n ce.c)
  v : NV w.heap.size wx W v ce
  s : Sf g7 g10 ce
  o : 0 < ce.n → Off g14 ce.p
  ne : g14 ≠ g3 ∧ g14 ≠ g7 ∧ g14 ≠ g8 ∧ g14 ≠ g9 ∧ g14 ≠ g10 ∧ w.heap.size ≤ g14
  oa : OA g14 i u one base cr us
theorem CE.below {w wx w' : World} {g14 g3 g7 g8 g9 g10 W n i : Nat} {u one base cr ce : Ent} {xs : List Int} {d : Nat → Int} {us : List Ent} {c v : Int} (h : CE w wx g14 g3 g7 g8 g9 g10 W n i u one base cr xs d us c v ce) (hb : Below wx.heap.size wx w') : CE w w' g14 g3 g7 g8 g9 g10 W n i u one base cr xs d us c v ce :=
  ⟨h.un.below hb, h.b.later hb, h.v.below hb, h.s, h.o, h.ne, h.oa⟩
end Go.Proofs.YtakfimhpnpapdaaGreatDoor
