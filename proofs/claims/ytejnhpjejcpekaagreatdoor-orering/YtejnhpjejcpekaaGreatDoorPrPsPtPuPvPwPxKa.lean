/-
  upoly.pack.
-/
import Derived.Test.YtejnhpjejcpekaaGreatDoorCbNgNsPq
import Derived.Test.YtejnhpjejcpekaaGreatDoorMmWaWbWc
import Derived.Test.YtejnhpjejcpekaaGreatDoorGaGbKpGcGdGeQaQbQcQdQgQhGfGgUnWfUuByUxUtUvUwUyUzUrUsHaHbHcHeVv
import Derived.Test.YtejnhpjejcpekaaGreatDoorVbDaCxRbCyViDsAeVuWxUpUqRmRpDkDlDbRiRjRgRk
import Derived.Deep.RegionHeld3
import Derived.Deep.CutRange
import Derived.Laws.OwnMore
import Derived.Test.YtejnhpjejcpekaaGreatDoorAdBsDtAgWvUh
import Derived.Test.YtejnhpjejcpekaaGreatDoorUlUmVsUoDmVtAfBpBnBoAh
import Derived.Test.YtejnhpjejcpekaaGreatDoorLeUkWiWj
import Derived.Test.YtejnhpjejcpekaaGreatDoorWkWlBxBbCvNjUbUcUdOw
namespace Go.Proofs.YtejnhpjejcpekaaGreatDoor
open Go.RowKit
set_option linter.unusedVariables false
set_option linter.unusedSimpArgs false
set_option maxHeartbeats 8000000
theorem copy_into (ty : TypeId) (w : World) (g off dl dc : Nat) (q : Option Addr) (m mc : Nat) (Z xs : List Int) (hg : Row w g 88 .u32 Z) (hX : Rd w q .u32 xs) (hl : xs.length = m) (hm : m ≤ dl) (hfit : off + m ≤ Z.length) :
    ∃ W', (Builtin.copy_ #[24, 24] ty #[.slice (some ⟨g, off, none⟩) dl dc, .slice q m mc]).run Tryz.prog w = .ok (.int .i64 m) W' ∧ Row W' g 88 .u32 (mid Z off xs) ∧ w.grownBy W' (some g) := by
  rcases Nat.eq_zero_or_pos m with h0 | h0
  · subst h0
    have : xs = [] := List.eq_nil_of_length_eq_zero hl
    subst this
    refine ⟨w, run_copy_none (P := Tryz.prog) _ 24 24 ty 88 _ _ dl dc 0 mc Tryz.underlying24 (by kernel_rfl) (by simp), ?_, grownBy_refl _ _⟩
    rw [mid]
    simpa using hg
  · obtain ⟨b, o, rfl, hc⟩ := hX (by omega)
    have hr := run_copy_row (P := Tryz.prog) w 24 24 ty 88 g off dl dc ⟨b, o, none⟩ m mc _ 88 (xs.map (Value.int .u32)) Tryz.underlying24 (by kernel_rfl) hg (by rw [List.length_map, hl]; exact (Nat.min_eq_left hm).symm) (Rd.src hc) (by rw [List.length_map, size_ca]; omega) (oneCell_ca _ _)
    rw [List.length_map, hl] at hr
    refine ⟨w.setRow g _, hr, ?_, ⟨rfl, rfl, rfl, by simp, fun k _ hk => setRow_other w g k _ (fun e => hk (by rw [e]))⟩⟩
    have e : (List.take off (ca .u32 Z).toList ++ xs.map (Value.int .u32) ++ List.drop (off + m) (ca .u32 Z).toList).toArray = ca .u32 (mid Z off xs) := by
      unfold ca mid
      rw [List.map_append, List.map_append, List.map_take, List.map_drop, hl]
    rw [e]
    exact setRow_heap w g _ _ _ _ hg
theorem step_copy_g {ops : Array Oper} {o : Oper} {a : Act} {w : World} {K : Act → World → Prop} {Q : Exit → Act → World → Prop} {E : Prop} (hgd : o.guard = none) (d s : Operand)
    (ho : o.op = .call { callee := .builtin .copy, args := #[d, s], argTypes := #[24, 24] }) (g off dl dc : Nat) (q : Option Addr) (m mc : Nat) (hd : a.eval d = .slice (some ⟨g, off, none⟩) dl dc) (hs : a.eval s = .slice q m mc)
    (Z xs : List Int) (hg : Row w g 88 .u32 Z) (hX : Rd w q .u32 xs) (hl : xs.length = m) (hm : m ≤ dl) (hfit : off + m ≤ Z.length)
    (h : ∀ w', Row w' g 88 .u32 (mid Z off xs) → w.grownBy w' (some g) → K (a.put o.dst (.int .i64 m)) w') :
    if Region.wanted o (yielded ops a.tmps) = true then Oper.wp Tryz.prog o a w K Q else E := by
  obtain ⟨W', e, h1, h2⟩ := copy_into o.type w g off dl dc q m mc Z xs hg hX hl hm hfit
  have hk := h W' h1 h2
  rw [if_pos (by simp [Region.wanted, hgd]), Oper.wp]
  simp [e, hd, hs, ho, builtin, invoke, resolve, execOp, Result.andThen]
  exact hk
structure PK (w wr : World) (ga gb W n k : Nat) (zs A Bl : List Int) : Prop where
  ra : Row wr ga 88 .u32 A
  rb : Row wr gb 88 .u32 Bl
  la : A.length = W * n
  lb : Bl.length = W * n
  ua : U32 A
  ub : U32 Bl
  za : ∀ j, W * k ≤ j → gx A j = 0
  zb : ∀ j, W * k ≤ j → gx Bl j = 0
  v : val A - val Bl = pkf W (gx zs) k
  ne : ga ≠ gb
  fa : w.heap.size < ga
  fb : w.heap.size < gb
  rx : Bx wr w.heap.size (.bool false) (.slice none 0 0)
  bw : Below w.heap.size w wr
theorem en_parts {w : World} {K : Nat} {z : Int} {e : Ent} (h : EN w K z e) : ∃ xs, Rd w e.p .u32 xs ∧ xs.length = e.n ∧ U32 xs ∧ ((e.s = false ∧ val xs = z) ∨ (e.s = true ∧ val xs = -z)) := by
  obtain ⟨xs, h1, h2, h3, h4, h5⟩ := h
  refine ⟨xs, h1.rd, h1.len, h1.u, ?_⟩
  cases hs : e.s <;> rw [hs] at h2 <;> simp [ival] at h2
  · exact .inl ⟨rfl, h2⟩
  · exact .inr ⟨rfl, by omega⟩
theorem PK.above {w wr v w' : World} {ga gb W n k : Nat} {zs A Bl xs : List Int} (h : PK w wr ga gb W n k zs A Bl) (hb : Below wr.heap.size wr v) (hu : U32 xs) (hv : val xs = gx zs k) (hl : xs.length ≤ W) (hk : k < n) (hr : Row w' ga 88 .u32 (mid A (W * k) xs)) (hg : v.grownBy w' (some ga)) : PK w w' ga gb W n (k + 1) zs (mid A (W * k) xs) Bl := by
  have h1 : W * (k + 1) ≤ W * n := Nat.mul_le_mul_left _ hk
  have h2 : W * (k + 1) = W * k + W := by rw [Nat.mul_add, Nat.mul_one]
  have hfit : W * k + xs.length ≤ A.length := by rw [h.la]; omega
  have hne := h.ne
  have hfa := h.fa
  refine ⟨hr, (h.rb.below hb h.rb.lt).kept hg (by simp; omega), by rw [mid_length _ _ _ hfit]; exact h.la, h.lb, u32_midz h.ua hu, h.ub, fun j hj => gx_midz hfit h.za j (by omega), fun j hj => h.zb j (by omega), ?_, h.ne, h.fa, h.fb, Bx.kept (h.rx.later hb) hg (by simp; omega), below_grown (bnext' h.bw hb) hg (by have := h.bw.size; have := hb.size; omega) (by omega)⟩
  rw [val_midz hfit h.za, pkf, ← h.v, hv, Int.mul_comm]
  omega
theorem PK.under {w wr v w' : World} {ga gb W n k : Nat} {zs A Bl xs : List Int} (h : PK w wr ga gb W n k zs A Bl) (hb : Below wr.heap.size wr v) (hu : U32 xs) (hv : val xs = -gx zs k) (hl : xs.length ≤ W) (hk : k < n) (hr : Row w' gb 88 .u32 (mid Bl (W * k) xs)) (hg : v.grownBy w' (some gb)) : PK w w' ga gb W n (k + 1) zs A (mid Bl (W * k) xs) := by
  have h1 : W * (k + 1) ≤ W * n := Nat.mul_le_mul_left _ hk
  have h2 : W * (k + 1) = W * k + W := by rw [Nat.mul_add, Nat.mul_one]
  have hfit : W * k + xs.length ≤ Bl.length := by rw [h.lb]; omega
  have hne := h.ne
  have hfb := h.fb
  refine ⟨(h.ra.below hb h.ra.lt).kept hg (by simp; omega), hr, h.la, by rw [mid_length _ _ _ hfit]; exact h.lb, h.ua, u32_midz h.ub hu, fun j hj => h.za j (by omega), fun j hj => gx_midz hfit h.zb j (by omega), ?_, h.ne, h.fa, h.fb, Bx.kept (h.rx.later hb) hg (by simp; omega), below_grown (bnext' h.bw hb) hg (by have := h.bw.size; have := hb.size; omega) (by omega)⟩
  rw [val_midz hfit h.zb, pkf, ← h.v, hv, Int.mul_neg, Int.mul_comm]
  omega
theorem pkf_neg (W : Nat) (d : Nat → Int) : ∀ k, pkf W (fun j => -d j) k = -pkf W d k
  | 0 => rfl
  | k + 1 => by rw [pkf, pkf, pkf_neg W d k, Int.neg_mul]; omega
def sgd (s : Bool) (d : Nat → Int) (j : Nat) : Int := if s then -d j else d j
theorem sgd_abs (s : Bool) (d : Nat → Int) (j : Nat) : (sgd s d j).natAbs = (d j).natAbs := by cases s <;> simp [sgd]
theorem pkf_sgd (W : Nat) (s : Bool) (d : Nat → Int) (k : Nat) : pkf W (sgd s d) k = if s then -pkf W d k else pkf W d k := by
  cases s
  · rfl
  · exact pkf_neg W d k
def Sf (g7 g10 : Nat) (e : Ent) : Prop := 0 < e.n → Off g7 e.p ∧ Off g10 e.p
structure UN (w wr : World) (g3 g7 g8 g9 g10 W n i M : Nat) (u one base cr : Ent) (xs : List Int) (d : Nat → Int) (us : List Ent) (c : Int) : Prop where
  b3 : Bx wr g3 (.bool u.s) (.slice u.p u.n u.c)
  a3 : AI wr u.p u.n u.c xs
  r7 : Row2 wr g7 26 us
  l7 : us.length = n
  b8 : Bx wr g8 (.bool one.s) (.slice one.p one.n one.c)
  v8 : EV wr 2 1 one
  b9 : Bx wr g9 (.bool base.s) (.slice base.p base.n base.c)
  v9 : EV wr (W + 1) (pw W) base
  b10 : Bx wr g10 (.bool cr.s) (.slice cr.p cr.n cr.c)
  v10 : EV wr 2 c cr
  c01 : c = 0 ∨ c = 1
  s3 : Sf g7 g10 u
  s8 : Sf g7 g10 one
  s9 : Sf g7 g10 base
  s10 : Sf g7 g10 cr
  q : ∀ j, j < i → NV w.heap.size wr M (d j) (ge us j) ∧ Sf g7 g10 (ge us j)
  gs : w.heap.size ≤ g3 ∧ w.heap.size ≤ g7 ∧ g7 < wr.heap.size ∧ g10 < wr.heap.size ∧ w.heap.size ≤ g10 ∧ g3 ≠ g7 ∧ g3 ≠ g10 ∧ g7 ≠ g10 ∧ g8 ≠ g7 ∧ g8 ≠ g10 ∧ g9 ≠ g7 ∧ g9 ≠ g10
  bw : Below w.heap.size w wr
theorem bset2o {B g o : Nat} {a b : World} (h : Below B a b) (hg : B ≤ g) (u v : Value) : Below B a ((b.setCell ⟨g, o, none⟩ u).setCell ⟨g, o + 1, none⟩ v) := (h.setCell (p := ⟨g, o, none⟩) hg u).setCell (p := ⟨g, o + 1, none⟩) hg v
theorem Sf.off {g7 g10 : Nat} {e : Ent} (h : Sf g7 g10 e) : 0 < e.n → Off g10 e.p := fun h0 => (h h0).2
theorem Sf.fresh {g7 g10 B : Nat} {e : Ent} (h : Go.Proofs.YtejnhpjejcpekaaGreatDoor.From B e.p) (h7 : g7 < B) (h10 : g10 < B) : Sf g7 g10 e := fun _ => ⟨off_from h h7, off_from h h10⟩
section
variable {w wr w' : World} {g3 g7 g8 g9 g10 W n i M : Nat} {u one base cr : Ent} {xs : List Int} {d : Nat → Int} {us : List Ent} {c : Int}
theorem UN.below (h : UN w wr g3 g7 g8 g9 g10 W n i M u one base cr xs d us c) (hb : Below wr.heap.size wr w') : UN w w' g3 g7 g8 g9 g10 W n i M u one base cr xs d us c :=
  ⟨h.b3.later hb, h.a3.below hb, h.r7.below hb h.r7.lt, h.l7, h.b8.later hb, h.v8.below hb, h.b9.later hb, h.v9.below hb, h.b10.later hb, h.v10.below hb, h.c01, h.s3, h.s8, h.s9, h.s10, fun j hj => ⟨(h.q j hj).1.below hb, (h.q j hj).2⟩, by have := h.gs; have := hb.size; omega, bnext' h.bw hb⟩
theorem UN.carry (h : UN w wr g3 g7 g8 g9 g10 W n i M u one base cr xs d us c) {cr' : Ent} {c' : Int} (hv : EV wr 2 c' cr') (hs : Sf g7 g10 cr') (hc : c' = 0 ∨ c' = 1) :
    UN w ((wr.setCell ⟨g10, 0, none⟩ (.bool cr'.s)).setCell ⟨g10, 1, none⟩ (.slice cr'.p cr'.n cr'.c)) g3 g7 g8 g9 g10 W n i M u one base cr' xs d us c' := by
  have g := h.gs
  refine ⟨Bx_oth h.b3 (by omega), ?_, (h.r7.set_other _ _ (by simp; omega)).set_other _ _ (by simp; omega), h.l7, Bx_oth h.b8 (by omega), h.v8.set2 (o := 0) h.s8.off, Bx_oth h.b9 (by omega), h.v9.set2 (o := 0) h.s9.off, Bx_set h.b10, hv.set2 (o := 0) hs.off, hc, h.s3, h.s8, h.s9, hs, fun j hj => ⟨(h.q j hj).1.set2o (o := 0) (h.q j hj).2.off, (h.q j hj).2⟩, by simp; omega, bset2 h.bw (by omega) _ _⟩
  exact ⟨h.a3.len, h.a3.cap, h.a3.bnd, h.a3.sml, fun hx => by
    have ho := h.s3.off (by rw [h.a3.len] at hx; exact hx)
    exact ((h.a3.rd.set_other ⟨g10, 0, none⟩ _ ho).set_other ⟨g10, 1, none⟩ _ ho) hx, h.a3.u⟩
theorem UN.entry (h : UN w wr g3 g7 g8 g9 g10 W n i M u one base cr xs d us c) {e : Ent} (hi : i < n) (hv : NV w.heap.size wr M (d i) e) (hs : Sf g7 g10 e) :
    UN w ((wr.setCell ⟨g7, i * 2, none⟩ (.bool e.s)).setCell ⟨g7, i * 2 + 1, none⟩ (.slice e.p e.n e.c)) g3 g7 g8 g9 g10 W n (i + 1) M u one base cr xs d (us.set i e) c := by
  have g := h.gs
  refine ⟨Bx_any h.b3 (by omega), ?_, h.r7.set i e (by rw [h.l7]; exact hi), by rw [List.length_set]; exact h.l7, Bx_any h.b8 (by omega), h.v8.set2 fun h0 => (h.s8 h0).1, Bx_any h.b9 (by omega), h.v9.set2 fun h0 => (h.s9 h0).1, Bx_any h.b10 (by omega), h.v10.set2 fun h0 => (h.s10 h0).1, h.c01, h.s3, h.s8, h.s9, h.s10, fun j hj => ?_, by simp; omega, bset2o h.bw (by omega) _ _⟩
  · exact ⟨h.a3.len, h.a3.cap, h.a3.bnd, h.a3.sml, fun hx => by
      have ho := (h.s3 (by rw [h.a3.len] at hx; exact hx)).1
      exact ((h.a3.rd.set_other ⟨g7, i * 2, none⟩ _ ho).set_other ⟨g7, i * 2 + 1, none⟩ _ ho) hx, h.a3.u⟩
  · rcases Nat.lt_or_ge j i with hlt | hge
    · rw [ge_set_other _ _ _ _ (by omega)]
      exact ⟨(h.q j hlt).1.set2o fun h0 => ((h.q j hlt).2 h0).1, (h.q j hlt).2⟩
    · obtain rfl : j = i := by omega
      rw [ge_set_same _ _ _ (by rw [h.l7]; exact hi)]
      exact ⟨hv.set2o fun h0 => (hs h0).1, hs⟩
end
theorem ai_cut {w : World} {b o n : Nat} {xs : List Int} (h : AI w (some ⟨b, o, none⟩) n n xs) (f t : Nat) (hf : f ≤ t) (ht : t ≤ n) : AI w (some ⟨b, o + f, none⟩) (t - f) (n - f) ((xs.drop f).take (t - f)) := by
  refine ⟨by have := h.len; simp; omega, by omega, by have := h.bnd; omega, by have := h.sml; omega, fun hx => ?_, u32_take (u32_drop h.u f) _⟩
  have hl := h.len
  obtain ⟨b', o', hb, hc⟩ := h.rd (by simp at hx; omega)
  cases hb
  refine ⟨b, o + f, rfl, fun j hj => ?_⟩
  have hj' : j < t - f := by simp at hj; omega
  rw [gx_take _ _ _ hj', gx_drop, Nat.add_assoc]
  exact hc (f + j) (by omega)
theorem dig_list (xs : List Int) (k W f t : Nat) (hf : f = min k xs.length) (ht : t = min (f + W) xs.length) : (xs.drop f).take (t - f) = (xs.drop k).take W := by
  rcases Nat.lt_or_ge xs.length k with h | h
  · have : f = xs.length := by omega
    rw [this, List.drop_length, List.drop_eq_nil_of_le (Nat.le_of_lt h)]
    simp
  · have : f = k := by omega
    subst this
    rcases Nat.lt_or_ge xs.length (f + W) with h2 | h2
    · rw [List.take_of_length_le (by simp; omega), List.take_of_length_le (by simp; omega)]
    · have : t - f = W := by omega
      rw [this]
structure DG (wr wc : World) (g13 W : Nat) (v : Int) (e : Ent) : Prop where
  b : Bx wc g13 (.bool e.s) (.slice e.p e.n e.c)
  v : EV wc W v e
  bw : Below wr.heap.size wr wc
structure OA (g i : Nat) (u one base cr : Ent) (us : List Ent) : Prop where
  u : 0 < u.n → Off g u.p
  one : 0 < one.n → Off g one.p
  base : 0 < base.n → Off g base.p
  cr : 0 < cr.n → Off g cr.p
  q : ∀ j, j < i → 0 < (ge us j).n → Off g (ge us j).p
theorem ev_off {w : World} {K g : Nat} {z : Int} {e : Ent} (h : EV w K z e) (hg : w.heap.size ≤ g) : 0 < e.n → Off g e.p := fun h0 => by
  obtain ⟨xs, h1, -⟩ := h
  exact h1.rd.off hg (by rw [h1.len]; exact h0)
theorem UN.offs {w wc : World} {g g3 g7 g8 g9 g10 W n i M : Nat} {u one base cr : Ent} {xs : List Int} {d : Nat → Int} {us : List Ent} {c : Int} (h : UN w wc g3 g7 g8 g9 g10 W n i M u one base cr xs d us c) (hg : wc.heap.size ≤ g) (hM : M ≤ 1000) : OA g i u one base cr us :=
  ⟨fun h0 => h.a3.rd.off hg (by rw [h.a3.len]; exact h0), ev_off h.v8 hg, ev_off h.v9 hg, ev_off h.v10 hg, fun j hj => ev_off ((h.q j hj).1.ev hM) hg⟩
theorem UN.box {w wx : World} {g g3 g7 g8 g9 g10 W n i M : Nat} {u one base cr : Ent} {xs : List Int} {d : Nat → Int} {us : List Ent} {c : Int} (h : UN w wx g3 g7 g8 g9 g10 W n i M u one base cr xs d us c) (ho : OA g i u one base cr us) (hne : g ≠ g3 ∧ g ≠ g7 ∧ g ≠ g8 ∧ g ≠ g9 ∧ g ≠ g10 ∧ w.heap.size ≤ g) (x y : Value) :
    UN w ((wx.setCell ⟨g, 0, none⟩ x).setCell ⟨g, 1, none⟩ y) g3 g7 g8 g9 g10 W n i M u one base cr xs d us c := by
  obtain ⟨n3, n7, n8, n9, n10, nw⟩ := hne
  have hgs := h.gs
  refine ⟨Bx_oth h.b3 (Ne.symm n3), ?_, (h.r7.set_other _ _ (by simp; omega)).set_other _ _ (by simp; omega), h.l7, Bx_oth h.b8 (Ne.symm n8), h.v8.set2 (o := 0) ho.one, Bx_oth h.b9 (Ne.symm n9), h.v9.set2 (o := 0) ho.base, Bx_oth h.b10 (Ne.symm n10), h.v10.set2 (o := 0) ho.cr, h.c01, h.s3, h.s8, h.s9, h.s10, fun j hj => ⟨(h.q j hj).1.set2o (o := 0) (ho.q j hj), (h.q j hj).2⟩, by simp; omega, bset2 h.bw nw _ _⟩
  exact ⟨h.a3.len, h.a3.cap, h.a3.bnd, h.a3.sml, fun hx => by
    have ho' := ho.u (by rw [h.a3.len] at hx; exact hx)
    exact ((h.a3.rd.set_other ⟨g, 0, none⟩ _ ho').set_other ⟨g, 1, none⟩ _ ho') hx, h.a3.u⟩
structure CE (w wx : World) (g14 : Nat) (g3 g7 g8 g9 g10 W n i : Nat) (u one base cr : Ent) (xs : List Int) (d : Nat → Int) (us : List Ent) (c v : Int) (ce : Ent) : Prop where
  un : UN w wx g3 g7 g8 g9 g10 W n i W u one base cr xs d us c
  b : Bx wx g14 (.bool ce.s) (.slice ce.p ce.n ce.c)
  v : NV w.heap.size wx W v ce
  s : Sf g7 g10 ce
  o : 0 < ce.n → Off g14 ce.p
  ne : g14 ≠ g3 ∧ g14 ≠ g7 ∧ g14 ≠ g8 ∧ g14 ≠ g9 ∧ g14 ≠ g10 ∧ w.heap.size ≤ g14
  oa : OA g14 i u one base cr us
theorem CE.below {w wx w' : World} {g14 g3 g7 g8 g9 g10 W n i : Nat} {u one base cr ce : Ent} {xs : List Int} {d : Nat → Int} {us : List Ent} {c v : Int} (h : CE w wx g14 g3 g7 g8 g9 g10 W n i u one base cr xs d us c v ce) (hb : Below wx.heap.size wx w') : CE w w' g14 g3 g7 g8 g9 g10 W n i u one base cr xs d us c v ce :=
  ⟨h.un.below hb, h.b.later hb, h.v.below hb, h.s, h.o, h.ne, h.oa⟩
theorem val_base (W : Nat) : val (zeros W ++ [1]) = pw W := by rw [val_append, val_zero, length_zeros, val_one]; simp
theorem ca_list (xs : List Int) : (ca .u32 xs).toList = xs.map (Value.int .u32) := by simp [ca]
set_option maxRecDepth 100000 in
theorem packedCost_some (m n d : Nat) (w : World) (hm : m ≤ 80) (hn : n ≤ 80) (hd : d ≤ 80) (hd1 : 1 ≤ d) :
    Calls Tryz.prog 222 #[.int .i64 m, .int .i64 n, .int .i64 d] w fun r w' => (∃ x : Int, r = .returned (.int .i64 x)) ∧ Below w.heap.size w w' := by
  obtain ⟨A, hA1, hA2⟩ : ∃ A : Nat, max (m : Int) (n : Int) = (A : Int) ∧ A ≤ 80 := ⟨max m n, by omega, by omega⟩
  obtain ⟨M, hM1, hM2⟩ : ∃ M : Nat, min (m : Int) (n : Int) = (M : Int) ∧ M ≤ 80 := ⟨min m n, by omega, by omega⟩
  have q1 : (2147483647 : Int).tdiv (d : Int) = 2147483647 / (d : Int) := Int.tdiv_eq_ediv_of_nonneg (by decide)
  have q2 : 80 < 2147483647 / (d : Int) := by
    have : (26843545 : Int) ≤ 2147483647 / (d : Int) := Int.le_ediv_of_mul_le (by omega) (by omega)
    omega
  have q3 : 2147483647 / (d : Int) ≤ 2147483647 := Int.ediv_le_self _ (by decide)
  have hd0 : ¬ (d : Int) = 0 := by omega
  have hd0' : ((d : Int) == 0) = false := by rw [beq_eq_false_iff_ne]; omega
  generalize hQ : 2147483647 / (d : Int) = Q at *
  have hc : ¬ Q < (A : Int) := by omega
  have m1 : d * m ≤ 80 * 80 := Nat.mul_le_mul hd hm
  have m2 : d * m * d ≤ 6400 * 80 := Nat.mul_le_mul m1 hd
  have m3 : d * m * d * n ≤ 512000 * 80 := Nat.mul_le_mul m2 hn
  have m4 : d * M ≤ 80 * 80 := Nat.mul_le_mul hd hM2
  have e1 : (d : Int) * (m : Int) = ((d * m : Nat) : Int) := by push_cast; rfl
  have e2 : ((d * m : Nat) : Int) * (d : Int) = ((d * m * d : Nat) : Int) := by push_cast; rfl
  have e3 : ((d * m * d : Nat) : Int) * (n : Int) = ((d * m * d * n : Nat) : Int) := by push_cast; rfl
  have e4 : (d : Int) * (M : Int) = ((d * M : Nat) : Int) := by push_cast; rfl
  have w1 : IntKind.i64.wrap ((d * m : Nat) : Int) = ((d * m : Nat) : Int) := by rw [IntKind.wrap_i64]; omega
  have w2 : IntKind.i64.wrap ((d * m * d : Nat) : Int) = ((d * m * d : Nat) : Int) := by rw [IntKind.wrap_i64]; omega
  have w3 : IntKind.i64.wrap ((d * m * d * n : Nat) : Int) = ((d * m * d * n : Nat) : Int) := by rw [IntKind.wrap_i64]; omega
  have w4 : IntKind.i64.wrap ((d * M : Nat) : Int) = ((d * M : Nat) : Int) := by rw [IntKind.wrap_i64]; omega
  have w5 : IntKind.i64.wrap Q = Q := by rw [IntKind.wrap_i64]; omega
  generalize d * m * d * n = X at *
  generalize d * m * d = X2 at *
  generalize d * m = X1 at *
  generalize d * M = X4 at *
  have x1 : IntKind.i64.wrap ((m : Int) + (n : Int)) = (m : Int) + (n : Int) := by rw [IntKind.wrap_i64]; omega
  have x2 : IntKind.i64.wrap (160 * ((m : Int) + (n : Int))) = 160 * ((m : Int) + (n : Int)) := by rw [IntKind.wrap_i64]; omega
  go_enter Tryz.func222, Tryz.ntmps222
  go_wp2_with fail
  go_loop [7, 8] (fun cv kv => ∃ c k : Nat, cv = .int .i64 (c : Int) ∧ kv = .int .i64 (k : Int) ∧ c ≤ 40960000 ∧ k ≤ 6400) (fun _ kv => match kv with | .int _ k => k.toNat | _ => 0)
  case atStart => exact ⟨X, X4, rfl, rfl, by omega, by omega⟩
  case round =>
    obtain ⟨c, k, rfl, rfl, hc1, hk1⟩ := hrel
    obtain ⟨c4, hc4⟩ : ∃ c4 : Nat, c4 = c / 4 := ⟨_, rfl⟩
    obtain ⟨k2, hk2⟩ : ∃ k2 : Nat, k2 = k / 2 := ⟨_, rfl⟩
    obtain ⟨cr, hcr⟩ : ∃ cr : Nat, cr = c - c4 := ⟨_, rfl⟩
    have t1 : (c : Int).tdiv 4 = (c4 : Int) := by rw [Int.tdiv_eq_ediv_of_nonneg (by omega)]; omega
    have t2 : (k : Int).tdiv 2 = (k2 : Int) := by rw [Int.tdiv_eq_ediv_of_nonneg (by omega)]; omega
    have t3 : IntKind.i64.wrap (c4 : Int) = (c4 : Int) := by rw [IntKind.wrap_i64]; omega
    have t4 : IntKind.i64.wrap (k2 : Int) = (k2 : Int) := by rw [IntKind.wrap_i64]; omega
    have t5 : (c : Int) - (c4 : Int) = (cr : Int) := by omega
    have t6 : IntKind.i64.wrap (cr : Int) = (cr : Int) := by rw [IntKind.wrap_i64]; omega
    have x3 : IntKind.i64.wrap ((c : Int) + 160 * ((m : Int) + (n : Int))) = (c : Int) + 160 * ((m : Int) + (n : Int)) := by rw [IntKind.wrap_i64]; omega
    have H1 : Hid (k2 = k / 2 ∧ cr ≤ 40960000) := ⟨hk2, by omega⟩
    clear hk2 hc4 hcr
    by_cases hk : (80 : Int) < (k : Int)
    · go_wp2
      have h1 := H1.out
      refine ⟨⟨cr, k2, rfl, rfl, h1.2, by omega⟩, ?_⟩
      show (k2 : Int).toNat < (k : Int).toNat
      omega
    · go_wp2
      go_ret
      exact ⟨⟨_, rfl⟩, Below.refl _ _⟩
theorem gx_pb (zs : List Int) (j : Nat) : ((gx zs j).natAbs : Int) ≤ 2 ^ pb zs := by
  rcases Nat.lt_or_ge j zs.length with h | h
  · have h1 := (zb_ib (gx zs j)).2.1
    have h2 := p2_mono (zb_pb zs j h)
    omega
  · rw [gx_past zs zs.length (Nat.le_refl _) j h]
    have := p2_mono (Nat.zero_le (pb zs))
    simp at this ⊢
    omega
theorem ps_cnt {zs ys : List Int} {P : Int} (hP : 0 ≤ P) (h : ∀ i j, ((gx zs i * gx ys j).natAbs : Int) ≤ P) (t : Nat) : ∀ i, ((ps zs ys i t).natAbs : Int) ≤ ((min i (t + 1) - (t + 1 - ys.length) : Nat) : Int) * P
  | 0 => by simp [ps]
  | i + 1 => by
    have ih := ps_cnt hP h t i
    have h1 := h i (t - i)
    rw [ps]
    generalize hc : min i (t + 1) - (t + 1 - ys.length) = c at ih
    generalize hd : min (i + 1) (t + 1) - (t + 1 - ys.length) = d
    by_cases hi : i ≤ t
    · rw [if_pos hi]
      rcases Nat.lt_or_ge (t - i) ys.length with h2 | h2
      · have e : d = c + 1 := by omega
        rw [e]
        have : ((c + 1 : Nat) : Int) * P = (c : Int) * P + P := by push_cast; rw [Int.add_mul, Int.one_mul]
        omega
      · have e : d = c := by omega
        rw [e, gx_past ys ys.length (Nat.le_refl _) (t - i) h2, Int.mul_zero, Int.add_zero]
        exact ih
    · rw [if_neg hi, Int.add_zero]
      have e : d = c := by omega
      rw [e]
      exact ih
theorem ps_room (zs ys : List Int) (h1 : 0 < zs.length) (h2 : 0 < ys.length) (h3 : zs.length ≤ 80) (t : Nat) : 2 * ((ps zs ys zs.length t).natAbs : Int) < pw (wd zs ys) := by
  have hb := bitLen_bd (x := ((min zs.length ys.length : Nat) : Int)) (by omega) (by omega)
  rw [Int.toNat_natCast] at hb
  obtain ⟨b1, b2, b3⟩ := hb
  have b4 := b3.2.1
  have hp := ps_cnt (zs := zs) (ys := ys) (P := 2 ^ (pb zs + pb ys)) (Int.le_of_lt (Int.pow_pos (by decide))) (fun i j => by
    rw [Int.natAbs_mul, Int.pow_add]
    push_cast
    exact Int.mul_le_mul (gx_pb zs i) (gx_pb ys j) (by omega) (Int.le_of_lt (Int.pow_pos (by decide)))) t zs.length
  rw [pw_twoP, wd]
  generalize hL : Lib.bitLen (min zs.length ys.length) = L at *
  generalize hc : min zs.length (t + 1) - (t + 1 - ys.length) = c at hp
  have hcL : (c : Int) + 1 ≤ 2 ^ L := by omega
  have hm := p2_mono (show pb zs + pb ys + L + 1 ≤ 32 * ((pb zs + pb ys + L) / 32 + 1) by omega)
  rw [Int.pow_succ, Int.pow_add _ (pb zs + pb ys)] at hm
  generalize hQ : (2 : Int) ^ (pb zs + pb ys) = Q at *
  have hQ0 : 0 < Q := by rw [← hQ]; exact Int.pow_pos (by decide)
  have hx : ((c : Int) + 1) * Q ≤ 2 ^ L * Q := Int.mul_le_mul_of_nonneg_right hcL (Int.le_of_lt hQ0)
  rw [Int.add_mul, Int.one_mul, Int.mul_comm (2 ^ L)] at hx
  omega
theorem wd_le {zs ys : List Int} {K L : Nat} (h1 : pb zs ≤ 32 * K) (h2 : pb ys ≤ 32 * L) (h3 : 0 < zs.length) (h4 : 0 < ys.length) (h5 : zs.length ≤ 80) : wd zs ys ≤ K + L + 1 := by
  have hb := bitLen_bd (x := ((min zs.length ys.length : Nat) : Int)) (by omega) (by omega)
  rw [Int.toNat_natCast] at hb
  obtain ⟨b1, b2, b3⟩ := hb
  rw [wd]
  generalize hL : Lib.bitLen (min zs.length ys.length) = M at *
  rcases Nat.lt_or_ge M 32 with h | h
  · omega
  · have := p2_mono (show 31 ≤ M - 1 by omega)
    rcases b3.2.2 with h6 | h6
    · omega
    · have e : (2 : Int) ^ 31 = 2147483648 := by decide
      omega
set_option maxRecDepth 100000 in
theorem sum_ge (p q : Option Addr) (n nc m mc : Nat) (xs ys : List Int) (w : World) (hn : xs.length = n) (hm : ys.length = m) (hmn : m ≤ n) (hnb : n ≤ 1000000000)
    (hX : Rd w p .u32 xs) (hXu : U32 xs) (hY : Rd w q .u32 ys) (hYu : U32 ys) :
    Calls Tryz.prog 217 #[.slice p n nc, .slice q m mc] w fun e w' => ∃ zs, e = .returned (.slice (some ⟨w.heap.size, 0, none⟩) (n + 1) (n + 1)) ∧ zs.length = n + 1 ∧ U32 zs ∧ val zs = val xs + val ys ∧
      Row w' w.heap.size 88 .u32 zs ∧ Below w.heap.size w w' := by
  have hl' : ¬ (n : Int) < m := by omega
  have hmx : max (n : Int) (m : Int) = (n : Int) := by omega
  have hmk := mk_u32 (n + 1) (by omega)
  have ec : ((n + 1 : Nat) : Int) = (n : Int) + 1 := by omega
  rw [ec] at hmk
  clear ec
  have hcp := fun ty => copy_u32 ty w p n nc (n + 1) xs hX hn (by omega)
  have hlen : (xs ++ zeros 1).length = n + 1 := by simp [zeros]; omega
  go_enter Tryz.func217, Tryz.ntmps217
  go_wp2_with fail
  refine (addTo_any w.heap.size 0 (n + 1) (n + 1) (xs ++ zeros 1) q m mc ys _ (by omega) (by omega) (Nat.le_refl _) (Row.new w _ _ _) (u32_append hXu (u32_zeros _)) hm (by omega) (hY.alloc _) hYu (fun h => hY.off (Nat.le_refl _) (by omega))).mono ?_
  rintro e w' ⟨c, new, rfl, h1, h2, h3, h4, h5, h6, h7⟩
  go_wp2
  go_ret
  have hs := sum_top xs ys new n m (n + 1) c hn hm (by omega) (by omega) hXu hYu h2 h1 h3 h4 (by
    rw [h5, List.drop_zero, List.take_of_length_le (by omega), val_append, val_zero, Int.mul_zero, Int.add_zero])
  refine ⟨new, rfl, h1, h2, hs, ?_, ?_⟩
  · rw [List.take_zero, List.nil_append, Nat.zero_add, List.drop_of_length_le (by omega), List.append_nil] at h6
    exact h6
  · exact below_grown ((Below.refl _ _).alloc (Nat.le_refl _) _) h7 (by simp) (Nat.le_refl _)
theorem rd_drop {w : World} {b off : Nat} {k : IntKind} {xs : List Int} (h : Rd w (some ⟨b, off, none⟩) k xs) (j : Nat) : Rd w (some ⟨b, off + j, none⟩) k (xs.drop j) := fun hx => by
  have hl : j < xs.length := by simp at hx; omega
  obtain ⟨b', off', e, hc⟩ := h (by omega)
  cases e
  refine ⟨b, off + j, rfl, fun i hi => ?_⟩
  have := hc (j + i) (by simp at hi; omega)
  rw [gx_drop, Nat.add_assoc]; exact this
theorem gx_mid (Z R : List Int) (o j : Nat) (h : o + R.length ≤ Z.length) : gx (mid Z o R) j = if o ≤ j ∧ j < o + R.length then gx R (j - o) else gx Z j := by
  by_cases hc : o ≤ j ∧ j < o + R.length
  · rw [if_pos hc]
    have := mid_gx Z R o (j - o) h (by omega)
    rwa [show o + (j - o) = j by omega] at this
  · rw [if_neg hc]
    rcases Nat.lt_or_ge j o with h1 | h1
    · unfold mid
      rw [List.append_assoc, gx_append_left _ _ _ (by simp; omega), gx_take _ _ _ h1]
    · exact row_gx Z R o j h (by omega)
theorem mid_sub (Z RR new : List Int) (o h : Nat) (ho : o + RR.length ≤ Z.length) (hn : h + new.length = RR.length) : mid (mid Z o RR) (o + h) new = mid Z o (RR.take h ++ new) := by
  have l1 := mid_length Z RR o ho
  have l2 : (RR.take h ++ new).length = RR.length := by simp; omega
  refine gx_ext _ _ (by rw [mid_length _ _ _ (by rw [l1]; omega), l1, mid_length _ _ _ (by rw [l2]; omega)]) fun j hj => ?_
  rw [gx_mid _ _ _ _ (by rw [l1]; omega), gx_mid _ _ _ _ ho, gx_mid _ _ _ _ (by rw [l2]; omega), l2]
  by_cases h1 : o + h ≤ j ∧ j < o + h + new.length
  · rw [if_pos h1, if_pos (by omega), gx_append_right _ _ _ (by simp; omega)]
    congr 1; simp; omega
  · rw [if_neg h1]
    by_cases h2 : o ≤ j ∧ j < o + RR.length
    · rw [if_pos h2, if_pos (by omega), gx_append_left _ _ _ (by simp; omega), gx_take _ _ _ (by omega)]
    · rw [if_neg h2, if_neg (by omega)]
theorem kara {xl xh yl yh P md : Int} (h : md + xl * yl + xh * yh = (xl + xh) * (yl + yh)) : xl * yl + P * P * (xh * yh) + P * md = (xl + P * xh) * (yl + P * yh) := by
  have e : md = xl * yh + xh * yl := by grind
  rw [e]; grind
theorem mid_drop_part (Z RR : List Int) (o h m : Nat) (ho : o + RR.length ≤ Z.length) (hm : h + m = RR.length) : ((mid Z o RR).drop (o + h)).take m = RR.drop h := by
  have l1 := mid_length Z RR o ho
  refine gx_ext _ _ (by simp [l1]; omega) fun j hj => ?_
  have hj' : j < m := by simp at hj; omega
  rw [gx_take _ _ _ hj', gx_drop, gx_drop, gx_mid _ _ _ _ ho, if_pos (by omega)]
  congr 1; omega
theorem no_carry {a b c P : Int} (h : a + P * c = b) (ha : 0 ≤ a) (hb : b < P) (hc0 : 0 ≤ c) (hc1 : c ≤ 1) : c = 0 := by
  rcases (show c = 0 ∨ c = 1 by omega) with e | e
  · exact e
  · subst e; omega
theorem no_lack {a b d c P : Int} (h : a + b = d + P * c) (ha : a < P) (hd : b ≤ d) (hc0 : 0 ≤ c) (hc1 : c ≤ 1) : c = 0 := by
  rcases (show c = 0 ∨ c = 1 by omega) with e | e
  · exact e
  · subst e; omega
theorem rd_take_part {w : World} {g o : Nat} {e : TypeId} {Z R : List Int} {j m : Nat} (h : Row w g e .u32 (mid Z o R)) (ho : o + R.length ≤ Z.length) (hm : j + m ≤ R.length) : Rd w (some ⟨g, o + j, none⟩) .u32 ((R.drop j).take m) := fun hx => by
  refine ⟨g, o + j, rfl, fun i hi => ?_⟩
  have hi' : i < m := by simp at hi; omega
  have := h.mid_cell ho (j + i) (by omega)
  rw [gx_take _ _ _ hi', gx_drop, Nat.add_assoc]; exact this
theorem mid_midK (Z R1 R2 : List Int) (o : Nat) (h : o + (R1.length + R2.length) ≤ Z.length) : mid (mid Z o R1) (o + R1.length) R2 = mid Z o (R1 ++ R2) := by
  have l1 := mid_length Z R1 o (by omega)
  refine gx_ext _ _ (by rw [mid_length _ _ _ (by rw [l1]; omega), l1, mid_length _ _ _ (by simp; omega)]) fun j hj => ?_
  rw [gx_mid _ _ _ _ (by rw [l1]; omega), gx_mid _ _ _ _ (by omega), gx_mid _ _ _ _ (by simp; omega), List.length_append]
  by_cases h1 : o + R1.length ≤ j ∧ j < o + R1.length + R2.length
  · rw [if_pos h1, if_pos (by omega), gx_append_right _ _ _ (by omega)]
    congr 1; omega
  · rw [if_neg h1]
    by_cases h2 : o ≤ j ∧ j < o + R1.length
    · rw [if_pos h2, if_pos (by omega), gx_append_left _ _ _ (by omega)]
    · rw [if_neg h2, if_neg (by omega)]
theorem u32_mid {Z R : List Int} {o : Nat} (hZ : U32 Z) (hR : U32 R) : U32 (mid Z o R) := u32_append (u32_append (u32_take hZ _) hR) (u32_drop hZ _)
end Go.Proofs.YtejnhpjejcpekaaGreatDoor
