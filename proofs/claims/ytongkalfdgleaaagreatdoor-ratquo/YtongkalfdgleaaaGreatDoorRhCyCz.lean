/-
  What functions of the reference answer.
-/
import Derived.Test.YtongkalfdgleaaaGreatDoorRbRf
import Derived.Test.YtongkalfdgleaaaGreatDoorBfReCx
namespace Go.Proofs.YtongkalfdgleaaaGreatDoor
open Go.RowKit
set_option linter.unusedVariables false
set_option linter.unusedSimpArgs false

theorem rval_nsg (neg : Bool) {D : List Int} (h : U16 D) : rval (nsg neg D) (tr D) = rval neg D := by
  rw [rval, rval, vd_tr, nsg]
  split
  · rename_i ht
    have h0 := (tlen_zero_iff16 h).1 ht
    simp [h0]
  · rfl
theorem rval_spl (s : Bool) (xs : List Int) : rval s (spl xs) = ival s xs := by rw [rval, ival, vd_spl]
/-- What a function of the reference answers that gives a number. -/
def RAns (N : Nat) (z : Int) (w : World) (e : Ending) (w' : World) : Prop :=
  ∃ s' p' n' ds', e = .returned (.agg #[.bool s', .slice p' n' n']) ∧ RN w' s' p' n' ds' ∧ rval s' ds' = z ∧ n' ≤ N ∧ Go.Proofs.YtongkalfdgleaaaGreatDoor.From w.heap.size p' ∧ Below w.heap.size w w'
/-- The end of a function that answers trim(neg, d), d a row of its own from block B on. -/
theorem end_rn {w W wr w4 : World} {r N : Nat} {neg : Bool} {q : Option Addr} {D : List Int} {z : Int} {u v : Value} (hbw : Below w.heap.size w W) (hr : w.heap.size ≤ r) (hr' : r < W.heap.size) (hBr : Below W.heap.size W wr) (hb4 : Below wr.heap.size wr w4)
    (hq3 : Rd wr q .i64 D) (hq4 : Go.Proofs.YtongkalfdgleaaaGreatDoor.From W.heap.size q) (hU : U16 D) (hl : tlen D ≤ 1000000000) (hv : rval neg D = z) (hN : tlen D ≤ N) :
    RAns N z w (.returned (.agg #[.bool (nsg neg D), .slice q (tlen D) (tlen D)])) ((w4.setCell ⟨r, 0, none⟩ u).setCell ⟨r, 1, none⟩ v) := by
  have htl := tlen_le D
  refine ⟨_, q, tlen D, tr D, rfl, ⟨length_tr _, ?_, u16_tr hU, tlen_tr _, fun h => by rw [nsg, if_pos h], by omega⟩, by rw [rval_nsg neg hU, hv], hN, fun a ha => Nat.le_trans hbw.size (hq4 a ha), ?_⟩
  · exact ((hq3.tr.below hb4).set_other _ _ (fun a ha => by have := hq4 a ha; simp; omega)).set_other _ _ (fun a ha => by have := hq4 a ha; simp; omega)
  · exact (((hbw.trans (hBr.mono hbw.size)).trans (hb4.mono (by have := hBr.size; have := hbw.size; omega))).setCell (p := ⟨r, 0, none⟩) hr _).setCell (p := ⟨r, 1, none⟩) hr _

/-- The end of a function that answers trim(neg, d), d what a callee has answered. -/
theorem end_rn2 {w W w1 w2 : World} {r N : Nat} {neg : Bool} {q : Option Addr} {D : List Int} {z : Int} {u v : Value} (hbw : Below w.heap.size w W) (hr : w.heap.size ≤ r) (hr' : r < W.heap.size) (hb1 : Below W.heap.size W w1) (hb2 : Below w1.heap.size w1 w2)
    (hq3 : Rd w1 q .i64 D) (hq4 : Go.Proofs.YtongkalfdgleaaaGreatDoor.From W.heap.size q) (hU : U16 D) (hl : D.length ≤ N) (hN : N ≤ 1000000000) (hv : rval neg D = z) :
    RAns N z w (.returned (.agg #[.bool (nsg neg D), .slice q (tlen D) (tlen D)])) ((w2.setCell ⟨r, 0, none⟩ u).setCell ⟨r, 1, none⟩ v) :=
  end_rn hbw hr hr' hb1 hb2 hq3 hq4 hU (by have := tlen_le D; omega) hv (by have := tlen_le D; omega)

theorem rval_not (s : Bool) (xs : List Int) : rval (!s) xs = - rval s xs := by cases s <;> simp [rval]

theorem mk_int (n : Nat) (h : n ≤ 1000000000) (w : World) : (Instr.makeSlice 29 (.int .i64 n) (.int .i64 n)).run Tryz.prog w =
    .ok (.slice (some ⟨w.heap.size, 0, none⟩) n n) (w.alloc (.cells (ca .i64 (zeros n)) 3)) := by
  have hi := info_int
  cases hq : Tryz.prog.info? 3 with
  | none => rw [hq] at hi; cases hi
  | some i =>
    rw [hq] at hi
    simp only [Option.map_some, Option.some.injEq, Prod.mk.injEq] at hi
    obtain ⟨h1, h2, h3⟩ := hi
    have hr := run_make (P := Tryz.prog) w 29 3 i (.int .i64 0) Tryz.underlying29 hq h1 .i64 .i64 n n (by omega) (Int.le_refl _) (by rw [h3]; omega) (by omega)
    rw [Int.toNat_natCast, h2] at hr
    rw [hr]
    exact congrArg (fun c => Result.ok (Value.slice (some ⟨w.heap.size, 0, none⟩) n n) (w.alloc (.cells c 3))) (made_zeros .i64 n)
end Go.Proofs.YtongkalfdgleaaaGreatDoor
/-
  What the walks of the laws share: reference numbers carried on.
-/
namespace Go.Proofs.YtongkalfdgleaaaGreatDoor
open Go.RowKit
set_option linter.unusedVariables false
set_option linter.unusedSimpArgs false

theorem RN.set {w : World} {s : Bool} {p : Option Addr} {n : Nat} {ds : List Int} (h : RN w s p n ds) {a : Addr} (hne : 0 < n → Off a.block p) (v : Value) : RN (w.setCell a v) s p n ds :=
  ⟨h.len, fun hx => (h.rd.set_other a v (hne (by rw [← h.len]; exact hx))) hx, h.u, h.nrm, h.sg, h.sml⟩
theorem RN.alloc {w : World} {s : Bool} {p : Option Addr} {n : Nat} {ds : List Int} (h : RN w s p n ds) (o : Obj) : RN (w.alloc o) s p n ds := ⟨h.len, h.rd.alloc o, h.u, h.nrm, h.sg, h.sml⟩
theorem RN.drew {w : World} {s : Bool} {p : Option Addr} {n : Nat} {ds : List Int} (h : RN w s p n ds) : RN w.drew s p n ds := ⟨h.len, h.rd.drew, h.u, h.nrm, h.sg, h.sml⟩
theorem RN_al {w : World} {s : Bool} {p : Option Addr} {n : Nat} {ds : List Int} {o : Obj} (h : RN w s p n ds) : RN (w.alloc o) s p n ds := h.alloc o
theorem RN_st3 {F : Nat} {w : World} {s : Bool} {p : Option Addr} {n : Nat} {ds : List Int} {a : Addr} {v : Value} (hF : Go.Proofs.YtongkalfdgleaaaGreatDoor.From F p) (ha : a.block < F) (h : RN w s p n ds) : RN (w.setCell a v) s p n ds :=
  h.set (fun _ x hx e => by have := hF x hx; omega) v
theorem RN_st2 {U : Nat} {w : World} {s : Bool} {p : Option Addr} {n : Nat} {ds : List Int} {a : Addr} {v : Value} (hU : 0 < n → ∀ x, p = some x → x.block < U) (ha : U ≤ a.block) (h : RN w s p n ds) : RN (w.setCell a v) s p n ds :=
  h.set (fun hn x hx e => by have := hU hn x hx; omega) v
theorem RN.lt {w : World} {s : Bool} {p : Option Addr} {n : Nat} {ds : List Int} (h : RN w s p n ds) : 0 < n → ∀ x, p = some x → x.block < w.heap.size := fun hn x hx => by
  obtain ⟨b, off, hp, hlt⟩ := h.rd.lt (by rw [h.len]; exact hn)
  rw [hp] at hx
  cases hx
  exact hlt
/-- A reference number with its value. -/
theorem From_ansF (s : Bool) (p : Option Addr) (n nc : Nat) (xs : List Int) (w : World) (hA : AI w p n nc xs) :
    Calls Tryz.prog 29 #[.agg #[.bool s, .slice p n nc]] w fun e w' => ∃ s' p' n' ds', e = .returned (.agg #[.bool s', .slice p' n' n']) ∧ RN w' s' p' n' ds' ∧ rval s' ds' = ival s xs ∧ n' ≤ 2 * n ∧ Go.Proofs.YtongkalfdgleaaaGreatDoor.From w.heap.size p' ∧ Below w.heap.size w w' := by
  refine (From_any s p n nc xs w hA).mono ?_
  rintro e w' ⟨s', q, nq, rfl, hR, rfl, hF, hb⟩
  refine ⟨_, q, nq, _, rfl, hR, by rw [rval_nsg s (u16_spl hA.u), rval_spl], ?_, hF, hb⟩
  have h1 := hR.nrm
  rw [tlen_tr] at h1
  have h2 := tlen_le (spl xs)
  rw [length_spl] at h2
  have := hA.len
  omega
theorem From_ans (s : Bool) (p : Option Addr) (n nc : Nat) (xs : List Int) (w : World) (hA : AI w p n nc xs) :
    Calls Tryz.prog 29 #[.agg #[.bool s, .slice p n nc]] w fun e w' => ∃ s' p' n' ds', e = .returned (.agg #[.bool s', .slice p' n' n']) ∧ RN w' s' p' n' ds' ∧ rval s' ds' = ival s xs ∧ n' ≤ 2 * n ∧ Below w.heap.size w w' := by
  refine (From_ansF s p n nc xs w hA).mono ?_
  rintro e w' ⟨s', p', n', ds', h1, h2, h3, h4, h5, h6⟩
  exact ⟨s', p', n', ds', h1, h2, h3, h4, h6⟩
end Go.Proofs.YtongkalfdgleaaaGreatDoor
/-
  Two numbers behind Cut, as the laws hold them.
-/
namespace Go.Proofs.YtongkalfdgleaaaGreatDoor
open Go.RowKit
set_option linter.unusedVariables false
set_option linter.unusedSimpArgs false

/-- Two numbers in variables of their own, behind Cut. -/
structure C2 (w wc : World) (sa sb : Bool) (pa pb : Option Addr) (na nac nb nbc : Nat) (xa xb : List Int) : Prop where
  a : Vr wc w.heap.size sa pa na nac (w.heap.size + 1 + 1) xa
  b : Vr wc (w.heap.size + 1) sb pb nb nbc (w.heap.size + 1 + 1) xb
  la : na ≤ 24
  lb : nb ≤ 24
  bel : Below w.heap.size w wc
theorem C2.later {w wc w' : World} {sa sb : Bool} {pa pb : Option Addr} {na nac nb nbc : Nat} {xa xb : List Int} (h : C2 w wc sa sb pa pb na nac nb nbc xa xb) (hb : Below wc.heap.size wc w') : C2 w w' sa sb pa pb na nac nb nbc xa xb :=
  ⟨h.a.later hb, h.b.later hb, h.la, h.lb, bnext h.bel (Nat.le_refl _) hb⟩


theorem keepc8 {w1 w2 : World} {a b c d e f g h : Addr} {u v x y z t r s : Value} (k : w1.cell? a = some u ∧ w1.cell? b = some v ∧ w1.cell? c = some x ∧ w1.cell? d = some y ∧ w1.cell? e = some z ∧ w1.cell? f = some t ∧ w1.cell? g = some r ∧ w1.cell? h = some s) (hb : Below w1.heap.size w1 w2) :
    w2.cell? a = some u ∧ w2.cell? b = some v ∧ w2.cell? c = some x ∧ w2.cell? d = some y ∧ w2.cell? e = some z ∧ w2.cell? f = some t ∧ w2.cell? g = some r ∧ w2.cell? h = some s :=
  ⟨cell_later hb k.1, cell_later hb k.2.1, cell_later hb k.2.2.1, cell_later hb k.2.2.2.1, cell_later hb k.2.2.2.2.1, cell_later hb k.2.2.2.2.2.1, cell_later hb k.2.2.2.2.2.2.1, cell_later hb k.2.2.2.2.2.2.2⟩
theorem unfr {W : World} {p : Option Addr} (h : Go.Proofs.YtongkalfdgleaaaGreatDoor.From W.drew.heap.size p) : Go.Proofs.YtongkalfdgleaaaGreatDoor.From W.heap.size p := h
theorem s4set {w : World} {b c g : Nat} {u v x y r s : Value} (h : w.cell? ⟨b, 0, none⟩ = some u ∧ w.cell? ⟨b, 1, none⟩ = some v ∧ w.cell? ⟨c, 0, none⟩ = some x ∧ w.cell? ⟨c, 1, none⟩ = some y) (h1 : b ≠ g) (h2 : c ≠ g) :
    ((w.setCell ⟨g, 0, none⟩ r).setCell ⟨g, 1, none⟩ s).cell? ⟨b, 0, none⟩ = some u ∧ ((w.setCell ⟨g, 0, none⟩ r).setCell ⟨g, 1, none⟩ s).cell? ⟨b, 1, none⟩ = some v ∧ ((w.setCell ⟨g, 0, none⟩ r).setCell ⟨g, 1, none⟩ s).cell? ⟨c, 0, none⟩ = some x ∧ ((w.setCell ⟨g, 0, none⟩ r).setCell ⟨g, 1, none⟩ s).cell? ⟨c, 1, none⟩ = some y := by
  obtain ⟨a1, a2, a3, a4⟩ := h
  refine ⟨?_, ?_, ?_, ?_⟩
  · rw [World.cell?_of_block (heap_setCell_other _ _ _ _ h1), World.cell?_of_block (heap_setCell_other _ _ _ _ h1)]; exact a1
  · rw [World.cell?_of_block (heap_setCell_other _ _ _ _ h1), World.cell?_of_block (heap_setCell_other _ _ _ _ h1)]; exact a2
  · rw [World.cell?_of_block (heap_setCell_other _ _ _ _ h2), World.cell?_of_block (heap_setCell_other _ _ _ _ h2)]; exact a3
  · rw [World.cell?_of_block (heap_setCell_other _ _ _ _ h2), World.cell?_of_block (heap_setCell_other _ _ _ _ h2)]; exact a4
/-- A reference number in a variable of its own, with its value. -/
structure Vx (w : World) (g : Nat) (s : Bool) (p : Option Addr) (n : Nat) (ds : List Int) (z : Int) : Prop where
  b : Bx w g (.bool s) (.slice p n n)
  r : RN w s p n ds
  v : rval s ds = z
  l : n ≤ 48
theorem Vx.later {w w' : World} {g : Nat} {s : Bool} {p : Option Addr} {n : Nat} {ds : List Int} {z : Int} (h : Vx w g s p n ds z) (hb : Below w.heap.size w w') : Vx w' g s p n ds z := ⟨h.b.later hb, h.r.below hb, h.v, h.l⟩
end Go.Proofs.YtongkalfdgleaaaGreatDoor
