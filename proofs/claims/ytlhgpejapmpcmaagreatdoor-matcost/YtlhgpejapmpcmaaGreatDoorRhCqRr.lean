/-
  What functions of the reference answer.
-/
import Derived.Test.YtlhgpejapmpcmaaGreatDoorReRxRf
namespace Go.Proofs.YtlhgpejapmpcmaaGreatDoor
open Go.RowKit
set_option linter.unusedVariables false
set_option linter.unusedSimpArgs false

theorem rval_nsg (neg : Bool) {D : List Int} (h : U16 D) : rval (nsg neg D) (tr D) = rval neg D := by
  rw [rval, rval, vd_tr, nsg]
  split
  · rename_i ht
    have h0 := (tlen_zero_iff16 h).1 ht
    simp [h0]
  · rfl
theorem rval_spl (s : Bool) (xs : List Int) : rval s (spl xs) = ival s xs := by rw [rval, ival, vd_spl]
/-- What a function of the reference answers that gives a number. -/
def RAns (N : Nat) (z : Int) (w : World) (e : Ending) (w' : World) : Prop :=
  ∃ s' p' n' ds', e = .returned (.agg #[.bool s', .slice p' n' n']) ∧ RN w' s' p' n' ds' ∧ rval s' ds' = z ∧ n' ≤ N ∧ Go.Proofs.YtlhgpejapmpcmaaGreatDoor.From w.heap.size p' ∧ Below w.heap.size w w'
/-- The end of a function that answers trim(neg, d), d a row of its own from block B on. -/
theorem end_rn {w W wr w4 : World} {r N : Nat} {neg : Bool} {q : Option Addr} {D : List Int} {z : Int} {u v : Value} (hbw : Below w.heap.size w W) (hr : w.heap.size ≤ r) (hr' : r < W.heap.size) (hBr : Below W.heap.size W wr) (hb4 : Below wr.heap.size wr w4)
    (hq3 : Rd wr q .i64 D) (hq4 : Go.Proofs.YtlhgpejapmpcmaaGreatDoor.From W.heap.size q) (hU : U16 D) (hl : tlen D ≤ 1000000000) (hv : rval neg D = z) (hN : tlen D ≤ N) :
    RAns N z w (.returned (.agg #[.bool (nsg neg D), .slice q (tlen D) (tlen D)])) ((w4.setCell ⟨r, 0, none⟩ u).setCell ⟨r, 1, none⟩ v) := by
  have htl := tlen_le D
  refine ⟨_, q, tlen D, tr D, rfl, ⟨length_tr _, ?_, u16_tr hU, tlen_tr _, fun h => by rw [nsg, if_pos h], by omega⟩, by rw [rval_nsg neg hU, hv], hN, fun a ha => Nat.le_trans hbw.size (hq4 a ha), ?_⟩
  · exact ((hq3.tr.below hb4).set_other _ _ (fun a ha => by have := hq4 a ha; simp; omega)).set_other _ _ (fun a ha => by have := hq4 a ha; simp; omega)
  · exact (((hbw.trans (hBr.mono hbw.size)).trans (hb4.mono (by have := hBr.size; have := hbw.size; omega))).setCell (p := ⟨r, 0, none⟩) hr _).setCell (p := ⟨r, 1, none⟩) hr _

/-- The end of a function that answers trim(neg, d), d what a callee has answered. -/
theorem end_rn2 {w W w1 w2 : World} {r N : Nat} {neg : Bool} {q : Option Addr} {D : List Int} {z : Int} {u v : Value} (hbw : Below w.heap.size w W) (hr : w.heap.size ≤ r) (hr' : r < W.heap.size) (hb1 : Below W.heap.size W w1) (hb2 : Below w1.heap.size w1 w2)
    (hq3 : Rd w1 q .i64 D) (hq4 : Go.Proofs.YtlhgpejapmpcmaaGreatDoor.From W.heap.size q) (hU : U16 D) (hl : D.length ≤ N) (hN : N ≤ 1000000000) (hv : rval neg D = z) :
    RAns N z w (.returned (.agg #[.bool (nsg neg D), .slice q (tlen D) (tlen D)])) ((w2.setCell ⟨r, 0, none⟩ u).setCell ⟨r, 1, none⟩ v) :=
  end_rn hbw hr hr' hb1 hb2 hq3 hq4 hU (by have := tlen_le D; omega) hv (by have := tlen_le D; omega)

theorem rval_not (s : Bool) (xs : List Int) : rval (!s) xs = - rval s xs := by cases s <;> simp [rval]

theorem mk_int (n : Nat) (h : n ≤ 1000000000) (w : World) : (Instr.makeSlice 29 (.int .i64 n) (.int .i64 n)).run Tryz.prog w =
    .ok (.slice (some ⟨w.heap.size, 0, none⟩) n n) (w.alloc (.cells (ca .i64 (zeros n)) 3)) := by
  have hi := info_int
  cases hq : Tryz.prog.info? 3 with
  | none => rw [hq] at hi; cases hi
  | some i =>
    rw [hq] at hi
    simp only [Option.map_some, Option.some.injEq, Prod.mk.injEq] at hi
    obtain ⟨h1, h2, h3⟩ := hi
    have hr := run_make (P := Tryz.prog) w 29 3 i (.int .i64 0) Tryz.underlying29 hq h1 .i64 .i64 n n (by omega) (Int.le_refl _) (by rw [h3]; omega) (by omega)
    rw [Int.toNat_natCast, h2] at hr
    rw [hr]
    exact congrArg (fun c => Result.ok (Value.slice (some ⟨w.heap.size, 0, none⟩) n n) (w.alloc (.cells c 3))) (made_zeros .i64 n)
end Go.Proofs.YtlhgpejapmpcmaaGreatDoor
/-
  Reference numbers carried on.
-/
namespace Go.Proofs.YtlhgpejapmpcmaaGreatDoor
open Go.RowKit
set_option linter.unusedVariables false
set_option linter.unusedSimpArgs false

theorem RN.set {w : World} {s : Bool} {p : Option Addr} {n : Nat} {ds : List Int} (h : RN w s p n ds) {a : Addr} (hne : 0 < n → Off a.block p) (v : Value) : RN (w.setCell a v) s p n ds :=
  ⟨h.len, fun hx => (h.rd.set_other a v (hne (by rw [← h.len]; exact hx))) hx, h.u, h.nrm, h.sg, h.sml⟩
theorem RN.alloc {w : World} {s : Bool} {p : Option Addr} {n : Nat} {ds : List Int} (h : RN w s p n ds) (o : Obj) : RN (w.alloc o) s p n ds := ⟨h.len, h.rd.alloc o, h.u, h.nrm, h.sg, h.sml⟩
theorem RN.drew {w : World} {s : Bool} {p : Option Addr} {n : Nat} {ds : List Int} (h : RN w s p n ds) : RN w.drew s p n ds := ⟨h.len, h.rd.drew, h.u, h.nrm, h.sg, h.sml⟩
theorem RN_al {w : World} {s : Bool} {p : Option Addr} {n : Nat} {ds : List Int} {o : Obj} (h : RN w s p n ds) : RN (w.alloc o) s p n ds := h.alloc o
theorem RN_st3 {F : Nat} {w : World} {s : Bool} {p : Option Addr} {n : Nat} {ds : List Int} {a : Addr} {v : Value} (hF : Go.Proofs.YtlhgpejapmpcmaaGreatDoor.From F p) (ha : a.block < F) (h : RN w s p n ds) : RN (w.setCell a v) s p n ds :=
  h.set (fun _ x hx e => by have := hF x hx; omega) v
theorem RN_st2 {U : Nat} {w : World} {s : Bool} {p : Option Addr} {n : Nat} {ds : List Int} {a : Addr} {v : Value} (hU : 0 < n → ∀ x, p = some x → x.block < U) (ha : U ≤ a.block) (h : RN w s p n ds) : RN (w.setCell a v) s p n ds :=
  h.set (fun hn x hx e => by have := hU hn x hx; omega) v
theorem RN.lt {w : World} {s : Bool} {p : Option Addr} {n : Nat} {ds : List Int} (h : RN w s p n ds) : 0 < n → ∀ x, p = some x → x.block < w.heap.size := fun hn x hx => by
  obtain ⟨b, off, hp, hlt⟩ := h.rd.lt (by rw [h.len]; exact hn)
  rw [hp] at hx
  cases hx
  exact hlt
end Go.Proofs.YtlhgpejapmpcmaaGreatDoor
/-
  Reference numbers with their values and a bound of their size.
-/
namespace Go.Proofs.YtlhgpejapmpcmaaGreatDoor
open Go.RowKit
set_option linter.unusedVariables false
set_option linter.unusedSimpArgs false

/-- A reference number of the value z, of at most N digits. -/
def RV (w : World) (N : Nat) (z : Int) (s : Bool) (p : Option Addr) (n : Nat) : Prop := ∃ ds, RN w s p n ds ∧ rval s ds = z ∧ n ≤ N
def RVP (N : Nat) (z : Int) (w : World) (e : Ending) (w' : World) : Prop :=
  ∃ s p n, e = .returned (.agg #[.bool s, .slice p n n]) ∧ RV w' N z s p n ∧ Go.Proofs.YtlhgpejapmpcmaaGreatDoor.From w.heap.size p ∧ Below w.heap.size w w'
section
variable {w w' : World} {N M K : Nat} {z x y : Int} {s t : Bool} {p q : Option Addr} {n m : Nat}
theorem RV.below (h : RV w N z s p n) (hb : Below w.heap.size w w') : RV w' N z s p n := by
  obtain ⟨ds, h1, h2⟩ := h
  exact ⟨ds, h1.below hb, h2⟩
theorem RV.drew (h : RV w N z s p n) : RV w.drew N z s p n := by
  obtain ⟨ds, h1, h2⟩ := h
  exact ⟨ds, h1.drew, h2⟩
theorem RV.alloc (h : RV w N z s p n) (o : Obj) : RV (w.alloc o) N z s p n := by
  obtain ⟨ds, h1, h2⟩ := h
  exact ⟨ds, h1.alloc o, h2⟩
theorem RV.off (h : RV w N z s p n) {g : Nat} (hg : w.heap.size ≤ g) : 0 < n → Off g p := by
  obtain ⟨ds, h1, h2⟩ := h
  exact fun hn => h1.rd.off hg (by rw [h1.len]; exact hn)
theorem RV.le (h : RV w N z s p n) : n ≤ N := by
  obtain ⟨ds, h1, h2, h3⟩ := h
  exact h3
theorem RV.up (h : RV w N z s p n) (hN : N ≤ M) : RV w M z s p n := by
  obtain ⟨ds, h1, h2, h3⟩ := h
  exact ⟨ds, h1, h2, by omega⟩
theorem RV.of (h : RV w N z s p n) (e : z = x) : RV w N x s p n := e ▸ h
theorem RV.bd (h : RV w N z s p n) : (z.natAbs : Int) < pd N := by
  obtain ⟨ds, h1, rfl, h3⟩ := h
  have a := vd_nonneg h1.u
  have b := vd_lt h1.u
  rw [h1.len] at b
  have c := pd_mono h3
  unfold rval
  split <;> omega
theorem RV.tight (h : RV w N z s p n) (hz : (z.natAbs : Int) < pw K) : RV w (2 * K) z s p n := by
  obtain ⟨ds, h1, rfl, h3⟩ := h
  refine ⟨ds, h1, rfl, ?_⟩
  have a := vd_nonneg h1.u
  have e : ((rval s ds).natAbs : Int) = vd ds := by unfold rval; split <;> omega
  rw [e, ← pd_two] at hz
  rcases Nat.lt_or_ge (2 * K) n with hk | hk
  · have b := vd_pos_of_top h1.u (by rw [h1.nrm]; omega)
    rw [h1.nrm] at b
    have c := pd_mono (show 2 * K ≤ n - 1 by omega)
    omega
  · exact hk
theorem RVP.of {e : Ending} (h : RAns N z w e w') : RVP N z w e w' := by
  obtain ⟨s, p, n, ds, h1, h2, h3, h4, h5, h6⟩ := h
  exact ⟨s, p, n, h1, ⟨ds, h2, h3, h4⟩, h5, h6⟩
end
end Go.Proofs.YtlhgpejapmpcmaaGreatDoor
