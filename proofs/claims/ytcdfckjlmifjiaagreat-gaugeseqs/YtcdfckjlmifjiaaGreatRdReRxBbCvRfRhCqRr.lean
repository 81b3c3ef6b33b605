/-
  Plain facts on digits to the base 65536 and on numbers in normal form: no program in sight.
-/
import Derived.Test.YtcdfckjlmifjiaaGreatWkWlBxRaWhWmBe
import Derived.Deep.DeepCutAuto
namespace Go.Proofs.YtcdfckjlmifjiaaGreat
open Go.RowKit
set_option linter.unusedVariables false
set_option linter.unusedSimpArgs false

theorem tr_self {xs : List Int} (h : tlen xs = xs.length) : tr xs = xs := by rw [tr, h, List.take_length]
/-- The base of digits to the k. -/
def pd (k : Nat) : Int := 65536 ^ k
theorem pd_zero : pd 0 = 1 := rfl
theorem pd_succ (k : Nat) : pd (k + 1) = 65536 * pd k := by unfold pd; rw [Int.pow_succ, Int.mul_comm]
theorem pd_pos (k : Nat) : 0 < pd k := Int.pow_pos (by decide)
theorem pd_add (a b : Nat) : pd (a + b) = pd a * pd b := Int.pow_add ..
theorem pd_mono {a b : Nat} (h : a ≤ b) : pd a ≤ pd b := by
  obtain ⟨c, rfl⟩ := Nat.exists_eq_add_of_le h
  rw [pd_add]
  have h1 := pd_pos a
  have h2 := pd_pos c
  have : pd a * 1 ≤ pd a * pd c := Int.mul_le_mul_of_nonneg_left (by omega) (by omega)
  omega
theorem pd_two (k : Nat) : pd (2 * k) = pw k := by
  induction k with
  | zero => rfl
  | succ k ih => rw [show 2 * (k + 1) = 2 * k + 1 + 1 by omega, pd_succ, pd_succ, pw_succ, ih]; omega
theorem vd_append (a b : List Int) : vd (a ++ b) = vd a + pd a.length * vd b := by
  induction a with
  | nil => simp [vd, pd_zero]
  | cons x r ih =>
    simp only [List.cons_append, vd, List.length_cons, pd_succ, ih, Int.mul_add, Int.mul_assoc]
    omega
theorem vd_one (x : Int) : vd [x] = x := by simp [vd]
theorem vd_take_succ (xs : List Int) (k : Nat) : vd (xs.take (k + 1)) = vd (xs.take k) + pd k * gx xs k := by
  by_cases h : k < xs.length
  · rw [take_snoc xs k h, vd_append, vd_one, List.length_take, Nat.min_eq_left (by omega)]
  · rw [gx_past xs k (by omega) k (Nat.le_refl _), List.take_of_length_le (by omega), List.take_of_length_le (by omega)]; simp
theorem u16_nil : U16 [] := fun j => by rw [gx_nil]; decide
theorem u16_take {xs : List Int} (h : U16 xs) (k : Nat) : U16 (xs.take k) := fun j => by
  by_cases hj : j < k
  · rw [gx_take xs k j hj]; exact h j
  · rw [gx_past (xs.take k) k (by simp; omega) j (by omega)]; decide
theorem u16_drop {xs : List Int} (h : U16 xs) (k : Nat) : U16 (xs.drop k) := fun j => by rw [gx_drop]; exact h _
theorem u16_append {a b : List Int} (ha : U16 a) (hb : U16 b) : U16 (a ++ b) := fun j => by
  by_cases hj : j < a.length
  · rw [gx_append_left a b j hj]; exact ha j
  · rw [gx_append_right a b j (by omega)]; exact hb _
theorem u16_one {x : Int} (h : 0 ≤ x ∧ x < 65536) : U16 [x] := u16_cons h u16_nil
theorem u16_tail {x : Int} {r : List Int} (h : U16 (x :: r)) : (0 ≤ x ∧ x < 65536) ∧ U16 r :=
  ⟨by have := h 0; rwa [gx_zero] at this, fun j => by have := h (j + 1); rwa [gx_succ] at this⟩
theorem vd_nonneg {xs : List Int} (h : U16 xs) : 0 ≤ vd xs := by
  induction xs with
  | nil => simp [vd]
  | cons x r ih => obtain ⟨h1, h2⟩ := u16_tail h; have := ih h2; simp only [vd]; omega
theorem vd_lt {xs : List Int} (h : U16 xs) : vd xs < pd xs.length := by
  induction xs with
  | nil => simp [vd, pd_zero]
  | cons x r ih => obtain ⟨h1, h2⟩ := u16_tail h; have := ih h2; simp only [vd, List.length_cons, pd_succ]; omega
theorem vd_drop_take (xs : List Int) (k : Nat) (h : k ≤ xs.length) : vd xs = vd (xs.take k) + pd k * vd (xs.drop k) := by
  have := vd_append (xs.take k) (xs.drop k)
  rwa [List.take_append_drop, List.length_take, Nat.min_eq_left h] at this
theorem vd_at (a : List Int) (j : Nat) (h : j < a.length) : vd a = vd (a.take j) + pd j * gx a j + pd (j + 1) * vd (a.drop (j + 1)) := by
  rw [vd_drop_take a (j + 1) (by omega), vd_take_succ a j]
/-- The highest digit in which two numbers differ decides. -/
theorem vd_lt_at {a b : List Int} (ha : U16 a) (hb : U16 b) (j : Nat) (h1 : j < a.length) (h2 : j < b.length) (hd : a.drop (j + 1) = b.drop (j + 1)) (h : gx a j < gx b j) : vd a < vd b := by
  rw [vd_at a j h1, vd_at b j h2, hd]
  have l1 := vd_lt (u16_take ha j)
  have l2 := vd_nonneg (u16_take hb j)
  rw [List.length_take, Nat.min_eq_left (by omega)] at l1
  have l3 : pd j * gx a j ≤ pd j * (gx b j - 1) := Int.mul_le_mul_of_nonneg_left (by omega) (Int.le_of_lt (pd_pos j))
  rw [Int.mul_sub, Int.mul_one] at l3
  omega
theorem vd_pos_of_top {xs : List Int} (h : U16 xs) (ht : 0 < tlen xs) : pd (tlen xs - 1) ≤ vd xs := by
  have hl := tlen_le xs
  have ht' := tlen_top xs ht
  have hg := h (tlen xs - 1)
  rw [vd_at xs (tlen xs - 1) (by omega)]
  have h1 := vd_nonneg (u16_take h (tlen xs - 1))
  have h2 := vd_nonneg (u16_drop h (tlen xs - 1 + 1))
  have h3 := pd_pos (tlen xs - 1)
  have h4 : pd (tlen xs - 1) * 1 ≤ pd (tlen xs - 1) * gx xs (tlen xs - 1) := Int.mul_le_mul_of_nonneg_left (by omega) (by omega)
  have h5 := Int.mul_nonneg (Int.le_of_lt (pd_pos (tlen xs - 1 + 1))) h2
  omega
theorem vd_lt_tlen {xs : List Int} (h : U16 xs) : vd xs < pd (tlen xs) := by
  have := vd_lt (u16_tr h)
  rwa [vd_tr, length_tr] at this
theorem tlen_zero_iff16 {xs : List Int} (h : U16 xs) : tlen xs = 0 ↔ vd xs = 0 := by
  constructor
  · intro h0
    rw [← vd_tr, tr, h0]; rfl
  · intro h0
    rcases Nat.eq_zero_or_pos (tlen xs) with ht | ht
    · exact ht
    · have := vd_pos_of_top h ht; have := pd_pos (tlen xs - 1); omega
theorem vd_lt_len {a b : List Int} (ha : U16 a) (hb : U16 b) (h : tlen a < tlen b) : vd a < vd b := by
  have h1 := vd_lt_tlen ha
  have h2 := vd_pos_of_top hb (by omega)
  have h3 : pd (tlen a) ≤ pd (tlen b - 1) := pd_mono (by omega)
  omega

theorem u16_zeros (n : Nat) : U16 (zeros n) := fun j => by rw [gx_zeros]; decide
theorem cut16 (P t : Int) : P * (t % 65536) + 65536 * P * (t / 65536) = P * t := by
  have h := Int.emod_add_mul_ediv t 65536
  have e : 65536 * P * (t / 65536) = P * (65536 * (t / 65536)) := by
    rw [Int.mul_comm 65536 P, Int.mul_assoc]
  rw [e, ← Int.mul_add, h]
theorem u16_set {R : List Int} (h : U16 R) (j : Nat) {v : Int} (hv : 0 ≤ v ∧ v < 65536) : U16 (R.set j v) := fun k => by
  by_cases hk : j = k
  · subst hk
    by_cases hl : j < R.length
    · rw [gx_set_eq R j v hl]; exact hv
    · rw [gx_past (R.set j v) R.length (by simp) j (by omega)]; decide
  · rw [gx_set_ne R j k v hk]; exact h k
end Go.Proofs.YtcdfckjlmifjiaaGreat
/-
  ashlarref1.Eq, where both are the same.
-/
namespace Go.Proofs.YtcdfckjlmifjiaaGreat
open Go.RowKit
set_option linter.unusedVariables false
set_option linter.unusedSimpArgs false

end Go.Proofs.YtcdfckjlmifjiaaGreat
/-
  Small rules for digits.
-/
namespace Go.Proofs.YtcdfckjlmifjiaaGreat
open Go.RowKit
set_option linter.unusedVariables false
set_option linter.unusedSimpArgs false

theorem info_int : (Tryz.prog.info? 3).map (fun i => (i.zero, i.size, i.bytes)) = some (some (.int .i64 0), 1, 8) := by kernel_rfl
theorem spl_snoc (xs : List Int) (k : Nat) (h : k < xs.length) : spl (xs.take (k + 1)) = spl (xs.take k) ++ [gx xs k % 65536, gx xs k / 65536] := by
  rw [take_snoc xs k h, spl_append]; rfl

theorem bel_alw {W x : World} {o : Obj} (h : Below W.heap.size W x) : Below W.heap.size W (x.alloc o) := h.alloc h.size o

end Go.Proofs.YtcdfckjlmifjiaaGreat
/-
  Numbers and boxes, carried on: small rules.
-/
namespace Go.Proofs.YtcdfckjlmifjiaaGreat
open Go.RowKit
set_option linter.unusedVariables false
set_option linter.unusedSimpArgs false

/-- What a callee leaves, as rules for the walk. -/
theorem bcell {W w1 : World} (hb : Below W.heap.size W w1) : (∀ b o, b < W.heap.size → w1.cell? ⟨b, o, none⟩ = W.cell? ⟨b, o, none⟩) ∧ (∀ b o, b < W.heap.size → w1.frozen? ⟨b, o, none⟩ = W.frozen? ⟨b, o, none⟩) :=
  ⟨fun b o h => hb.cell (p := ⟨b, o, none⟩) h, fun b o h => hb.frozen (p := ⟨b, o, none⟩) h⟩

/-- The same, with what it says of sizes. -/
theorem brules {X w3 : World} (hb : Below X.heap.size X w3) : (∀ b o, b < X.heap.size → w3.cell? ⟨b, o, none⟩ = X.cell? ⟨b, o, none⟩) ∧ (∀ b o, b < X.heap.size → w3.frozen? ⟨b, o, none⟩ = X.frozen? ⟨b, o, none⟩) ∧
    (∀ r, r < X.heap.size → r < w3.heap.size) ∧ (∀ r, r < X.heap.size → r ≤ w3.heap.size) ∧ (∀ r, r < X.heap.size → r ≤ w3.heap.size + 1) :=
  ⟨(bcell hb).1, (bcell hb).2, fun r h => Nat.lt_of_lt_of_le h hb.size, fun r h => Nat.le_of_lt (Nat.lt_of_lt_of_le h hb.size), fun r h => by have := hb.size; omega⟩

theorem bne {X w3 : World} (hb : Below X.heap.size X w3) : (∀ r, r < X.heap.size → r ≠ w3.heap.size) ∧ (∀ r, r < X.heap.size → w3.heap.size ≠ r) ∧ (∀ r, r < X.heap.size → r ≠ w3.heap.size + 1) ∧ (∀ r, r < X.heap.size → w3.heap.size + 1 ≠ r) := by
  have := hb.size
  exact ⟨fun r h => by omega, fun r h => by omega, fun r h => by omega, fun r h => by omega⟩
theorem bel_al {w x : World} {o : Obj} (h : Below w.heap.size w x) : Below w.heap.size w (x.alloc o) := h.alloc h.size o
theorem comp {X2 w2 X3 w3 : World} (h2 : Below X2.heap.size X2 w2) (hX : Below w2.heap.size w2 X3) (h3 : Below X3.heap.size X3 w3) : Below X2.heap.size X2 w3 :=
  (h2.trans (hX.mono h2.size)).trans (h3.mono (Nat.le_trans h2.size hX.size))

theorem NI_al {B : Nat} {w : World} {s : Bool} {p : Option Addr} {n : Nat} {xs : List Int} {z : Int} {o : Obj} (h : NI B w s p n xs z) : NI B (w.alloc o) s p n xs z := h.below ((Below.refl _ _).alloc (Nat.le_refl _) o)
theorem NI.lt {B : Nat} {w : World} {s : Bool} {p : Option Addr} {n : Nat} {xs : List Int} {z : Int} (h : NI B w s p n xs z) : ∀ x, p = some x → x.block < w.heap.size := fun x hx => by
  rcases Nat.eq_zero_or_pos n with h0 | h0
  · rw [h.pn h0] at hx; cases hx
  · obtain ⟨b, off, hp, hlt⟩ := h.rd.lt (by rw [h.len]; exact h0)
    rw [hp] at hx; cases hx; exact hlt
theorem Bx_al {w : World} {r : Nat} {u v : Value} {o : Obj} (h : Bx w r u v) : Bx (w.alloc o) r u v := h.alloc o
theorem Bx_new {w : World} {r t : Nat} {u v : Value} (h : r = w.heap.size) : Bx (w.alloc (.cells #[u, v] t)) r u v := Bx.new u v t h
theorem Bx_set {w : World} {g : Nat} {u v x y : Value} (h : Bx w g u v) : Bx ((w.setCell ⟨g, 0, none⟩ x).setCell ⟨g, 1, none⟩ y) g x y := by
  have h1 : (w.setCell ⟨g, 0, none⟩ x).cell? ⟨g, 1, none⟩ = some v := by rw [World.cell?_setCell_other _ _ _ _ (by simp)]; exact h.c1
  refine ⟨?_, World.cell?_setCell_same _ _ _ h1, ?_, ?_⟩
  · rw [World.cell?_setCell_other _ _ _ _ (by simp)]; exact World.cell?_setCell_same _ _ _ h.c0
  · rw [World.frozen?_setCell, World.frozen?_setCell]; exact h.f0
  · rw [World.frozen?_setCell, World.frozen?_setCell]; exact h.f1
theorem Bx_oth {w : World} {r g : Nat} {u v x y : Value} (h : Bx w r u v) (hne : r ≠ g) : Bx ((w.setCell ⟨g, 0, none⟩ x).setCell ⟨g, 1, none⟩ y) r u v := by
  have e : ((w.setCell ⟨g, 0, none⟩ x).setCell ⟨g, 1, none⟩ y).heap[r]? = w.heap[r]? := (heap_setCell_other _ _ r y hne).trans (heap_setCell_other _ _ r x hne)
  exact ⟨(World.cell?_of_block (a := ⟨r, 0, none⟩) e).trans h.c0, (World.cell?_of_block (a := ⟨r, 1, none⟩) e).trans h.c1, (World.frozen?_of_block (a := ⟨r, 0, none⟩) e).trans h.f0, (World.frozen?_of_block (a := ⟨r, 1, none⟩) e).trans h.f1⟩
theorem Bel_al {B : Nat} {w x : World} {o : Obj} (h : Below B w x) (hB : B ≤ w.heap.size) : Below B w (x.alloc o) := h.alloc (Nat.le_trans hB h.size) o
theorem Bel_st {B : Nat} {w x : World} {a : Addr} {v : Value} (h : Below B w x) (ha : B ≤ a.block) : Below B w (x.setCell a v) := h.setCell ha v
end Go.Proofs.YtcdfckjlmifjiaaGreat
/-
  Numbers carried on behind calls and stores.
-/
namespace Go.Proofs.YtcdfckjlmifjiaaGreat
open Go.RowKit
set_option linter.unusedVariables false
set_option linter.unusedSimpArgs false

theorem AI.setF {w : World} {p : Option Addr} {n nc F : Nat} {xs : List Int} (h : AI w p n nc xs) (hF : Go.Proofs.YtcdfckjlmifjiaaGreat.From F p) {a : Addr} (ha : a.block < F) (v : Value) : AI (w.setCell a v) p n nc xs :=
  ⟨h.len, h.cap, h.bnd, h.sml, h.rd.set_other a v (fun b hb e => by have := hF b hb; omega), h.u⟩
theorem AI.set2 {w : World} {p : Option Addr} {n nc F : Nat} {xs : List Int} (h : AI w p n nc xs) (hF : Go.Proofs.YtcdfckjlmifjiaaGreat.From F p) {g : Nat} (hg : g < F) (u v : Value) : AI ((w.setCell ⟨g, 0, none⟩ u).setCell ⟨g, 1, none⟩ v) p n nc xs :=
  (h.setF hF (a := ⟨g, 0, none⟩) hg u).setF hF (a := ⟨g, 1, none⟩) hg v
theorem From.mono {B F : Nat} {p : Option Addr} (h : Go.Proofs.YtcdfckjlmifjiaaGreat.From F p) (hB : B ≤ F) : Go.Proofs.YtcdfckjlmifjiaaGreat.From B p := fun a ha => Nat.le_trans hB (h a ha)
/-- One call more. -/
theorem bnext {B : Nat} {a b c : World} (h : Below B a b) (hB : B ≤ a.heap.size) (k : Below b.heap.size b c) : Below B a c := h.trans (k.mono (Nat.le_trans hB h.size))
theorem bnext' {a b c : World} (h : Below a.heap.size a b) (k : Below b.heap.size b c) : Below a.heap.size a c := bnext h (Nat.le_refl _) k
theorem bset2 {B g : Nat} {a b : World} (h : Below B a b) (hg : B ≤ g) (u v : Value) : Below B a ((b.setCell ⟨g, 0, none⟩ u).setCell ⟨g, 1, none⟩ v) := (h.setCell (p := ⟨g, 0, none⟩) hg u).setCell (p := ⟨g, 1, none⟩) hg v
end Go.Proofs.YtcdfckjlmifjiaaGreat
/-
  ashlarref1.To.
-/
namespace Go.Proofs.YtcdfckjlmifjiaaGreat
open Go.RowKit
set_option linter.unusedVariables false
set_option linter.unusedSimpArgs false

end Go.Proofs.YtcdfckjlmifjiaaGreat
/-
  What functions of the reference answer.
-/
namespace Go.Proofs.YtcdfckjlmifjiaaGreat
open Go.RowKit
set_option linter.unusedVariables false
set_option linter.unusedSimpArgs false

theorem rval_nsg (neg : Bool) {D : List Int} (h : U16 D) : rval (nsg neg D) (tr D) = rval neg D := by
  rw [rval, rval, vd_tr, nsg]
  split
  · rename_i ht
    have h0 := (tlen_zero_iff16 h).1 ht
    simp [h0]
  · rfl
theorem rval_spl (s : Bool) (xs : List Int) : rval s (spl xs) = ival s xs := by rw [rval, ival, vd_spl]
/-- What a function of the reference answers that gives a number. -/
def RAns (N : Nat) (z : Int) (w : World) (e : Ending) (w' : World) : Prop :=
  ∃ s' p' n' ds', e = .returned (.agg #[.bool s', .slice p' n' n']) ∧ RN w' s' p' n' ds' ∧ rval s' ds' = z ∧ n' ≤ N ∧ Go.Proofs.YtcdfckjlmifjiaaGreat.From w.heap.size p' ∧ Below w.heap.size w w'
/-- The end of a function that answers trim(neg, d), d a row of its own from block B on. -/
theorem end_rn {w W wr w4 : World} {r N : Nat} {neg : Bool} {q : Option Addr} {D : List Int} {z : Int} {u v : Value} (hbw : Below w.heap.size w W) (hr : w.heap.size ≤ r) (hr' : r < W.heap.size) (hBr : Below W.heap.size W wr) (hb4 : Below wr.heap.size wr w4)
    (hq3 : Rd wr q .i64 D) (hq4 : Go.Proofs.YtcdfckjlmifjiaaGreat.From W.heap.size q) (hU : U16 D) (hl : tlen D ≤ 1000000000) (hv : rval neg D = z) (hN : tlen D ≤ N) :
    RAns N z w (.returned (.agg #[.bool (nsg neg D), .slice q (tlen D) (tlen D)])) ((w4.setCell ⟨r, 0, none⟩ u).setCell ⟨r, 1, none⟩ v) := by
  have htl := tlen_le D
  refine ⟨_, q, tlen D, tr D, rfl, ⟨length_tr _, ?_, u16_tr hU, tlen_tr _, fun h => by rw [nsg, if_pos h], by omega⟩, by rw [rval_nsg neg hU, hv], hN, fun a ha => Nat.le_trans hbw.size (hq4 a ha), ?_⟩
  · exact ((hq3.tr.below hb4).set_other _ _ (fun a ha => by have := hq4 a ha; simp; omega)).set_other _ _ (fun a ha => by have := hq4 a ha; simp; omega)
  · exact (((hbw.trans (hBr.mono hbw.size)).trans (hb4.mono (by have := hBr.size; have := hbw.size; omega))).setCell (p := ⟨r, 0, none⟩) hr _).setCell (p := ⟨r, 1, none⟩) hr _

theorem rval_not (s : Bool) (xs : List Int) : rval (!s) xs = - rval s xs := by cases s <;> simp [rval]

theorem mk_int (n : Nat) (h : n ≤ 1000000000) (w : World) : (Instr.makeSlice 60 (.int .i64 n) (.int .i64 n)).run Tryz.prog w =
    .ok (.slice (some ⟨w.heap.size, 0, none⟩) n n) (w.alloc (.cells (ca .i64 (zeros n)) 3)) := by
  have hi := info_int
  cases hq : Tryz.prog.info? 3 with
  | none => rw [hq] at hi; cases hi
  | some i =>
    rw [hq] at hi
    simp only [Option.map_some, Option.some.injEq, Prod.mk.injEq] at hi
    obtain ⟨h1, h2, h3⟩ := hi
    have hr := run_make (P := Tryz.prog) w 60 3 i (.int .i64 0) Tryz.underlying60 hq h1 .i64 .i64 n n (by omega) (Int.le_refl _) (by rw [h3]; omega) (by omega)
    rw [Int.toNat_natCast, h2] at hr
    rw [hr]
    exact congrArg (fun c => Result.ok (Value.slice (some ⟨w.heap.size, 0, none⟩) n n) (w.alloc (.cells c 3))) (made_zeros .i64 n)
end Go.Proofs.YtcdfckjlmifjiaaGreat
/-
  Reference numbers carried on.
-/
namespace Go.Proofs.YtcdfckjlmifjiaaGreat
open Go.RowKit
set_option linter.unusedVariables false
set_option linter.unusedSimpArgs false

theorem RN.set {w : World} {s : Bool} {p : Option Addr} {n : Nat} {ds : List Int} (h : RN w s p n ds) {a : Addr} (hne : 0 < n → Off a.block p) (v : Value) : RN (w.setCell a v) s p n ds :=
  ⟨h.len, fun hx => (h.rd.set_other a v (hne (by rw [← h.len]; exact hx))) hx, h.u, h.nrm, h.sg, h.sml⟩
theorem RN.alloc {w : World} {s : Bool} {p : Option Addr} {n : Nat} {ds : List Int} (h : RN w s p n ds) (o : Obj) : RN (w.alloc o) s p n ds := ⟨h.len, h.rd.alloc o, h.u, h.nrm, h.sg, h.sml⟩
theorem RN.drew {w : World} {s : Bool} {p : Option Addr} {n : Nat} {ds : List Int} (h : RN w s p n ds) : RN w.drew s p n ds := ⟨h.len, h.rd.drew, h.u, h.nrm, h.sg, h.sml⟩
theorem RN_al {w : World} {s : Bool} {p : Option Addr} {n : Nat} {ds : List Int} {o : Obj} (h : RN w s p n ds) : RN (w.alloc o) s p n ds := h.alloc o
theorem RN_st2 {U : Nat} {w : World} {s : Bool} {p : Option Addr} {n : Nat} {ds : List Int} {a : Addr} {v : Value} (hU : 0 < n → ∀ x, p = some x → x.block < U) (ha : U ≤ a.block) (h : RN w s p n ds) : RN (w.setCell a v) s p n ds :=
  h.set (fun hn x hx e => by have := hU hn x hx; omega) v
theorem RN.lt {w : World} {s : Bool} {p : Option Addr} {n : Nat} {ds : List Int} (h : RN w s p n ds) : 0 < n → ∀ x, p = some x → x.block < w.heap.size := fun hn x hx => by
  obtain ⟨b, off, hp, hlt⟩ := h.rd.lt (by rw [h.len]; exact hn)
  rw [hp] at hx
  cases hx
  exact hlt
end Go.Proofs.YtcdfckjlmifjiaaGreat
/-
  Reference numbers with their values and a bound of their size.
-/
namespace Go.Proofs.YtcdfckjlmifjiaaGreat
open Go.RowKit
set_option linter.unusedVariables false
set_option linter.unusedSimpArgs false

/-- A reference number of the value z, of at most N digits. -/
def RV (w : World) (N : Nat) (z : Int) (s : Bool) (p : Option Addr) (n : Nat) : Prop := ∃ ds, RN w s p n ds ∧ rval s ds = z ∧ n ≤ N
def RVP (N : Nat) (z : Int) (w : World) (e : Ending) (w' : World) : Prop :=
  ∃ s p n, e = .returned (.agg #[.bool s, .slice p n n]) ∧ RV w' N z s p n ∧ Go.Proofs.YtcdfckjlmifjiaaGreat.From w.heap.size p ∧ Below w.heap.size w w'
section
variable {w w' : World} {N M K : Nat} {z x y : Int} {s t : Bool} {p q : Option Addr} {n m : Nat}
theorem RV.below (h : RV w N z s p n) (hb : Below w.heap.size w w') : RV w' N z s p n := by
  obtain ⟨ds, h1, h2⟩ := h
  exact ⟨ds, h1.below hb, h2⟩
theorem RV.drew (h : RV w N z s p n) : RV w.drew N z s p n := by
  obtain ⟨ds, h1, h2⟩ := h
  exact ⟨ds, h1.drew, h2⟩
theorem RV.alloc (h : RV w N z s p n) (o : Obj) : RV (w.alloc o) N z s p n := by
  obtain ⟨ds, h1, h2⟩ := h
  exact ⟨ds, h1.alloc o, h2⟩
theorem RV.off (h : RV w N z s p n) {g : Nat} (hg : w.heap.size ≤ g) : 0 < n → Off g p := by
  obtain ⟨ds, h1, h2⟩ := h
  exact fun hn => h1.rd.off hg (by rw [h1.len]; exact hn)
theorem RV.le (h : RV w N z s p n) : n ≤ N := by
  obtain ⟨ds, h1, h2, h3⟩ := h
  exact h3
theorem RV.up (h : RV w N z s p n) (hN : N ≤ M) : RV w M z s p n := by
  obtain ⟨ds, h1, h2, h3⟩ := h
  exact ⟨ds, h1, h2, by omega⟩
theorem RV.of (h : RV w N z s p n) (e : z = x) : RV w N x s p n := e ▸ h
theorem RV.bd (h : RV w N z s p n) : (z.natAbs : Int) < pd N := by
  obtain ⟨ds, h1, rfl, h3⟩ := h
  have a := vd_nonneg h1.u
  have b := vd_lt h1.u
  rw [h1.len] at b
  have c := pd_mono h3
  unfold rval
  split <;> omega
theorem RV.tight (h : RV w N z s p n) (hz : (z.natAbs : Int) < pw K) : RV w (2 * K) z s p n := by
  obtain ⟨ds, h1, rfl, h3⟩ := h
  refine ⟨ds, h1, rfl, ?_⟩
  have a := vd_nonneg h1.u
  have e : ((rval s ds).natAbs : Int) = vd ds := by unfold rval; split <;> omega
  rw [e, ← pd_two] at hz
  rcases Nat.lt_or_ge (2 * K) n with hk | hk
  · have b := vd_pos_of_top h1.u (by rw [h1.nrm]; omega)
    rw [h1.nrm] at b
    have c := pd_mono (show 2 * K ≤ n - 1 by omega)
    omega
  · exact hk
theorem RVP.of {e : Ending} (h : RAns N z w e w') : RVP N z w e w' := by
  obtain ⟨s, p, n, ds, h1, h2, h3, h4, h5, h6⟩ := h
  exact ⟨s, p, n, h1, ⟨ds, h2, h3, h4⟩, h5, h6⟩
end
end Go.Proofs.YtcdfckjlmifjiaaGreat
