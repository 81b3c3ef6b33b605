/-
  PolyTerms, its walk.
-/
import Derived.Test.YtakfimhpnpapdaaGreatDoorVkJoNc
import Derived.LoopNIn
import Derived.LoopIn
namespace Go.Proofs.YtakfimhpnpapdaaGreatDoor
open Go.RowKit Go.Shelf
set_option linter.unusedVariables false
set_option linter.unusedSimpArgs false
attribute [local go_sem] Oper.semAt_some

/-- What lies ready when the rounds begin. -/
structure TB (w w4 : World) (X g : Nat) (most : Int) (px q : Option Addr) (m : Nat) (ex fs : List Ent) (xs : List Int) : Prop where
  cM : w4.cell? ⟨w.heap.size, 0, none⟩ = some (.int .i64 most)
  cR : w4.cell? ⟨w.heap.size + 1, 0, none⟩ = some (.bool false)
  fR : w4.frozen? ⟨w.heap.size + 1, 0, none⟩ = false
  cX : w4.cell? ⟨X, 0, none⟩ = some (.slice px m m)
  pr : PR w4 8 px m m ex xs
  pa : PA w4 4 q m m fs xs
  cG : w4.cell? ⟨g, 0, none⟩ = some (.slice q m m)
  bw : Below w.heap.size w w4
  sm : m ≤ 40
/-- What holds between two rounds of the range. -/
structure TI (w4 : World) (U b9 b10 : Nat) (ds : List Deferred) (xs : List Int) (pre : List (Nat × Ent)) (V : World) : Prop where
  mks : Marks w4.heap.size U V ds
  bw : Below w4.heap.size w4 V
  k : V.cell? ⟨b9, 0, none⟩ = some (.int .i64 (pre.length : Nat))
  fk : V.frozen? ⟨b9, 0, none⟩ = false
  aj : ∃ j : Nat, V.cell? ⟨b10, 0, none⟩ = some (.int .i64 j) ∧ Behind xs j ∧ pre.map (·.1) = idx xs j
  fa : V.frozen? ⟨b10, 0, none⟩ = false
theorem TI.own {w4 : World} {U b9 b10 : Nat} {ds : List Deferred} {xs : List Int} {B : Nat} (hU : U ≤ B) (h4 : w4.heap.size ≤ B) : OwnFrom B (TI w4 U b9 b10 ds xs) := fun pre V V' row h hg hr =>
  have hr' : ∀ r, row = some r → ∃ o : Obj, V.heap[r]? = some o ∧ o.isCells = false := fun r e => (hr r e).2
  ⟨h.mks.grown hg fun r e => Nat.le_trans hU (hr r e).1, ownFrom_below (Nat.le_refl _) h4 () V V' row h.bw hg hr, cell_kept h.k hg hr', (frozen_kept h.k hg hr').trans h.fk,
    (by obtain ⟨j, h1, h2⟩ := h.aj; exact ⟨j, cell_kept h1 hg hr', h2⟩), (by obtain ⟨j, h1, h2⟩ := h.aj; exact (frozen_kept h1 hg hr').trans h.fa)⟩
theorem keeps_below {V V' : World} (hb : Below V.heap.size V V') : KeepsOthers V V' := KeepsOthers.of_grownBy (row := none) (grownBy_below hb none) (fun _ _ e => by cases e)
theorem TI.later {w4 : World} {U b9 b10 : Nat} {ds : List Deferred} {xs : List Int} {pre : List (Nat × Ent)} {V V' : World} (h : TI w4 U b9 b10 ds xs pre V) (hb : Below V.heap.size V V') : TI w4 U b9 b10 ds xs pre V' :=
  TI.own (B := max U w4.heap.size) (by omega) (by omega) pre V V' none h (grownBy_below hb none) (fun _ e => by cases e)
/-- What the body of a round is told. -/
def TA (w4 : World) (U b9 b10 : Nat) (ds : List Deferred) (xs : List Int) (m : Nat) (pre : List (Nat × Ent)) (x : Nat × Ent) (b : Nat) (V : World) : Prop :=
  TI w4 U b9 b10 ds xs pre V ∧ Told xs m 4 (b10 + 1) pre x V ∧ V.cell? ⟨b, 0, none⟩ = some (.bool x.2.s) ∧ V.cell? ⟨b, 1, none⟩ = some (.slice x.2.p x.2.n x.2.c) ∧ b9 < b ∧ b10 < b
theorem TA.own {w4 : World} {U b9 b10 : Nat} {ds : List Deferred} {xs : List Int} {m B : Nat} (hU : U ≤ B) (h4 : w4.heap.size ≤ B) (pre : List (Nat × Ent)) (x : Nat × Ent) (b : Nat) : OwnFrom B fun (_ : Unit) V => TA w4 U b9 b10 ds xs m pre x b V := fun _ V V' row h hg hr =>
  ⟨TI.own hU h4 pre V V' row h.1 hg hr, told_own B xs m 4 (b10 + 1) pre x () V V' row h.2.1 hg hr, cell_kept h.2.2.1 hg fun r e => (hr r e).2, cell_kept h.2.2.2.1 hg fun r e => (hr r e).2, h.2.2.2.2⟩
/-- What the body of a round has moved: two cells of the loop's own. -/
structure Mv (N b9 b10 : Nat) (A U : World) : Prop where
  below : Below N A U
  oth : KeepsOthers A U
  blk : ∀ i, i < A.heap.size → i ≠ b9 → i ≠ b10 → U.heap[i]? = A.heap[i]?
section
variable {N b9 b10 : Nat} {A U U' : World}
theorem Mv.refl (N b9 b10 : Nat) (A : World) : Mv N b9 b10 A A := ⟨Below.refl _ _, KeepsOthers.refl _, fun _ _ _ _ => rfl⟩
theorem Mv.call (h : Mv N b9 b10 A U) (hN : N ≤ A.heap.size) (hb : Below U.heap.size U U') : Mv N b9 b10 A U' := ⟨h.below.trans (hb.mono (Nat.le_trans hN h.below.size)), h.oth.trans (keeps_below hb), fun i hi h9 h10 => (hb.block i (Nat.lt_of_lt_of_le hi h.below.size)).trans (h.blk i hi h9 h10)⟩
theorem Mv.set (h : Mv N b9 b10 A U) {b : Nat} (hb : b = b9 ∨ b = b10) (hN : N ≤ b) (v : Value) : Mv N b9 b10 A (U.setCell ⟨b, 0, none⟩ v) := ⟨h.below.setCell (p := ⟨b, 0, none⟩) hN v, h.oth.trans (KeepsOthers.setCell _ _ _), fun i hi h9 h10 => (heap_setCell_other U _ i v (by rintro rfl; rcases hb with rfl | rfl <;> first | exact h9 rfl | exact h10 rfl)).trans (h.blk i hi h9 h10)⟩
theorem Mv.cell (h : Mv N b9 b10 A U) {i o : Nat} {v : Value} (hc : A.cell? ⟨i, o, none⟩ = some v) (h9 : i ≠ b9) (h10 : i ≠ b10) : U.cell? ⟨i, o, none⟩ = some v := by
  obtain ⟨ob, ho, -⟩ := cells_of_cell hc
  exact (World.cell?_of_block (h.blk i (Array.getElem?_eq_some_iff.1 ho).1 h9 h10)).trans hc
theorem Mv.nv (h : Mv N b9 b10 A U) {B K : Nat} {z : Int} {e : Ent} (hv : NV B A K z e) (h9 : b9 < B) (h10 : b10 < B) : NV B U K z e := by
  obtain ⟨xs, h1, h2⟩ := hv
  refine ⟨xs, ⟨h1.len, fun hp => ?_, h1.u, h1.nrm, h1.sg, h1.pn, h1.v, h1.fr, fun a ha => ?_⟩, h2⟩
  · obtain ⟨b, o, e, hc⟩ := h1.rd hp
    have := h1.fr _ e
    dsimp only at this
    exact ⟨b, o, e, fun j hj => h.cell (hc j hj) (by omega) (by omega)⟩
  · have := h1.fr a ha
    obtain ⟨f1, f2⟩ := h1.fz a ha
    exact ⟨Nat.lt_of_lt_of_le f1 h.below.size, fun j => (World.frozen?_of_block (a := ⟨a.block, j, none⟩) (h.blk a.block f1 (by omega) (by omega))).trans (f2 j)⟩
end
/-- The end of a round: both counts one on. -/
theorem TI.end_ {w4 : World} {U b9 b10 : Nat} {ds : List Deferred} {xs : List Int} {m : Nat} {pre : List (Nat × Ent)} {j : Nat} {xe : Ent} {b : Nat} {A V : World} (hA : TA w4 U b9 b10 ds xs m pre (j, xe) b A) (hM : Mv w4.heap.size b9 b10 A V) (hN : w4.heap.size ≤ b9)
    (a9 : V.cell? ⟨b9, 0, none⟩ = some (.int .i64 (pre.length : Nat))) (g9 : V.frozen? ⟨b9, 0, none⟩ = false) (a10 : V.cell? ⟨b10, 0, none⟩ = some (.int .i64 (j : Nat))) (g10 : V.frozen? ⟨b10, 0, none⟩ = false) (h910 : b9 < b10 := by omega) :
    Mv w4.heap.size b9 b10 A ((V.setCell ⟨b10, 0, none⟩ (.int .i64 ((j : Int) + 1))).setCell ⟨b9, 0, none⟩ (.int .i64 ((pre.length : Int) + 1))) ∧
      TI w4 U b9 b10 ds xs (pre ++ [(j, xe)]) ((V.setCell ⟨b10, 0, none⟩ (.int .i64 ((j : Int) + 1))).setCell ⟨b9, 0, none⟩ (.int .i64 ((pre.length : Int) + 1))) := by
  have M := (hM.set (.inr rfl) (show w4.heap.size ≤ b10 by omega) (.int .i64 ((j : Int) + 1))).set (.inl rfl) hN (.int .i64 ((pre.length : Int) + 1))
  refine ⟨M, hA.1.mks.others M.oth, hA.1.bw.trans M.below, ?_, by rw [World.frozen?_setCell, World.frozen?_setCell]; exact g9, ⟨j + 1, ?_, .inr ⟨j, rfl, hA.2.1.2.2.1⟩, ?_⟩, by rw [World.frozen?_setCell, World.frozen?_setCell]; exact g10⟩
  · rw [List.length_append]
    exact World.cell?_setCell_same' _ _ _ (by rw [World.cell?_setCell_far _ _ _ _ (by simp; omega), a9]; rfl)
  · exact (World.cell?_setCell_far _ _ _ _ (by simp; omega)).trans (World.cell?_setCell_same' _ _ _ (by rw [a10]; rfl))
  · rw [List.map_append, hA.2.1.1, idx_succ, if_neg hA.2.1.2.2.1]; rfl
theorem TI.marks {w4 : World} {U0 b9 b10 D : Nat} {ds : List Deferred} {xs : List Int} {pre : List (Nat × Ent)} {W U : World} (hI : TI w4 U0 b9 b10 ds xs pre W) (hM : Mv w4.heap.size b9 b10 W U) (hdf : W.heap[D]? = some (.deferred (some []))) (hD : U0 ≤ D) (h4 : w4.heap.size ≤ D) :
    Marks w4.heap.size U.heap.size U ({ target := .collected D, args := #[] } :: ds) ∧ Below w4.heap.size w4 U := ⟨(hI.mks.others hM.oth).next h4 hD (hM.oth.same D _ hdf rfl), hI.bw.trans hM.below⟩
set_option maxHeartbeats 2000000 in
set_option maxRecDepth 100000 in
/-- PolyTerms. -/
theorem PolyTerms_walk {w : World} {p : Option Addr} {n nc : Nat} {es : List Ent} (h : PZ w p n nc es) (most : Int) :
    Calls Tryz.prog 5 #[.slice p n nc, .int .i64 most] w fun r w' => r = .returned (.bool true) ∧ Below w.heap.size w w' := by
  have HX : Hid (PZ w p n nc es) := h
  clear h
  refine (callsIn_wide (n := 5)).1 ?_
  refine callsIn_of_wp_marks Tryz.func5 rfl trivial ?_ rfl
  simp only [Tryz.ntmps5, List.size_toArray, List.length_cons, List.length_nil, Nat.reduceAdd, Nat.reduceSub, Array.replicate_succ, Array.replicate_zero, List.push_toArray, List.append_toArray, List.nil_append, List.cons_append]
  gi_wp2_with fail
  have hM : (((w.alloc (.cells #[.int .i64 most] 3)).alloc (.cells #[.bool false] 4)).cell? ⟨w.heap.size, 0, none⟩ = some (.int .i64 most)) ∧ ((w.alloc (.cells #[.int .i64 most] 3)).alloc (.cells #[.bool false] 4)).cell? ⟨w.heap.size + 1, 0, none⟩ = some (.bool false) ∧ ((w.alloc (.cells #[.int .i64 most] 3)).alloc (.cells #[.bool false] 4)).frozen? ⟨w.heap.size + 1, 0, none⟩ = false := ⟨by simp [go_sem], by simp [go_sem], by simp [go_sem]⟩
  have hal : Below w.heap.size w ((w.alloc (.cells #[.int .i64 most] 3)).alloc (.cells #[.bool false] 4)) := ((Below.refl _ w).alloc (Nat.le_refl _) _).alloc (by simp) _
  have hsz : ((w.alloc (.cells #[.int .i64 most] 3)).alloc (.cells #[.bool false] 4)).heap.size = w.heap.size + 2 := by simp
  generalize (w.alloc (.cells #[.int .i64 most] 3)).alloc (.cells #[.bool false] 4) = W0 at *
  refine ⟨trivial, (callsIn_wide.2 (begun3_any W0)).mono ?_⟩
  rintro r w1 ⟨rfl, hb1⟩
  have hc1 := Cut3_any ((HX.out.below hal).below hb1) 40 4 (by decide) (by decide)
  gi_wp2_with fail
  refine ⟨trivial, (callsIn_wide.2 hc1).mono ?_⟩
  rintro r w2 ⟨p2, n2, nc2, es2, zs, rfl, hP2, hn2, -, -, hb2⟩
  have hn40 : n2 ≤ 40 := by omega
  clear hn2 hc1 HX
  have hf1 := rpFrom_any hP2 (by omega) (by decide)
  gi_wp2_with fail
  refine ⟨trivial, (callsIn_wide.2 hf1).mono ?_⟩
  rintro r w3 ⟨px, nx, ex, rfl, hRx, -, htx, hb3⟩
  clear hf1
  have hal3 := bel_al (o := .cells #[.slice px nx nx] 33) (Below.refl w3.heap.size w3)
  have hX3 : (w3.alloc (.cells #[.slice px nx nx] 33)).cell? ⟨w3.heap.size, 0, none⟩ = some (.slice px nx nx) := by simp [go_sem]
  have hte := uTerms_any ((hP2.below hb3).below hal3) (by omega) (by decide)
  gi_wp2_with fail
  refine ⟨trivial, (callsIn_wide.2 hte).mono ?_⟩
  rintro r w4 ⟨g4, q4, m4, fs4, rfl, c4, hN4, hb4⟩
  obtain rfl : m4 = nx := by rw [← hN4.zl, ← hRx.zl]
  have hb34 := bnext' hal3 hb4
  have hb04 := bnext' hb1 (bnext' hb2 (bnext' hb3 hb34))
  have hm4 : m4 ≤ 40 := by
    have h1 := hP2.zl
    have h2 : (tr zs).length ≤ zs.length := by rw [tr, List.length_take]; omega
    have h3 := hRx.zl
    omega
  have HT : Hid (TB w w4 w3.heap.size g4 most px q4 m4 ex fs4 (tr zs)) := ⟨cell_later hb04 hM.1, cell_later hb04 hM.2.1, (hb04.frozen (p := ⟨w.heap.size + 1, 0, none⟩) (by show w.heap.size + 1 < _; omega)).trans hM.2.2, cell_later hb4 hX3, hRx.below hb34, hN4.pa (by decide) (by omega), c4, bnext' hal hb04, hm4⟩
  clear hte hM hal hb1 hb2 hb3 hb4 hal3 hX3 hP2 hRx hN4 c4 hb34 hb04 hsz
  have hnf := eq_nilf
  gi_wp2_with fail
  clear hnf
  generalize tr zs = xs at *
  refine wpIn_loop (fun a V => ∃ u8 u9 u10 u11 u12 u13 u23 u24 u25 u26 u27 u28 u29 u30 u31 u32 u33 u34 u35 u36 u37 u38 u39 u40 u41 u42 u43 u44 u45 u46 u47 u48 u49 u50 u51 u52 u53 u54 u55 u56 u57 u58 u59 u60 u61 u62 u63 u64 u65 u66 u67 u68 u69 u70 u71 u72 u73 u74 u75 u76 u77 u78 u79 u80 u81 u82 u83 ds, Hid (∃ rd : Nat, u8 = .int .i64 rd ∧ rd ≤ 2 ∧ Hid (Marks w4.heap.size V.heap.size V ds ∧ Below w4.heap.size w4 V)) ∧ a = { tmps := #[.slice p2 n2 nc2, .int .i64 most, undef, .pointer (some ⟨w.heap.size, 0, none⟩), .pointer (some ⟨w.heap.size + 1, 0, none⟩), .bool true, .pointer (some ⟨w3.heap.size, 0, none⟩), .func (.func 45) #[] #[.pointer (some ⟨g4, 0, none⟩)], u8, u9, u10, u11, u12, u13, .bool true, .slice p n nc, .slice p2 n2 nc2, .slice p2 n2 nc2, .slice px m4 m4, .slice p2 n2 nc2, .func (.func 45) #[] #[.pointer (some ⟨g4, 0, none⟩)], .func (.func 45) #[] #[.pointer (some ⟨g4, 0, none⟩)], .bool false, u23, u24, u25, u26, u27, u28, u29, u30, u31, u32, u33, u34, u35, u36, u37, u38, u39, u40, u41, u42, u43, u44, u45, u46, u47, u48, u49, u50, u51, u52, u53, u54, u55, u56, u57, u58, u59, u60, u61, u62, u63, u64, u65, u66, u67, u68, u69, u70, u71, u72, u73, u74, u75, u76, u77, u78, u79, u80, u81, u82, u83], defers := ds })
    (fun a _ => 2 - (intOf (a.tmps.getD 8 undef)).toNat) ?start ?round
  case start =>
    (repeat apply Exists.intro)
    refine ⟨?_, rfl⟩
    exact ⟨0, rfl, by decide, trivial, Below.refl _ _⟩
  case round =>
    intro a V hinv
    obtain ⟨u8, hinv⟩ := hinv
    obtain ⟨u9, hinv⟩ := hinv
    obtain ⟨u10, hinv⟩ := hinv
    obtain ⟨u11, hinv⟩ := hinv
    obtain ⟨u12, hinv⟩ := hinv
    obtain ⟨u13, hinv⟩ := hinv
    obtain ⟨u23, hinv⟩ := hinv
    obtain ⟨u24, hinv⟩ := hinv
    obtain ⟨u25, hinv⟩ := hinv
    obtain ⟨u26, hinv⟩ := hinv
    obtain ⟨u27, hinv⟩ := hinv
    obtain ⟨u28, hinv⟩ := hinv
    obtain ⟨u29, hinv⟩ := hinv
    obtain ⟨u30, hinv⟩ := hinv
    obtain ⟨u31, hinv⟩ := hinv
    obtain ⟨u32, hinv⟩ := hinv
    obtain ⟨u33, hinv⟩ := hinv
    obtain ⟨u34, hinv⟩ := hinv
    obtain ⟨u35, hinv⟩ := hinv
    obtain ⟨u36, hinv⟩ := hinv
    obtain ⟨u37, hinv⟩ := hinv
    obtain ⟨u38, hinv⟩ := hinv
    obtain ⟨u39, hinv⟩ := hinv
    obtain ⟨u40, hinv⟩ := hinv
    obtain ⟨u41, hinv⟩ := hinv
    obtain ⟨u42, hinv⟩ := hinv
    obtain ⟨u43, hinv⟩ := hinv
    obtain ⟨u44, hinv⟩ := hinv
    obtain ⟨u45, hinv⟩ := hinv
    obtain ⟨u46, hinv⟩ := hinv
    obtain ⟨u47, hinv⟩ := hinv
    obtain ⟨u48, hinv⟩ := hinv
    obtain ⟨u49, hinv⟩ := hinv
    obtain ⟨u50, hinv⟩ := hinv
    obtain ⟨u51, hinv⟩ := hinv
    obtain ⟨u52, hinv⟩ := hinv
    obtain ⟨u53, hinv⟩ := hinv
    obtain ⟨u54, hinv⟩ := hinv
    obtain ⟨u55, hinv⟩ := hinv
    obtain ⟨u56, hinv⟩ := hinv
    obtain ⟨u57, hinv⟩ := hinv
    obtain ⟨u58, hinv⟩ := hinv
    obtain ⟨u59, hinv⟩ := hinv
    obtain ⟨u60, hinv⟩ := hinv
    obtain ⟨u61, hinv⟩ := hinv
    obtain ⟨u62, hinv⟩ := hinv
    obtain ⟨u63, hinv⟩ := hinv
    obtain ⟨u64, hinv⟩ := hinv
    obtain ⟨u65, hinv⟩ := hinv
    obtain ⟨u66, hinv⟩ := hinv
    obtain ⟨u67, hinv⟩ := hinv
    obtain ⟨u68, hinv⟩ := hinv
    obtain ⟨u69, hinv⟩ := hinv
    obtain ⟨u70, hinv⟩ := hinv
    obtain ⟨u71, hinv⟩ := hinv
    obtain ⟨u72, hinv⟩ := hinv
    obtain ⟨u73, hinv⟩ := hinv
    obtain ⟨u74, hinv⟩ := hinv
    obtain ⟨u75, hinv⟩ := hinv
    obtain ⟨u76, hinv⟩ := hinv
    obtain ⟨u77, hinv⟩ := hinv
    obtain ⟨u78, hinv⟩ := hinv
    obtain ⟨u79, hinv⟩ := hinv
    obtain ⟨u80, hinv⟩ := hinv
    obtain ⟨u81, hinv⟩ := hinv
    obtain ⟨u82, hinv⟩ := hinv
    obtain ⟨u83, hinv⟩ := hinv
    obtain ⟨ds, hH, ha⟩ := hinv
    obtain ⟨rd, hu8, hrd, HV⟩ := hH.out
    clear hH
    subst ha hu8
    dsimp only
    rcases (show rd < 2 ∨ rd = 2 by omega) with hlt | rfl
    · have hd2 : decide ((rd : Int) < 2) = true := decide_eq_true (by omega)
      gi_wp2_with fail
      try rw [hd2]
      obtain ⟨hmk, hBV⟩ := HV.out
      have hs4 := hBV.size
      have hB0 : Below V.heap.size V ((V.alloc (.cells #[.int .i64 0] 3)).alloc (.cells #[.int .i64 0] 3)) := ((Below.refl _ V).alloc (Nat.le_refl _) _).alloc (by simp) _
      have hI0 : TI w4 V.heap.size V.heap.size (V.heap.size + 1) ds xs [] ((V.alloc (.cells #[.int .i64 0] 3)).alloc (.cells #[.int .i64 0] 3)) := ⟨hmk.others (keeps_below hB0), hBV.trans (hB0.mono hs4), by simp [go_sem], by simp [go_sem], ⟨0, by simp [go_sem], .inl rfl, rfl⟩, by simp [go_sem]⟩
      refine range_told (w0 := w4) rfl (by decide) (gf := 45) (lb := #[.pointer (some ⟨g4, 0, none⟩)]) rfl trivial (enters_of Tryz.func45 (by kernel_rfl) rfl)
        (encs := fun x : Nat × Ent => #[Value.int .i64 ((x.1 : Nat) : Int), .agg #[.bool x.2.s, .slice x.2.p x.2.n x.2.c]]) (T := Told xs m4 4 (V.heap.size + 1 + 1)) (S := fun ys => ys.map (·.1) = idx xs m4)
        (fun l J Jx hJ hY W hW hs h0 => terms1_told (5 - 1) (by decide) l g4 (V.heap.size + 1 + 1) w4 HT.out.pa (by omega) (by decide) J Jx hJ hY W hW (by simpa using hs) (cell_later hW HT.out.cG) h0)
        hI0.bw (fun _ => rfl) (TI w4 V.heap.size V.heap.size (V.heap.size + 1) ds xs) (fun c pre U => c = .exit 2 ∧ TI w4 V.heap.size V.heap.size (V.heap.size + 1) ds xs pre U ∧ (pre.length : Int) = most)
        (TA w4 V.heap.size V.heap.size (V.heap.size + 1) ds xs m4) (TI.own (by simp; omega) (by simp; omega)) (fun c pre A B row h hg hr => ⟨h.1, TI.own (by simp; omega) (by simp; omega) pre A B row h.2.1 hg hr, h.2.2⟩) (TA.own (by simp; omega) (by simp; omega)) hI0 ?A ?assign ?body ?done ?stop
      case assign =>
        intro l pre x W K hI hT hK
        gi_wp2_with fail
        have hsW : V.heap.size + 1 < W.heap.size := by
          obtain ⟨j, h1, -⟩ := hI.aj
          obtain ⟨o, ho, -⟩ := cells_of_cell h1
          exact (Array.getElem?_eq_some_iff.1 ho).1
        have hal := bel_al (o := .cells #[.bool x.2.s, .slice x.2.p x.2.n x.2.c] 29) (Below.refl W.heap.size W)
        have := hK W.heap.size _ ⟨hI.later hal, ⟨hT.1, hT.2.1, hT.2.2.1, hT.2.2.2.below hal⟩, by simp [go_sem], by simp [go_sem], by omega, by omega⟩ (KeepsOthers.alloc W _) (hal.mono (by omega))
        obtain ⟨b, hb⟩ : ∃ b, b = W.heap.size := ⟨_, rfl⟩
        rw [← hb] at this ⊢
        exact this
      case body =>
        intro l pre x b Wb hA
        have hsW : V.heap.size + 1 < Wb.heap.size := by
          obtain ⟨j, h1, -⟩ := hA.1.aj
          obtain ⟨o, ho, -⟩ := cells_of_cell h1
          exact (Array.getElem?_eq_some_iff.1 ho).1
        have HA : Hid (TA w4 V.heap.size V.heap.size (V.heap.size + 1) ds xs m4 pre x b Wb) := hA
        obtain ⟨j0, hj0, hjb, hje⟩ := hA.1.aj
        have hx1 := hA.2.1.2.1
        have hfa := hA.1.fa
        have hck := hA.1.k
        have hfk := hA.1.fk
        have hj1 : j0 ≤ x.1 := hjb.le (hje.symm.trans hA.2.1.1)
        have hje2 : idx xs j0 = idx xs x.1 := hje.symm.trans hA.2.1.1
        clear hA hje hjb
        obtain ⟨xi, xe⟩ := x
        dsimp only at hx1 hj1 hje2 ⊢
        obtain ⟨b9, hb9⟩ : ∃ b9, b9 = V.heap.size := ⟨_, rfl⟩
        obtain ⟨b10, hb10⟩ : ∃ b10, b10 = V.heap.size + 1 := ⟨_, rfl⟩
        gi_wp2_with fail
        gi_loopw [41] (fun _ U => ∃ j : Nat, j ≤ xi ∧ U.cell? ⟨V.heap.size + 1, 0, none⟩ = some (.int .i64 j) ∧ U.frozen? ⟨V.heap.size + 1, 0, none⟩ = false ∧ Hid (Mv w4.heap.size V.heap.size (V.heap.size + 1) Wb U ∧ idx xs j = idx xs xi ∧ U.cell? ⟨V.heap.size, 0, none⟩ = some (.int .i64 (pre.length : Nat)) ∧ U.frozen? ⟨V.heap.size, 0, none⟩ = false))
          (fun _ U => xi - (intOf ((U.cell? ⟨V.heap.size + 1, 0, none⟩).getD undef)).toNat)
        case atStart => exact ⟨j0, hj1, hj0, hfa, Mv.refl _ _ _ _, hje2, hck, hfk⟩
        case round =>
          obtain ⟨j, hj, c10, f10, H⟩ := hrel
          have hBw := HA.out.1.bw.trans H.out.1.below
          have hpr := HT.out.pr.below hBw
          have cX := cell_later hBw HT.out.cX
          have hel := hpr.el
          obtain ⟨bb, oo, hp, hc⟩ := hpr.pl (by omega)
          obtain ⟨c0, c1⟩ := hc j (by omega)
          have hv := hpr.ev j (by omega)
          subst hp
          clear hc hpr
          gi_wp2_with fail
          refine ⟨trivial, (CallsIn.inRound l (callsIn_wide.2 (rSign_e hv))).mono ?_⟩
          rintro r U2 ⟨rfl, hb2⟩
          have hNW : w4.heap.size ≤ Wb.heap.size := by omega
          have hsr : V.heap.size + 1 < wr.heap.size := Nat.lt_of_lt_of_le hsW H.out.1.below.size
          have M2 := H.out.1.call hNW hb2
          have c2 := cell_later hb2 c10
          have f2 := (hb2.frozen (p := ⟨V.heap.size + 1, 0, none⟩) hsr).trans f10
          have cX2 := cell_later hb2 cX
          have c02 := cell_later hb2 c0
          have c12 := cell_later hb2 c1
          have hv2 := hv.below hb2
          have HM : Hid (Mv w4.heap.size V.heap.size (V.heap.size + 1) Wb U2 ∧ idx xs j = idx xs xi ∧ U2.cell? ⟨V.heap.size, 0, none⟩ = some (.int .i64 (pre.length : Nat)) ∧ U2.frozen? ⟨V.heap.size, 0, none⟩ = false) := ⟨M2, H.out.2.1, cell_later hb2 H.out.2.2.1, (hb2.frozen (p := ⟨V.heap.size, 0, none⟩) (by show V.heap.size < _; omega)).trans H.out.2.2.2⟩
          have HC : Hid (wr.cell? ⟨V.heap.size + 1, 0, none⟩ = some (.int .i64 j)) := c10
          clear c10 f10 cX c0 c1 hv M2 H hBw hsr hb2
          rcases (show j < xi ∨ j = xi by omega) with hjl | rfl
          · have hz : gx xs j = 0 := idx_none HM.out.2.1 hjl
            have hz2 : idx xs (j + 1) = idx xs xi := by rw [idx_succ, if_pos hz]; exact HM.out.2.1
            rw [isgn_zero hz]
            have HZ : Hid (idx xs (j + 1) = idx xs xi) := hz2
            clear hz hz2 hv2 c02 c12
            have c3 : (U2.setCell ⟨V.heap.size + 1, 0, none⟩ (.int .i64 ((j : Int) + 1))).cell? ⟨V.heap.size + 1, 0, none⟩ = some (.int .i64 ((j : Int) + 1)) := World.cell?_setCell_same' _ _ _ (by rw [c2]; rfl)
            gi_wp2
            go_roundw
            case rel => exact ⟨j + 1, by omega, c3, by rw [World.frozen?_setCell]; exact f2, HM.out.1.set (.inr rfl) (by omega) _, HZ.out, (World.cell?_setCell_other _ _ _ _ (by simp)).trans HM.out.2.2.1, by rw [World.frozen?_setCell]; exact HM.out.2.2.2⟩
            case measure => simp [intOf, c3, HC.out]; omega
          · have hz := HA.out.2.1.2.2.1
            dsimp only at hz
            have hi : isgn (gx xs j) = 1 ∨ isgn (gx xs j) = -1 := by
              rcases (show 0 < gx xs j ∨ gx xs j < 0 by omega) with h | h
              · exact .inl (isgn_pos h)
              · exact .inr (isgn_neg h)
            have HNV : Hid (NV (V.heap.size + 1 + 1) U2 4 (gx xs j) xe) := HM.out.1.nv HA.out.2.1.2.2.2 (by omega) (by omega)
            obtain ⟨-, -, cb0, cb1, hb9', hb10'⟩ := HA.out
            have d0 := HM.out.1.cell cb0 (by omega) (by omega)
            have d1 := HM.out.1.cell cb1 (by omega) (by omega)
            clear hz cb0 cb1
            rcases hi with hi | hi
            all_goals
              rw [hi]
              gi_wp2_with fail
              have hmx : Tryz.prog.follows .mixedOrders = true := by kernel_rfl
              have hIs := rIs_en (K := 4) (N := 8) (w := U2.drew) (HNV.out.below ((Below.refl U2.heap.size U2).drew)) hv2.drew (by decide) (by decide)
              gi_region_with_o (refine ⟨trivial, (CallsIn.inRound l (callsIn_wide.2 hIs)).mono ?_⟩; rintro e U3 ⟨rfl, hb3⟩)
              all_goals
                clear hIs
                have hb3' := undrew hb3
                have M3 := HM.out.1.call hNW hb3'
                have hs2 : V.heap.size + 1 < U2.heap.size := Nat.lt_of_lt_of_le hsW HM.out.1.below.size
                have a10 := cell_later hb3' c2
                have g10 := (hb3'.frozen (p := ⟨V.heap.size + 1, 0, none⟩) hs2).trans f2
                have a9 := cell_later hb3' HM.out.2.2.1
                have g9 := (hb3'.frozen (p := ⟨V.heap.size, 0, none⟩) (by show V.heap.size < _; omega)).trans HM.out.2.2.2
                have aM := cell_later (HA.out.1.bw.trans M3.below) HT.out.cM
                have hMs : w.heap.size < w4.heap.size := by
                  obtain ⟨o, ho, -⟩ := cells_of_cell HT.out.cM
                  exact (Array.getElem?_eq_some_iff.1 ho).1
                have HE := TI.end_ HA.out M3 hs4 a9 g9 a10 g10
                clear HM hb3 hb3' M3 hs2 c2 f2 d0 d1 cX2 c02 c12 hv2 HNV hmx
                have e9 : (U3.setCell ⟨V.heap.size + 1, 0, none⟩ (.int .i64 ((j : Int) + 1))).cell? ⟨V.heap.size, 0, none⟩ = some (.int .i64 (pre.length : Nat)) := (World.cell?_setCell_far _ _ _ _ (by simp)).trans a9
                have h9 : (U3.setCell ⟨V.heap.size + 1, 0, none⟩ (.int .i64 ((j : Int) + 1))).frozen? ⟨V.heap.size, 0, none⟩ = false := by rw [World.frozen?_setCell]; exact g9
                have e99 : ((U3.setCell ⟨V.heap.size + 1, 0, none⟩ (.int .i64 ((j : Int) + 1))).setCell ⟨V.heap.size, 0, none⟩ (.int .i64 ((pre.length : Int) + 1))).cell? ⟨V.heap.size, 0, none⟩ = some (.int .i64 ((pre.length : Int) + 1)) := World.cell?_setCell_same' _ _ _ (by rw [e9]; rfl)
                have eM : ((U3.setCell ⟨V.heap.size + 1, 0, none⟩ (.int .i64 ((j : Int) + 1))).setCell ⟨V.heap.size, 0, none⟩ (.int .i64 ((pre.length : Int) + 1))).cell? ⟨w.heap.size, 0, none⟩ = some (.int .i64 most) := (World.cell?_setCell_far _ _ _ _ (by simp; omega)).trans ((World.cell?_setCell_far _ _ _ _ (by simp; omega)).trans aM)
                have hpl : pre.length ≤ 40 := by
                  have h1 := HA.out.2.1.1
                  have h2 := congrArg List.length h1
                  rw [List.length_map] at h2
                  have h3 := idx_len xs j
                  dsimp only at h2
                  omega
                by_cases hmo : (pre.length : Int) + 1 = most
                · rw [hmo] at HE
                  gi_wp2
                  exact ⟨HE.1.oth, rfl, HE.2, by rw [List.length_append]; simpa using hmo⟩
                · gi_wp2
                  exact ⟨HE.1.oth, HE.1.below, HE.2⟩
      case done =>
        rintro D ys W hD hys hI hdf
        have hDV : V.heap.size + 2 ≤ D := by simpa using hD
        have cM := cell_later hI.bw HT.out.cM
        have ck := hI.k
        by_cases hmo : (ys.length : Int) = most
        · rw [hmo] at ck
          gi_wp2
          refine ⟨?_, ?_⟩
          · (repeat apply Exists.intro)
            refine ⟨?_, rfl⟩
            exact ⟨rd + 1, by simp, by omega, hI.marks (Mv.refl _ _ _ _) hdf (by omega) (by omega)⟩
          · simp [intOf]; omega
        · obtain ⟨j0, hj0, hjb, hje⟩ := hI.aj
          have hfa := hI.fa
          have hje2 : idx xs j0 = idx xs m4 := hje.symm.trans hys
          have hj1 : j0 ≤ m4 := hjb.le hje2
          have hsW : V.heap.size + 1 < W.heap.size := by
            obtain ⟨o, ho, -⟩ := cells_of_cell hj0
            exact (Array.getElem?_eq_some_iff.1 ho).1
          have HI : Hid (TI w4 V.heap.size V.heap.size (V.heap.size + 1) ds xs ys W) := hI
          clear hI hje hjb hD
          have hne : ((ys.length : Int) != most) = true := by simpa using hmo
          gi_wp2_with fail
          try simp only [hne, hd2]
          gi_loopw [74] (fun _ U => ∃ j : Nat, j ≤ m4 ∧ U.cell? ⟨V.heap.size + 1, 0, none⟩ = some (.int .i64 j) ∧ U.frozen? ⟨V.heap.size + 1, 0, none⟩ = false ∧ Hid (Mv w4.heap.size V.heap.size (V.heap.size + 1) W U ∧ idx xs j = idx xs m4))
            (fun _ U => m4 - (intOf ((U.cell? ⟨V.heap.size + 1, 0, none⟩).getD undef)).toNat)
          case atStart => exact ⟨j0, hj1, hj0, hfa, Mv.refl _ _ _ _, hje2⟩
          case round =>
            obtain ⟨j, hj, c10, f10, H⟩ := hrel
            have hBw := HI.out.bw.trans H.out.1.below
            have cX := cell_later hBw HT.out.cX
            rcases (show j < m4 ∨ j = m4 by omega) with hjl | rfl
            · have hpr := HT.out.pr.below hBw
              have hel := hpr.el
              obtain ⟨bb, oo, hp, hc⟩ := hpr.pl (by omega)
              obtain ⟨c0, c1⟩ := hc j (by omega)
              have hv := hpr.ev j (by omega)
              subst hp
              clear hc hpr
              gi_wp2_with fail
              refine ⟨trivial, (callsIn_wide.2 (rSign_e hv)).mono ?_⟩
              rintro r U2 ⟨rfl, hb2⟩
              have hNW : w4.heap.size ≤ W.heap.size := by omega
              have hsr : V.heap.size + 1 < wr.heap.size := Nat.lt_of_lt_of_le hsW H.out.1.below.size
              have M2 := H.out.1.call hNW hb2
              have c2 := cell_later hb2 c10
              have f2 := (hb2.frozen (p := ⟨V.heap.size + 1, 0, none⟩) hsr).trans f10
              have hz : gx xs j = 0 := idx_none H.out.2 hjl
              have HM : Hid (Mv w4.heap.size V.heap.size (V.heap.size + 1) W U2 ∧ idx xs (j + 1) = idx xs m4) := ⟨M2, by rw [idx_succ, if_pos hz]; exact H.out.2⟩
              have HC : Hid (wr.cell? ⟨V.heap.size + 1, 0, none⟩ = some (.int .i64 j)) := c10
              clear c10 f10 cX c0 c1 hv M2 H hBw hsr hb2
              rw [isgn_zero hz]
              clear hz
              have c3 : (U2.setCell ⟨V.heap.size + 1, 0, none⟩ (.int .i64 ((j : Int) + 1))).cell? ⟨V.heap.size + 1, 0, none⟩ = some (.int .i64 ((j : Int) + 1)) := World.cell?_setCell_same' _ _ _ (by rw [c2]; rfl)
              gi_wp2
              go_roundw
              case rel => exact ⟨j + 1, by omega, c3, by rw [World.frozen?_setCell]; exact f2, HM.out.1.set (.inr rfl) (by omega) _, HM.out.2⟩
              case measure => simp [intOf, c3, HC.out]; omega
            · clear hBw f10
              gi_wp2
              refine ⟨⟨rd + 1, by simp, by omega, HI.out.marks H.out.1 hdf (by omega) (by omega)⟩, ?_⟩
              simp [intOf]
              omega
      case stop =>
        rintro D c pre W hD ⟨rfl, hI, hmo⟩ hdf
        have hDV : V.heap.size + 2 ≤ D := by simpa using hD
        have cM := cell_later hI.bw HT.out.cM
        have ck := hI.k
        rw [hmo] at ck
        gi_wp2
        refine ⟨?_, ?_⟩
        · (repeat apply Exists.intro)
          refine ⟨?_, rfl⟩
          exact ⟨rd + 1, by simp, by omega, hI.marks (Mv.refl _ _ _ _) hdf (by omega) (by omega)⟩
        · simp [intOf]; omega
    · obtain ⟨hmk, hBV⟩ := HV.out
      have hT := HT.out
      have hRs : w.heap.size + 1 < w4.heap.size := by
        obtain ⟨o, ho, -⟩ := cells_of_cell hT.cR
        exact (Array.getElem?_eq_some_iff.1 ho).1
      have cR := cell_later hBV hT.cR
      have fR := (hBV.frozen (p := ⟨w.heap.size + 1, 0, none⟩) hRs).trans hT.fR
      gi_wp2
      refine leave_marks ds _ (hmk.others (KeepsOthers.setCell _ _ _)) fun W' hb hc => ?_
      have hcr := hc ⟨w.heap.size + 1, 0, none⟩ _ (World.cell?_setCell_same' _ _ _ (by rw [cR]; rfl))
      exact ⟨_, by simp [results, Tryz.results5, go_sem, hcr], rfl, ((bnext' hT.bw hBV).setCell (p := ⟨w.heap.size + 1, 0, none⟩) (Nat.le_succ _) _).trans (hb _ (by omega))⟩
end Go.Proofs.YtakfimhpnpapdaaGreatDoor
