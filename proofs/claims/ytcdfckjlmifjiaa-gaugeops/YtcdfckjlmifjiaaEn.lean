/-
  GaugeOps' walk.
-/
import Derived.Test.YtcdfckjlmifjiaaEr
import Derived.Test.YtcdfckjlmifjiaaKk
import Derived.Test.YtcdfckjlmifjiaaEiEl
import Derived.Test.YtcdfckjlmifjiaaAyEmDx
import Derived.Test.YtcdfckjlmifjiaaEeEaEcBuBvEj
import Derived.Test.YtcdfckjlmifjiaaBqDuAkAlAp
import Derived.Deep.DeepFit
namespace Go.Proofs.Ytcdfckjlmifjiaa
open Go.RowKit
set_option linter.unusedVariables false
set_option linter.unusedSimpArgs false
theorem bx_of_row {w : World} {b : Nat} {x y : Value} {t : TypeId} (h : w.heap[b]? = some (.cells #[x, y] t)) : Bx w b x y :=
  ⟨by simp only [World.cell?]; rw [h]; rfl, by simp only [World.cell?]; rw [h]; rfl, frozen_of_row w _ 0 _ _ h, frozen_of_row w _ 1 _ _ h⟩
theorem an_val {f : Nat} {args : Array Value} {v : World} {x : Value} {X : Nat → Prop} (h : Calls Try.prog f args v fun e w' => e = .returned x ∧ Below v.heap.size v w') : Calls Try.prog f args v fun e w' => ∃ u, e = .returned u ∧ (Ax.val x).is X u w' ∧ Below v.heap.size v w' := h.mono fun e w' ⟨a, b⟩ => ⟨x, a, rfl, b⟩
/-- What is there behind the conversions. -/
structure Ops9 (w w5 : World) (za zb' : List (List Int)) (zf : List Int) (y : Int) (ha hb hf : Hdr) (uq : Ent) (hu hv hg : Hdr) (un : Ent) (bn : Nat) : Prop where
  b : Below w.heap.size w w5
  a : ∃ lo X, Lies (EOp 9 8 4) lo X w5 za ha
  b' : ∃ lo X, Lies (EOp 9 8 4) lo X w5 zb' hb
  f : ∃ lo X, Lies (EZ 4 9) lo X w5 zf hf
  q : ∃ lo X, NumX 4 lo X w5 y uq
  u : ∃ lo X, Lies (EOr 9 8 8) lo X w5 (oz za) hu
  v : ∃ lo X, Lies (EOr 9 8 8) lo X w5 (oz zb') hv
  g : ∃ lo X, Lies (EY 8 9) lo X w5 (tr zf) hg
  n : ∃ lo X, RnX 8 lo X w5 y un
  q0 : w5.cell? ⟨w.heap.size, 0, none⟩ = some (.bool uq.s)
  q1 : w5.cell? ⟨w.heap.size, 1, none⟩ = some (.slice uq.p uq.n uq.c)
  n0 : w5.cell? ⟨bn, 0, none⟩ = some (.bool un.s)
  n1 : w5.cell? ⟨bn, 1, none⟩ = some (.slice un.p un.n un.c)
set_option maxHeartbeats 4000000 in
set_option maxRecDepth 100000 in
theorem GaugeOps_walk {w : World} {p : Option Addr} {n nc : Nat} {hs0 : List Hdr} (h : RZ w p n nc hs0) {q : Option Addr} {m mc : Nat} {rs0 : List Hdr} (k : RZ w q m mc rs0) {r : Option Addr} {l lc : Nat} {es0 : List Ent} (hp : PZ w r l lc es0) {e : Ent} (hq : RawE w e) :
    Calls Try.prog 3 #[.slice p n nc, .slice q m mc, .slice r l lc, .agg #[.bool e.s, .slice e.p e.n e.c]] w fun e w' => e = .returned (.bool true) ∧ Below w.heap.size w w' := by
  have HX : Hid (RZ w p n nc hs0 ∧ RZ w q m mc rs0 ∧ PZ w r l lc es0 ∧ RawE w e) := ⟨h, k, hp, hq⟩
  clear h k hp hq
  have hW0 : Below w.heap.size w (w.alloc (.cells #[.bool e.s, .slice e.p e.n e.c] 28)) := (Below.refl _ _).alloc (Nat.le_refl _) _
  have hBx : Bx (w.alloc (.cells #[.bool e.s, .slice e.p e.n e.c] 28)) w.heap.size (.bool e.s) (.slice e.p e.n e.c) := Bx.new _ _ _ rfl
  go_enter Try.func3, Try.ntmps3
  go_wp2_with fail
  go_fit (begun9_any _)
  rintro e1 W ⟨rfl, hb1⟩
  have hW := bnext' hW0 hb1
  have HBx : Hid (Bx W w.heap.size (.bool e.s) (.slice e.p e.n e.c)) := hBx.later hb1
  have x0 : W.cell? ⟨w.heap.size, 0, none⟩ = some (.bool e.s) := HBx.out.c0
  have x1 : W.cell? ⟨w.heap.size, 1, none⟩ = some (.slice e.p e.n e.c) := HBx.out.c1
  clear hBx hb1 hW0
  go_wp2_with fail
  refine region_openX 14 [(0, 19), (1, 20), (2, 21), (3, 22), (4, 23), (5, 24), (6, 25), (7, 26), (8, 27), (9, 28), (10, 29), (11, 0), (12, 1), (13, 2)] [] []
    [Ax.val (Value.slice p n nc), Ax.lies (EOp 9 8 4) (lOp _ _ _) W.heap.size, Ax.val (Value.slice q m mc), Ax.lies (EOp 9 8 4) (lOp _ _ _) W.heap.size, Ax.val (Value.slice r l lc), Ax.lies (EZ 4 9) (lEZ _ _) W.heap.size, Ax.val (Value.agg #[Value.bool e.s, Value.slice e.p e.n e.c]), Ax.lit e, Ax.one 4 W.heap.size, Ax.oneAt 4 W.heap.size, Ax.num 4 W.heap.size, Ax.lies (EOp 9 8 4) (lOp _ _ _) W.heap.size, Ax.lies (EOp 9 8 4) (lOp _ _ _) W.heap.size, Ax.lies (EZ 4 9) (lEZ _ _) W.heap.size]
    (by kernel_rfl) (by kernel_rfl) (by kernel_rfl) trivial (by kernel_rfl) (by decide) (by decide) (by rfl) ?_ ?_
  · refine ⟨fun _ => ?_, fun _ => ?_, fun _ => ?_, fun _ => ?_, fun _ => ?_, fun _ => ?_, fun _ => ?_, fun _ => ?_, fun _ => ?_, fun _ => ?_, fun _ => ?_, fun _ => ?_, fun _ => ?_, fun _ => ?_, fun h => absurd h (by decide), trivial⟩
    · exact ox_pure rfl fun X ρ v R => ⟨_, by simp [execOp, go_sem], R.pre 0 11 (by decide) rfl⟩
    · exact ox_call 6 rfl fun X ρ v R => by
        have e19 : ρ (.tmp 19) = Value.slice p n nc := R.dep 0 19 (by decide) rfl rfl
        exact ⟨_, by simp [execOp, go_sem, e19, R.fn, R.con], cut8_ax HX.out.1 (bnext' hW R.b) (fun c hc => (R.xb c hc).2) R.b.size 8 8 4 (by decide) (by decide) (by decide)⟩
    · exact ox_pure rfl fun X ρ v R => ⟨_, by simp [execOp, go_sem], R.pre 1 12 (by decide) rfl⟩
    · exact ox_call 6 rfl fun X ρ v R => by
        have e21 : ρ (.tmp 21) = Value.slice q m mc := R.dep 2 21 (by decide) rfl rfl
        exact ⟨_, by simp [execOp, go_sem, e21, R.fn, R.con], cut8_ax HX.out.2.1 (bnext' hW R.b) (fun c hc => (R.xb c hc).2) R.b.size 8 8 4 (by decide) (by decide) (by decide)⟩
    · exact ox_pure rfl fun X ρ v R => ⟨_, by simp [execOp, go_sem], R.pre 2 13 (by decide) rfl⟩
    · exact ox_call 7 rfl fun X ρ v R => by
        have e23 : ρ (.tmp 23) = Value.slice r l lc := R.dep 4 23 (by decide) rfl rfl
        exact ⟨_, by simp [execOp, go_sem, e23, R.fn, R.con], cut3_ax HX.out.2.2.1 (bnext' hW R.b) (fun c hc => (R.xb c hc).2) R.b.size 9 4 (by decide) (by decide)⟩
    · exact ox_pure rfl fun X ρ v R => by
        have e7 : ρ (.tmp 7) = Value.pointer (some { block := w.heap.size, off := 0 }) := R.old 7 (by decide)
        have x0 := cell_later R.b x0
        have x1 := cell_later R.b x1
        exact ⟨_, by simp [execOp, go_sem, e7, x0, x1], rfl⟩
    · exact ox_new rfl fun X ρ v R => by
        have e25 : ρ (.tmp 25) = Value.agg #[Value.bool e.s, Value.slice e.p e.n e.c] := R.dep 6 25 (by decide) rfl rfl
        exact ⟨_, _, by simp [execOp, go_sem, e25]; rfl, ⟨v.heap.size, rfl, (cells_lit v _ _ _).1, (cells_lit v _ _ _).2⟩, (Below.refl _ _).alloc (Nat.le_refl _) _⟩
    · exact ox_call 7 rfl fun X ρ v R => by
        obtain ⟨b26, e26, c26, d26⟩ := R.dep 7 26 (by decide) rfl rfl
        exact ⟨_, by simp [execOp, go_sem, e26, R.fn, R.con], cut1_ax HX.out.2.2.2 (bnext' hW R.b) c26 d26 (fun c hc => (R.xb c hc).2) R.b.size 4 (by decide)⟩
    · exact ox_pure rfl fun X ρ v R => by
        obtain ⟨b27, o27, k27, u27, y27, e27, O27, H27⟩ := R.dep 8 27 (by decide) rfl rfl
        exact ⟨.pointer (some ⟨b27, o27, none⟩), by simp [execOp, go_sem, e27, R.con], b27, o27, u27, y27, rfl, O27, H27⟩
    · exact ox_pure rfl fun X ρ v R => by
        obtain ⟨b28, o28, u28, y28, e28, O28, H28⟩ := R.dep 9 28 (by decide) rfl rfl
        have x0 := O28.1
        have x1 := O28.2
        exact ⟨_, by simp [execOp, go_sem, e28, x0, x1], u28, y28, rfl, H28⟩
    · exact ox_pure rfl fun X ρ v R => ⟨_, by simp [execOp, go_sem], R.dep 1 20 (by decide) rfl rfl⟩
    · exact ox_pure rfl fun X ρ v R => ⟨_, by simp [execOp, go_sem], R.dep 3 22 (by decide) rfl rfl⟩
    · exact ox_pure rfl fun X ρ v R => ⟨_, by simp [execOp, go_sem], R.dep 5 24 (by decide) rfl rfl⟩
  intro vals w2 hb2 hv
  have e_0 : vals 0 = Value.slice p n nc := hv (0, 19) (by decide)
  obtain ⟨h_1, z_1, e_1, H_1⟩ := hv (1, 20) (by decide)
  have e_2 : vals 2 = Value.slice q m mc := hv (2, 21) (by decide)
  obtain ⟨h_3, z_3, e_3, H_3⟩ := hv (3, 22) (by decide)
  have e_4 : vals 4 = Value.slice r l lc := hv (4, 23) (by decide)
  obtain ⟨h_5, z_5, e_5, H_5⟩ := hv (5, 24) (by decide)
  have e_6 : vals 6 = Value.agg #[Value.bool e.s, Value.slice e.p e.n e.c] := hv (6, 25) (by decide)
  obtain ⟨b_7, e_7, c_7, d_7⟩ := hv (7, 26) (by decide)
  obtain ⟨b_8, o_8, k_8, u_8, y_8, e_8, O_8, H_8⟩ := hv (8, 27) (by decide)
  obtain ⟨b_9, o_9, u_9, y_9, e_9, O_9, H_9⟩ := hv (9, 28) (by decide)
  obtain ⟨u_10, y_10, e_10, H_10⟩ := hv (10, 29) (by decide)
  obtain ⟨h_11, z_11, e_11, H_11⟩ := hv (11, 0) (by decide)
  obtain ⟨h_12, z_12, e_12, H_12⟩ := hv (12, 1) (by decide)
  obtain ⟨h_13, z_13, e_13, H_13⟩ := hv (13, 2) (by decide)
  replace H_1 := H_1.sub (Y := fun _ => False) (fun _ h => h.elim)
  replace H_3 := H_3.sub (Y := fun _ => False) (fun _ h => h.elim)
  replace H_5 := H_5.sub (Y := fun _ => False) (fun _ h => h.elim)
  replace H_8 := H_8.sub (Y := fun _ => False) (fun _ h => h.elim)
  replace H_9 := H_9.sub (Y := fun _ => False) (fun _ h => h.elim)
  replace H_10 := H_10.sub (Y := fun _ => False) (fun _ h => h.elim)
  replace H_11 := H_11.sub (Y := fun _ => False) (fun _ h => h.elim)
  replace H_12 := H_12.sub (Y := fun _ => False) (fun _ h => h.elim)
  replace H_13 := H_13.sub (Y := fun _ => False) (fun _ h => h.elim)
  refine ends_some (o := { dst := none, op := Op.store 28 (Operand.tmp 7) (Operand.tmp 29), type := 0, pos := "law.go:37", after := #[{ on := 10, ground := Ground.data }, { on := 13, ground := Ground.chain }, { on := 0, ground := Ground.phase }, { on := 1, ground := Ground.phase }, { on := 2, ground := Ground.phase }, { on := 3, ground := Ground.phase }, { on := 4, ground := Ground.phase }, { on := 5, ground := Ground.phase }, { on := 6, ground := Ground.phase }, { on := 7, ground := Ground.phase }, { on := 8, ground := Ground.phase }, { on := 9, ground := Ground.phase }, { on := 10, ground := Ground.phase }, { on := 11, ground := Ground.phase }, { on := 12, ground := Ground.phase }, { on := 13, ground := Ground.phase }], guard := none }) rfl ?_
  simp only [List.foldl, e_0, e_1, e_2, e_3, e_4, e_5, e_6, e_7, e_8, e_9, e_10, e_11, e_12, e_13, List.setIfInBounds_toArray, List.set_cons_succ, List.set_cons_zero]
  clear hv e_0 e_1 e_2 e_3 e_4 e_5 e_6 e_7 e_8 e_9 e_10 e_11 e_12 e_13
  have HB2 : Hid (Bx w2 w.heap.size (.bool e.s) (.slice e.p e.n e.c)) := HBx.out.later hb2
  have y0 : w2.cell? ⟨w.heap.size, 0, none⟩ = some (.bool e.s) := HB2.out.c0
  have y1 : w2.cell? ⟨w.heap.size, 1, none⟩ = some (.slice e.p e.n e.c) := HB2.out.c1
  have f0 : w2.frozen? ⟨w.heap.size, 0, none⟩ = false := HB2.out.f0
  have f1 : w2.frozen? ⟨w.heap.size, 1, none⟩ = false := HB2.out.f1
  have hgl : w.heap.size < W.heap.size := block_lt_of_cell x0
  unfold Oper.wp
  simp [execOp, go_sem, y0, y1, f0, f1]
  have HA := (H_11.put (lOp _ _ _) (o := 0) (.inl hgl) (Value.bool u_10.s)).put (lOp _ _ _) (o := 1) (.inl hgl) (Value.slice u_10.p u_10.n u_10.c)
  have HB := (H_12.put (lOp _ _ _) (o := 0) (.inl hgl) (Value.bool u_10.s)).put (lOp _ _ _) (o := 1) (.inl hgl) (Value.slice u_10.p u_10.n u_10.c)
  have HF := (H_13.put (lEZ _ _) (o := 0) (.inl hgl) (Value.bool u_10.s)).put (lEZ _ _) (o := 1) (.inl hgl) (Value.slice u_10.p u_10.n u_10.c)
  have HQ := (H_10.put (o := 0) (.inl hgl) (Value.bool u_10.s)).put (o := 1) (.inl hgl) (Value.slice u_10.p u_10.n u_10.c)
  have HBy := Bx_set (x := .bool u_10.s) (y := .slice u_10.p u_10.n u_10.c) HB2.out
  have hW3 : Below w.heap.size w ((w2.setCell { block := w.heap.size, off := 0 } (Value.bool u_10.s)).setCell { block := w.heap.size, off := 1 } (Value.slice u_10.p u_10.n u_10.c)) := ((bnext' hW hb2).setCell (p := ⟨w.heap.size, 0, none⟩) (Nat.le_refl _) _).setCell (p := ⟨w.heap.size, 1, none⟩) (Nat.le_refl _) _
  generalize ((w2.setCell { block := w.heap.size, off := 0 } (Value.bool u_10.s)).setCell { block := w.heap.size, off := 1 } (Value.slice u_10.p u_10.n u_10.c)) = w3 at *
  clear H_1 H_3 H_5 c_7 d_7 H_8 O_8 H_9 O_9 H_10 H_11 H_12 H_13 HB2 y0 y1 f0 f1 hb2 HBx x0 x1 HX
  obtain ⟨y0, y1, f0, f1⟩ := HBy
  go_wp2_with fail
  refine region_openX 12 [(0, 30), (1, 31), (2, 32), (3, 33), (4, 34), (5, 35), (6, 36), (7, 37), (8, 13), (9, 10), (10, 11), (11, 12)] [8] []
    [Ax.val (Value.slice h_11.p h_11.n h_11.c), Ax.told (EOr 9 8 8) (lOr _ _ _) w3.heap.size (oz z_11), Ax.val (Value.slice h_12.p h_12.n h_12.c), Ax.told (EOr 9 8 8) (lOr _ _ _) w3.heap.size (oz z_12), Ax.val (Value.slice h_13.p h_13.n h_13.c), Ax.told (EY 8 9) (lEY _ _) w3.heap.size (tr z_13), Ax.val (Value.agg #[Value.bool u_10.s, Value.slice u_10.p u_10.n u_10.c]), Ax.rnum 8 w3.heap.size y_10, Ax.var w3.heap.size (.cells #[.bool false, .slice none 0 0] 40), Ax.told (EOr 9 8 8) (lOr _ _ _) w3.heap.size (oz z_11), Ax.told (EOr 9 8 8) (lOr _ _ _) w3.heap.size (oz z_12), Ax.told (EY 8 9) (lEY _ _) w3.heap.size (tr z_13)]
    (by kernel_rfl) (by kernel_rfl) (by kernel_rfl) trivial (by kernel_rfl) (by decide) (by decide) (by rfl) ?_ ?_
  · refine ⟨fun _ => ?_, fun _ => ?_, fun _ => ?_, fun _ => ?_, fun _ => ?_, fun _ => ?_, fun _ => ?_, fun _ => ?_, fun _ => ?_, fun _ => ?_, fun _ => ?_, fun _ => ?_, fun h => absurd h (by decide), trivial⟩
    · exact ox_pure rfl fun X ρ v R => ⟨_, by simp [execOp, go_sem], R.old 0 (by decide)⟩
    · exact ox_call 8 rfl fun X ρ v R => by
        have e30 : ρ (.tmp 30) = Value.slice h_11.p h_11.n h_11.c := R.dep 0 30 (by decide) rfl rfl
        exact ⟨_, by simp [execOp, go_sem, e30, R.fn], from8_ax HA R.b (fun c hc => (R.xb c hc).2) R.b.size (by decide) (by decide) (by decide)⟩
    · exact ox_pure rfl fun X ρ v R => ⟨_, by simp [execOp, go_sem], R.old 1 (by decide)⟩
    · exact ox_call 8 rfl fun X ρ v R => by
        have e32 : ρ (.tmp 32) = Value.slice h_12.p h_12.n h_12.c := R.dep 2 32 (by decide) rfl rfl
        exact ⟨_, by simp [execOp, go_sem, e32, R.fn], from8_ax HB R.b (fun c hc => (R.xb c hc).2) R.b.size (by decide) (by decide) (by decide)⟩
    · exact ox_pure rfl fun X ρ v R => ⟨_, by simp [execOp, go_sem], R.old 2 (by decide)⟩
    · exact ox_call 9 rfl fun X ρ v R => by
        have e34 : ρ (.tmp 34) = Value.slice h_13.p h_13.n h_13.c := R.dep 4 34 (by decide) rfl rfl
        exact ⟨_, by simp [execOp, go_sem, e34, R.fn], from3_ax HF R.b (fun c hc => (R.xb c hc).2) R.b.size (by decide) (by decide)⟩
    · exact ox_pure rfl fun X ρ v R => by
        have e7 : ρ (.tmp 7) = Value.pointer (some { block := w.heap.size, off := 0 }) := R.old 7 (by decide)
        have x0 := cell_later R.b y0
        have x1 := cell_later R.b y1
        exact ⟨_, by simp [execOp, go_sem, e7, x0, x1], rfl⟩
    · exact ox_call 10 rfl fun X ρ v R => by
        have e36 : ρ (.tmp 36) = Value.agg #[Value.bool u_10.s, Value.slice u_10.p u_10.n u_10.c] := R.dep 6 36 (by decide) rfl rfl
        exact ⟨_, by simp [execOp, go_sem, e36, R.fn], from1_ax HQ R.b (fun c hc => (R.xb c hc).2) R.b.size⟩
    · exact ox_var (.cells #[.bool false, .slice none 0 0] 40) rfl fun X ρ v R => by simp [execOp, go_sem]
    · exact ox_pure rfl fun X ρ v R => ⟨_, by simp [execOp, go_sem], R.dep 1 31 (by decide) rfl rfl⟩
    · exact ox_pure rfl fun X ρ v R => ⟨_, by simp [execOp, go_sem], R.dep 3 33 (by decide) rfl rfl⟩
    · exact ox_pure rfl fun X ρ v R => ⟨_, by simp [execOp, go_sem], R.dep 5 35 (by decide) rfl rfl⟩
  intro vals w4 hb4 hv
  have e_0 : vals 0 = Value.slice h_11.p h_11.n h_11.c := hv (0, 30) (by decide)
  obtain ⟨h_1', e_1, H_1'⟩ := hv (1, 31) (by decide)
  have e_2 : vals 2 = Value.slice h_12.p h_12.n h_12.c := hv (2, 32) (by decide)
  obtain ⟨h_3', e_3, H_3'⟩ := hv (3, 33) (by decide)
  have e_4 : vals 4 = Value.slice h_13.p h_13.n h_13.c := hv (4, 34) (by decide)
  obtain ⟨h_5', e_5, H_5'⟩ := hv (5, 35) (by decide)
  have e_6 : vals 6 = Value.agg #[Value.bool u_10.s, Value.slice u_10.p u_10.n u_10.c] := hv (6, 36) (by decide)
  obtain ⟨u_7', e_7, H_7'⟩ := hv (7, 37) (by decide)
  obtain ⟨b_8', e_8, l_8', g_8', x_8'⟩ := hv (8, 13) (by decide)
  obtain ⟨h_9', e_9, H_9'⟩ := hv (9, 10) (by decide)
  obtain ⟨h_10', e_10, H_10'⟩ := hv (10, 11) (by decide)
  obtain ⟨h_11', e_11, H_11'⟩ := hv (11, 12) (by decide)
  replace H_1' := H_1'.sub (Y := fun b => b = b_8') (fun b hb => by subst hb; exact ⟨(8, 13), by decide, by decide, by decide, e_8⟩)
  replace H_3' := H_3'.sub (Y := fun b => b = b_8') (fun b hb => by subst hb; exact ⟨(8, 13), by decide, by decide, by decide, e_8⟩)
  replace H_5' := H_5'.sub (Y := fun b => b = b_8') (fun b hb => by subst hb; exact ⟨(8, 13), by decide, by decide, by decide, e_8⟩)
  replace H_7' := H_7'.sub (Y := fun b => b = b_8') (fun b hb => by subst hb; exact ⟨(8, 13), by decide, by decide, by decide, e_8⟩)
  replace H_9' := H_9'.sub (Y := fun b => b = b_8') (fun b hb => by subst hb; exact ⟨(8, 13), by decide, by decide, by decide, e_8⟩)
  replace H_10' := H_10'.sub (Y := fun b => b = b_8') (fun b hb => by subst hb; exact ⟨(8, 13), by decide, by decide, by decide, e_8⟩)
  replace H_11' := H_11'.sub (Y := fun b => b = b_8') (fun b hb => by subst hb; exact ⟨(8, 13), by decide, by decide, by decide, e_8⟩)
  refine ends_some (o := { dst := none, op := Op.store 40 (Operand.tmp 13) (Operand.tmp 37), type := 0, pos := "law.go:38", after := #[{ on := 8, ground := Ground.data }, { on := 7, ground := Ground.data }, { on := 11, ground := Ground.chain }, { on := 0, ground := Ground.phase }, { on := 1, ground := Ground.phase }, { on := 2, ground := Ground.phase }, { on := 3, ground := Ground.phase }, { on := 4, ground := Ground.phase }, { on := 5, ground := Ground.phase }, { on := 6, ground := Ground.phase }, { on := 7, ground := Ground.phase }, { on := 8, ground := Ground.phase }, { on := 9, ground := Ground.phase }, { on := 10, ground := Ground.phase }, { on := 11, ground := Ground.phase }], guard := none }) rfl ?_
  simp only [List.foldl, e_0, e_1, e_2, e_3, e_4, e_5, e_6, e_7, e_8, e_9, e_10, e_11, List.setIfInBounds_toArray, List.set_cons_succ, List.set_cons_zero]
  clear hv e_0 e_1 e_2 e_3 e_4 e_5 e_6 e_7 e_8 e_9 e_10 e_11
  have Hv4 : Hid (Bx w4 b_8' (.bool false) (.slice none 0 0)) := bx_of_row g_8'
  have c0 : w4.cell? ⟨b_8', 0, none⟩ = some (.bool false) := Hv4.out.c0
  have c1 : w4.cell? ⟨b_8', 1, none⟩ = some (.slice none 0 0) := Hv4.out.c1
  have d0 : w4.frozen? ⟨b_8', 0, none⟩ = false := Hv4.out.f0
  have d1 : w4.frozen? ⟨b_8', 1, none⟩ = false := Hv4.out.f1
  unfold Oper.wp
  simp [execOp, go_sem, c0, c1, d0, d1]
  have HU := (H_9'.put (lOr _ _ _) (o := 0) (.inr rfl) (Value.bool u_7'.s)).put (lOr _ _ _) (o := 1) (.inr rfl) (Value.slice u_7'.p u_7'.n u_7'.c)
  have HV := (H_10'.put (lOr _ _ _) (o := 0) (.inr rfl) (Value.bool u_7'.s)).put (lOr _ _ _) (o := 1) (.inr rfl) (Value.slice u_7'.p u_7'.n u_7'.c)
  have HG := (H_11'.put (lEY _ _) (o := 0) (.inr rfl) (Value.bool u_7'.s)).put (lEY _ _) (o := 1) (.inr rfl) (Value.slice u_7'.p u_7'.n u_7'.c)
  have HN := (H_7'.put (o := 0) (.inr rfl) (Value.bool u_7'.s)).put (o := 1) (.inr rfl) (Value.slice u_7'.p u_7'.n u_7'.c)
  have hb5 : Below w3.heap.size w3 ((w4.setCell ⟨b_8', 0, none⟩ (Value.bool u_7'.s)).setCell ⟨b_8', 1, none⟩ (Value.slice u_7'.p u_7'.n u_7'.c)) := (hb4.setCell (p := ⟨b_8', 0, none⟩) l_8' _).setCell (p := ⟨b_8', 1, none⟩) l_8' _
  have HZn := Bx_set (x := .bool u_7'.s) (y := .slice u_7'.p u_7'.n u_7'.c) Hv4.out
  generalize ((w4.setCell ⟨b_8', 0, none⟩ (Value.bool u_7'.s)).setCell ⟨b_8', 1, none⟩ (Value.slice u_7'.p u_7'.n u_7'.c)) = w5 at *
  have ST : Hid (Ops9 w w5 z_11 z_12 z_13 y_10 h_11 h_12 h_13 u_10 h_9' h_10' h_11' u_7' b_8') := ⟨bnext' hW3 hb5, ⟨_, _, HA.below (lOp _ _ _) hb5⟩, ⟨_, _, HB.below (lOp _ _ _) hb5⟩, ⟨_, _, HF.below (lEZ _ _) hb5⟩, ⟨_, _, HQ.below hb5⟩, ⟨_, _, HU⟩, ⟨_, _, HV⟩, ⟨_, _, HG⟩, ⟨_, _, HN⟩, cell_later hb5 y0, cell_later hb5 y1, HZn.c0, HZn.c1⟩
  clear H_1' H_3' H_5' H_7' H_9' H_10' H_11' x_8' g_8' l_8' Hv4 c0 c1 d0 d1 HA HB HF HQ hb4 hW3 hW y0 y1 f0 f1 HU HV HG HN hb5 HZn hgl vals
  go_wp2_with fail
  obtain ⟨hB, ⟨_, _, kA⟩, ⟨_, _, kB⟩, kF, kQ, ⟨_, _, kU⟩, ⟨_, _, kV⟩, kG, kN, q0, q1, n0, n1⟩ := ST.out
  have sA := szb_at kA (by decide) (by decide) (by decide)
  have sB := szb_at kB (by decide) (by decide) (by decide)
  have pF : pb z_13 ≤ 128 := by
    obtain ⟨_, _, _, _, ⟨fs, a, -⟩, -⟩ := kF
    exact pb_few a
  have F1 := fun v hb => of_at (v := v) kA hb (by decide) (by decide) (by decide)
  have F2 := fun v hb => size_at (v := v) kU hb (by decide) (by decide) (by decide)
  have F3 := fun v hb => gmul_at (v := v) kA kB kQ hb (by decide) (by decide) (by decide)
  have F4 := fun v hb => rmul_at (v := v) kU kV kN sA sB hb (by decide) (by decide) (by decide)
  have F5 := fun v hb => gapply_at (v := v) kA kF kQ hb (by decide) (by decide) (by decide) (by decide) (by decide)
  have F6 := fun v hb => rapply_at (v := v) kU kG kN sA hb (by decide) (by decide) (by decide) (by decide) (by omega)
  have F7 := fun v hb => gdivide_at (v := v) kA kB kQ hb (by decide) (by decide) (by decide)
  have F8 := fun v hb => rdivide_at (v := v) kU kV kN sA sB hb (by decide) (by decide) (by decide)
  have F9 := fun v hb => gcommon_at (v := v) kA kB kQ hb (by decide) (by decide) (by decide)
  have F10 := fun v hb => rcommon_at (v := v) kU kV kN sA sB hb (by decide) (by decide) (by decide)
  clear kA kB kF kQ kU kV kG kN sA sB pF ST
  generalize vMul (oz z_11) (oz z_12) y_10 = V1 at *
  generalize vApply (oz z_11) z_13 y_10 = V2 at *
  generalize vDivide (oz z_11) (oz z_12) y_10 = V3 at *
  generalize vCommon (oz z_11) (oz z_12) y_10 = V4 at *
  generalize rszO (oz z_11) = ro at *
  generalize rszD (oz z_11) = rd at *
  generalize rszB (oz z_11) = rb at *
  have F1' := F1 w5 (Below.refl _ _)
  go_fit F1'
  rintro e1 w6 ⟨rfl, hb6⟩
  clear F1 F1'
  go_wp2_with fail
  have hb7 : Below w5.heap.size w5 (w6.alloc (.cells #[.int .i64 ro, .int .i64 rd, .int .i64 rb] 43)) := bnext' hb6 ((Below.refl _ _).alloc (Nat.le_refl _) _)
  have z0 : (w6.alloc (.cells #[.int .i64 ro, .int .i64 rd, .int .i64 rb] 43)).cell? ⟨w6.heap.size, 0, none⟩ = some (.int .i64 ro) := by simp [go_sem]
  have z1 : (w6.alloc (.cells #[.int .i64 ro, .int .i64 rd, .int .i64 rb] 43)).cell? ⟨w6.heap.size, 1, none⟩ = some (.int .i64 rd) := by simp [go_sem]
  have z2 : (w6.alloc (.cells #[.int .i64 ro, .int .i64 rd, .int .i64 rb] 43)).cell? ⟨w6.heap.size, 2, none⟩ = some (.int .i64 rb) := by simp [go_sem]
  generalize w6.alloc (.cells #[.int .i64 ro, .int .i64 rd, .int .i64 rb] 43) = w7 at *
  have F2' := F2 w7 hb7
  go_fit F2'
  rintro e1 w8 ⟨rfl, hb8⟩
  have hB8 := bnext' hb7 hb8
  replace z0 := cell_later hb8 z0
  replace z1 := cell_later hb8 z1
  replace z2 := cell_later hb8 z2
  clear F2 F2' hb8 hb7
  generalize w6.heap.size = gz at *
  clear hb6
  replace q0 := cell_later hB8 q0
  replace q1 := cell_later hB8 q1
  replace n0 := cell_later hB8 n0
  replace n1 := cell_later hB8 n1
  generalize h11 : w.heap.size = gq at *
  have H11 : Hid (w.heap.size = gq) := h11
  clear h11
  go_wp2_with fail
  refine region_openX 64 [(0, 46), (1, 47), (2, 48), (3, 49), (4, 50), (5, 51), (6, 52), (7, 53), (8, 54), (9, 55), (10, 56), (11, 57), (12, 58), (13, 59), (14, 60), (15, 61), (16, 62), (17, 63), (18, 64), (19, 65), (20, 66), (21, 67), (22, 68), (23, 69), (24, 70), (25, 71), (26, 72), (27, 73), (28, 74), (29, 75), (30, 76), (31, 77), (32, 78), (33, 79), (34, 80), (35, 81), (36, 82), (37, 83), (38, 84), (39, 85), (40, 86), (41, 87), (42, 88), (43, 89), (44, 90), (45, 91), (46, 92), (47, 93), (48, 94), (49, 95), (50, 96), (51, 97), (52, 98), (53, 99), (54, 100), (55, 101), (56, 102), (57, 103), (58, 104), (59, 105), (60, 106), (61, 107), (62, 108), (63, 8)] [] [(1, true), (7, true), (13, true), (19, true), (30, true), (41, true), (52, true)]
    [Ax.val (Value.bool true), Ax.val (Value.bool true), Ax.val (Value.pointer (some { block := gz, off := 0 })), Ax.val (Value.int IntKind.i64 ro), Ax.val (Value.int IntKind.i64 ro), Ax.val (Value.bool true), Ax.val (Value.bool true), Ax.val (Value.bool true), Ax.val (Value.pointer (some { block := gz, off := 1 })), Ax.val (Value.int IntKind.i64 rd), Ax.val (Value.int IntKind.i64 rd), Ax.val (Value.bool true), Ax.val (Value.bool true), Ax.val (Value.bool true), Ax.val (Value.pointer (some { block := gz, off := 2 })), Ax.val (Value.int IntKind.i64 rb), Ax.val (Value.int IntKind.i64 rb), Ax.val (Value.bool true), Ax.val (Value.bool true), Ax.val (Value.bool true), Ax.val (Value.slice h_11.p h_11.n h_11.c), Ax.val (Value.slice h_12.p h_12.n h_12.c), Ax.val (Value.agg #[Value.bool u_10.s, Value.slice u_10.p u_10.n u_10.c]), Ax.val (Value.int IntKind.i64 V1), Ax.val (Value.slice h_9'.p h_9'.n h_9'.c), Ax.val (Value.slice h_10'.p h_10'.n h_10'.c), Ax.val (Value.agg #[Value.bool u_7'.s, Value.slice u_7'.p u_7'.n u_7'.c]), Ax.val (Value.int IntKind.i64 V1), Ax.val (Value.bool true), Ax.val (Value.bool true), Ax.val (Value.bool true), Ax.val (Value.slice h_11.p h_11.n h_11.c), Ax.val (Value.slice h_13.p h_13.n h_13.c), Ax.val (Value.agg #[Value.bool u_10.s, Value.slice u_10.p u_10.n u_10.c]), Ax.val (Value.int IntKind.i64 V2), Ax.val (Value.slice h_9'.p h_9'.n h_9'.c), Ax.val (Value.slice h_11'.p h_11'.n h_11'.c), Ax.val (Value.agg #[Value.bool u_7'.s, Value.slice u_7'.p u_7'.n u_7'.c]), Ax.val (Value.int IntKind.i64 V2), Ax.val (Value.bool true), Ax.val (Value.bool true), Ax.val (Value.bool true), Ax.val (Value.slice h_11.p h_11.n h_11.c), Ax.val (Value.slice h_12.p h_12.n h_12.c), Ax.val (Value.agg #[Value.bool u_10.s, Value.slice u_10.p u_10.n u_10.c]), Ax.val (Value.int IntKind.i64 V3), Ax.val (Value.slice h_9'.p h_9'.n h_9'.c), Ax.val (Value.slice h_10'.p h_10'.n h_10'.c), Ax.val (Value.agg #[Value.bool u_7'.s, Value.slice u_7'.p u_7'.n u_7'.c]), Ax.val (Value.int IntKind.i64 V3), Ax.val (Value.bool true), Ax.val (Value.bool true), Ax.val (Value.bool true), Ax.val (Value.slice h_11.p h_11.n h_11.c), Ax.val (Value.slice h_12.p h_12.n h_12.c), Ax.val (Value.agg #[Value.bool u_10.s, Value.slice u_10.p u_10.n u_10.c]), Ax.val (Value.int IntKind.i64 V4), Ax.val (Value.slice h_9'.p h_9'.n h_9'.c), Ax.val (Value.slice h_10'.p h_10'.n h_10'.c), Ax.val (Value.agg #[Value.bool u_7'.s, Value.slice u_7'.p u_7'.n u_7'.c]), Ax.val (Value.int IntKind.i64 V4), Ax.val (Value.bool true), Ax.val (Value.bool true), Ax.val (Value.bool true)]
    (by kernel_rfl) (by kernel_rfl) (by kernel_rfl) ⟨fun _ _ _ h => h, fun _ _ _ h => h, fun _ _ _ h => h, fun _ _ _ h => h, fun _ _ _ h => h, fun _ _ _ h => h, fun _ _ _ h => h, trivial⟩ (by kernel_rfl) (by decide) (by decide) (by rfl) ?_ ?_
  · refine ⟨fun _ => ?_, fun _ => ?_, fun _ => ?_, fun _ => ?_, fun _ => ?_, fun _ => ?_, fun _ => ?_, fun _ => ?_, fun _ => ?_, fun _ => ?_, fun _ => ?_, fun _ => ?_, fun _ => ?_, fun _ => ?_, fun _ => ?_, fun _ => ?_, fun _ => ?_, fun _ => ?_, fun _ => ?_, fun _ => ?_, fun _ => ?_, fun _ => ?_, fun _ => ?_, fun _ => ?_, fun _ => ?_, fun _ => ?_, fun _ => ?_, fun _ => ?_, fun _ => ?_, fun _ => ?_, fun _ => ?_, fun _ => ?_, fun _ => ?_, fun _ => ?_, fun _ => ?_, fun _ => ?_, fun _ => ?_, fun _ => ?_, fun _ => ?_, fun _ => ?_, fun _ => ?_, fun _ => ?_, fun _ => ?_, fun _ => ?_, fun _ => ?_, fun _ => ?_, fun _ => ?_, fun _ => ?_, fun _ => ?_, fun _ => ?_, fun _ => ?_, fun _ => ?_, fun _ => ?_, fun _ => ?_, fun _ => ?_, fun _ => ?_, fun _ => ?_, fun _ => ?_, fun _ => ?_, fun _ => ?_, fun _ => ?_, fun _ => ?_, fun _ => ?_, fun _ => ?_, trivial⟩
    · exact ox_pure rfl fun X ρ v R => ⟨_, by simp [execOp, go_sem], R.old 9 (by decide)⟩
    · exact ox_pure rfl fun X ρ v R => ⟨_, by simp [execOp, go_sem], R.dep 0 46 (by decide) rfl rfl⟩
    · exact ox_pure rfl fun X ρ v R => by
        have e14 : ρ (.tmp 14) = Value.pointer (some { block := gz, off := 0 }) := R.old 14 (by decide)
        exact ⟨_, by simp [execOp, go_sem, e14], rfl⟩
    · exact ox_pure rfl fun X ρ v R => by
        have e48 : ρ (.tmp 48) = Value.pointer (some { block := gz, off := 0 }) := R.dep 2 48 (by decide) rfl rfl
        have x0 := cell_later R.b z0
        exact ⟨_, by simp [execOp, go_sem, e48, x0], rfl⟩
    · exact ox_pure rfl fun X ρ v R => ⟨_, by simp [execOp, go_sem], R.old 15 (by decide)⟩
    · exact ox_pure rfl fun X ρ v R => by
        have e49 : ρ (.tmp 49) = Value.int IntKind.i64 ro := R.dep 3 49 (by decide) rfl rfl
        have e50 : ρ (.tmp 50) = Value.int IntKind.i64 ro := R.dep 4 50 (by decide) rfl rfl
        exact ⟨_, by simp [execOp, go_sem, e49, e50], rfl⟩
    · exact ox_pure rfl fun X ρ v R => by
        have e47 : ρ (.tmp 47) = Value.bool true := R.dep 1 47 (by decide) rfl rfl
        have e51 : ρ (.tmp 51) = Value.bool true := R.dep 5 51 (by decide) rfl rfl
        exact ⟨_, by simp [execOp, go_sem, e47, e51, R.con], rfl⟩
    · exact ox_pure rfl fun X ρ v R => ⟨_, by simp [execOp, go_sem], R.dep 6 52 (by decide) rfl rfl⟩
    · exact ox_pure rfl fun X ρ v R => by
        have e14 : ρ (.tmp 14) = Value.pointer (some { block := gz, off := 0 }) := R.old 14 (by decide)
        exact ⟨_, by simp [execOp, go_sem, e14], rfl⟩
    · exact ox_pure rfl fun X ρ v R => by
        have e54 : ρ (.tmp 54) = Value.pointer (some { block := gz, off := 1 }) := R.dep 8 54 (by decide) rfl rfl
        have x0 := cell_later R.b z1
        exact ⟨_, by simp [execOp, go_sem, e54, x0], rfl⟩
    · exact ox_pure rfl fun X ρ v R => ⟨_, by simp [execOp, go_sem], R.old 16 (by decide)⟩
    · exact ox_pure rfl fun X ρ v R => by
        have e55 : ρ (.tmp 55) = Value.int IntKind.i64 rd := R.dep 9 55 (by decide) rfl rfl
        have e56 : ρ (.tmp 56) = Value.int IntKind.i64 rd := R.dep 10 56 (by decide) rfl rfl
        exact ⟨_, by simp [execOp, go_sem, e55, e56], rfl⟩
    · exact ox_pure rfl fun X ρ v R => by
        have e53 : ρ (.tmp 53) = Value.bool true := R.dep 7 53 (by decide) rfl rfl
        have e57 : ρ (.tmp 57) = Value.bool true := R.dep 11 57 (by decide) rfl rfl
        exact ⟨_, by simp [execOp, go_sem, e53, e57, R.con], rfl⟩
    · exact ox_pure rfl fun X ρ v R => ⟨_, by simp [execOp, go_sem], R.dep 12 58 (by decide) rfl rfl⟩
    · exact ox_pure rfl fun X ρ v R => by
        have e14 : ρ (.tmp 14) = Value.pointer (some { block := gz, off := 0 }) := R.old 14 (by decide)
        exact ⟨_, by simp [execOp, go_sem, e14], rfl⟩
    · exact ox_pure rfl fun X ρ v R => by
        have e60 : ρ (.tmp 60) = Value.pointer (some { block := gz, off := 2 }) := R.dep 14 60 (by decide) rfl rfl
        have x0 := cell_later R.b z2
        exact ⟨_, by simp [execOp, go_sem, e60, x0], rfl⟩
    · exact ox_pure rfl fun X ρ v R => ⟨_, by simp [execOp, go_sem], R.old 17 (by decide)⟩
    · exact ox_pure rfl fun X ρ v R => by
        have e61 : ρ (.tmp 61) = Value.int IntKind.i64 rb := R.dep 15 61 (by decide) rfl rfl
        have e62 : ρ (.tmp 62) = Value.int IntKind.i64 rb := R.dep 16 62 (by decide) rfl rfl
        exact ⟨_, by simp [execOp, go_sem, e61, e62], rfl⟩
    · exact ox_pure rfl fun X ρ v R => by
        have e59 : ρ (.tmp 59) = Value.bool true := R.dep 13 59 (by decide) rfl rfl
        have e63 : ρ (.tmp 63) = Value.bool true := R.dep 17 63 (by decide) rfl rfl
        exact ⟨_, by simp [execOp, go_sem, e59, e63, R.con], rfl⟩
    · exact ox_pure rfl fun X ρ v R => ⟨_, by simp [execOp, go_sem], R.dep 18 64 (by decide) rfl rfl⟩
    · exact ox_pure rfl fun X ρ v R => ⟨_, by simp [execOp, go_sem], R.old 0 (by decide)⟩
    · exact ox_pure rfl fun X ρ v R => ⟨_, by simp [execOp, go_sem], R.old 1 (by decide)⟩
    · exact ox_pure rfl fun X ρ v R => by
        have e7 : ρ (.tmp 7) = Value.pointer (some { block := gq, off := 0 }) := R.old 7 (by decide)
        have x0 := cell_later R.b q0
        have x1 := cell_later R.b q1
        exact ⟨_, by simp [execOp, go_sem, e7, x0, x1], rfl⟩
    · exact ox_call 13 rfl fun X ρ v R => by
        have e66 : ρ (.tmp 66) = Value.slice h_11.p h_11.n h_11.c := R.dep 20 66 (by decide) rfl rfl
        have e67 : ρ (.tmp 67) = Value.slice h_12.p h_12.n h_12.c := R.dep 21 67 (by decide) rfl rfl
        have e68 : ρ (.tmp 68) = Value.agg #[Value.bool u_10.s, Value.slice u_10.p u_10.n u_10.c] := R.dep 22 68 (by decide) rfl rfl
        exact ⟨_, by simp [execOp, go_sem, e66, e67, e68, R.fn], an_val (F3 _ (bnext' hB8 R.b))⟩
    · exact ox_pure rfl fun X ρ v R => ⟨_, by simp [execOp, go_sem], R.old 10 (by decide)⟩
    · exact ox_pure rfl fun X ρ v R => ⟨_, by simp [execOp, go_sem], R.old 11 (by decide)⟩
    · exact ox_pure rfl fun X ρ v R => by
        have e13 : ρ (.tmp 13) = Value.pointer (some { block := b_8', off := 0 }) := R.old 13 (by decide)
        have x0 := cell_later R.b n0
        have x1 := cell_later R.b n1
        exact ⟨_, by simp [execOp, go_sem, e13, x0, x1], rfl⟩
    · exact ox_call 14 rfl fun X ρ v R => by
        have e70 : ρ (.tmp 70) = Value.slice h_9'.p h_9'.n h_9'.c := R.dep 24 70 (by decide) rfl rfl
        have e71 : ρ (.tmp 71) = Value.slice h_10'.p h_10'.n h_10'.c := R.dep 25 71 (by decide) rfl rfl
        have e72 : ρ (.tmp 72) = Value.agg #[Value.bool u_7'.s, Value.slice u_7'.p u_7'.n u_7'.c] := R.dep 26 72 (by decide) rfl rfl
        exact ⟨_, by simp [execOp, go_sem, e70, e71, e72, R.fn], an_val (F4 _ (bnext' hB8 R.b))⟩
    · exact ox_pure rfl fun X ρ v R => by
        have e69 : ρ (.tmp 69) = Value.int IntKind.i64 V1 := R.dep 23 69 (by decide) rfl rfl
        have e73 : ρ (.tmp 73) = Value.int IntKind.i64 V1 := R.dep 27 73 (by decide) rfl rfl
        exact ⟨_, by simp [execOp, go_sem, e69, e73], rfl⟩
    · exact ox_pure rfl fun X ρ v R => by
        have e65 : ρ (.tmp 65) = Value.bool true := R.dep 19 65 (by decide) rfl rfl
        have e74 : ρ (.tmp 74) = Value.bool true := R.dep 28 74 (by decide) rfl rfl
        exact ⟨_, by simp [execOp, go_sem, e65, e74, R.con], rfl⟩
    · exact ox_pure rfl fun X ρ v R => ⟨_, by simp [execOp, go_sem], R.dep 29 75 (by decide) rfl rfl⟩
    · exact ox_pure rfl fun X ρ v R => ⟨_, by simp [execOp, go_sem], R.old 0 (by decide)⟩
    · exact ox_pure rfl fun X ρ v R => ⟨_, by simp [execOp, go_sem], R.old 2 (by decide)⟩
    · exact ox_pure rfl fun X ρ v R => by
        have e7 : ρ (.tmp 7) = Value.pointer (some { block := gq, off := 0 }) := R.old 7 (by decide)
        have x0 := cell_later R.b q0
        have x1 := cell_later R.b q1
        exact ⟨_, by simp [execOp, go_sem, e7, x0, x1], rfl⟩
    · exact ox_call 15 rfl fun X ρ v R => by
        have e77 : ρ (.tmp 77) = Value.slice h_11.p h_11.n h_11.c := R.dep 31 77 (by decide) rfl rfl
        have e78 : ρ (.tmp 78) = Value.slice h_13.p h_13.n h_13.c := R.dep 32 78 (by decide) rfl rfl
        have e79 : ρ (.tmp 79) = Value.agg #[Value.bool u_10.s, Value.slice u_10.p u_10.n u_10.c] := R.dep 33 79 (by decide) rfl rfl
        exact ⟨_, by simp [execOp, go_sem, e77, e78, e79, R.fn], an_val (F5 _ (bnext' hB8 R.b))⟩
    · exact ox_pure rfl fun X ρ v R => ⟨_, by simp [execOp, go_sem], R.old 10 (by decide)⟩
    · exact ox_pure rfl fun X ρ v R => ⟨_, by simp [execOp, go_sem], R.old 12 (by decide)⟩
    · exact ox_pure rfl fun X ρ v R => by
        have e13 : ρ (.tmp 13) = Value.pointer (some { block := b_8', off := 0 }) := R.old 13 (by decide)
        have x0 := cell_later R.b n0
        have x1 := cell_later R.b n1
        exact ⟨_, by simp [execOp, go_sem, e13, x0, x1], rfl⟩
    · exact ox_call 16 rfl fun X ρ v R => by
        have e81 : ρ (.tmp 81) = Value.slice h_9'.p h_9'.n h_9'.c := R.dep 35 81 (by decide) rfl rfl
        have e82 : ρ (.tmp 82) = Value.slice h_11'.p h_11'.n h_11'.c := R.dep 36 82 (by decide) rfl rfl
        have e83 : ρ (.tmp 83) = Value.agg #[Value.bool u_7'.s, Value.slice u_7'.p u_7'.n u_7'.c] := R.dep 37 83 (by decide) rfl rfl
        exact ⟨_, by simp [execOp, go_sem, e81, e82, e83, R.fn], an_val (F6 _ (bnext' hB8 R.b))⟩
    · exact ox_pure rfl fun X ρ v R => by
        have e80 : ρ (.tmp 80) = Value.int IntKind.i64 V2 := R.dep 34 80 (by decide) rfl rfl
        have e84 : ρ (.tmp 84) = Value.int IntKind.i64 V2 := R.dep 38 84 (by decide) rfl rfl
        exact ⟨_, by simp [execOp, go_sem, e80, e84], rfl⟩
    · exact ox_pure rfl fun X ρ v R => by
        have e76 : ρ (.tmp 76) = Value.bool true := R.dep 30 76 (by decide) rfl rfl
        have e85 : ρ (.tmp 85) = Value.bool true := R.dep 39 85 (by decide) rfl rfl
        exact ⟨_, by simp [execOp, go_sem, e76, e85, R.con], rfl⟩
    · exact ox_pure rfl fun X ρ v R => ⟨_, by simp [execOp, go_sem], R.dep 40 86 (by decide) rfl rfl⟩
    · exact ox_pure rfl fun X ρ v R => ⟨_, by simp [execOp, go_sem], R.old 0 (by decide)⟩
    · exact ox_pure rfl fun X ρ v R => ⟨_, by simp [execOp, go_sem], R.old 1 (by decide)⟩
    · exact ox_pure rfl fun X ρ v R => by
        have e7 : ρ (.tmp 7) = Value.pointer (some { block := gq, off := 0 }) := R.old 7 (by decide)
        have x0 := cell_later R.b q0
        have x1 := cell_later R.b q1
        exact ⟨_, by simp [execOp, go_sem, e7, x0, x1], rfl⟩
    · exact ox_call 17 rfl fun X ρ v R => by
        have e88 : ρ (.tmp 88) = Value.slice h_11.p h_11.n h_11.c := R.dep 42 88 (by decide) rfl rfl
        have e89 : ρ (.tmp 89) = Value.slice h_12.p h_12.n h_12.c := R.dep 43 89 (by decide) rfl rfl
        have e90 : ρ (.tmp 90) = Value.agg #[Value.bool u_10.s, Value.slice u_10.p u_10.n u_10.c] := R.dep 44 90 (by decide) rfl rfl
        exact ⟨_, by simp [execOp, go_sem, e88, e89, e90, R.fn], an_val (F7 _ (bnext' hB8 R.b))⟩
    · exact ox_pure rfl fun X ρ v R => ⟨_, by simp [execOp, go_sem], R.old 10 (by decide)⟩
    · exact ox_pure rfl fun X ρ v R => ⟨_, by simp [execOp, go_sem], R.old 11 (by decide)⟩
    · exact ox_pure rfl fun X ρ v R => by
        have e13 : ρ (.tmp 13) = Value.pointer (some { block := b_8', off := 0 }) := R.old 13 (by decide)
        have x0 := cell_later R.b n0
        have x1 := cell_later R.b n1
        exact ⟨_, by simp [execOp, go_sem, e13, x0, x1], rfl⟩
    · exact ox_call 18 rfl fun X ρ v R => by
        have e92 : ρ (.tmp 92) = Value.slice h_9'.p h_9'.n h_9'.c := R.dep 46 92 (by decide) rfl rfl
        have e93 : ρ (.tmp 93) = Value.slice h_10'.p h_10'.n h_10'.c := R.dep 47 93 (by decide) rfl rfl
        have e94 : ρ (.tmp 94) = Value.agg #[Value.bool u_7'.s, Value.slice u_7'.p u_7'.n u_7'.c] := R.dep 48 94 (by decide) rfl rfl
        exact ⟨_, by simp [execOp, go_sem, e92, e93, e94, R.fn], an_val (F8 _ (bnext' hB8 R.b))⟩
    · exact ox_pure rfl fun X ρ v R => by
        have e91 : ρ (.tmp 91) = Value.int IntKind.i64 V3 := R.dep 45 91 (by decide) rfl rfl
        have e95 : ρ (.tmp 95) = Value.int IntKind.i64 V3 := R.dep 49 95 (by decide) rfl rfl
        exact ⟨_, by simp [execOp, go_sem, e91, e95], rfl⟩
    · exact ox_pure rfl fun X ρ v R => by
        have e87 : ρ (.tmp 87) = Value.bool true := R.dep 41 87 (by decide) rfl rfl
        have e96 : ρ (.tmp 96) = Value.bool true := R.dep 50 96 (by decide) rfl rfl
        exact ⟨_, by simp [execOp, go_sem, e87, e96, R.con], rfl⟩
    · exact ox_pure rfl fun X ρ v R => ⟨_, by simp [execOp, go_sem], R.dep 51 97 (by decide) rfl rfl⟩
    · exact ox_pure rfl fun X ρ v R => ⟨_, by simp [execOp, go_sem], R.old 0 (by decide)⟩
    · exact ox_pure rfl fun X ρ v R => ⟨_, by simp [execOp, go_sem], R.old 1 (by decide)⟩
    · exact ox_pure rfl fun X ρ v R => by
        have e7 : ρ (.tmp 7) = Value.pointer (some { block := gq, off := 0 }) := R.old 7 (by decide)
        have x0 := cell_later R.b q0
        have x1 := cell_later R.b q1
        exact ⟨_, by simp [execOp, go_sem, e7, x0, x1], rfl⟩
    · exact ox_call 19 rfl fun X ρ v R => by
        have e99 : ρ (.tmp 99) = Value.slice h_11.p h_11.n h_11.c := R.dep 53 99 (by decide) rfl rfl
        have e100 : ρ (.tmp 100) = Value.slice h_12.p h_12.n h_12.c := R.dep 54 100 (by decide) rfl rfl
        have e101 : ρ (.tmp 101) = Value.agg #[Value.bool u_10.s, Value.slice u_10.p u_10.n u_10.c] := R.dep 55 101 (by decide) rfl rfl
        exact ⟨_, by simp [execOp, go_sem, e99, e100, e101, R.fn], an_val (F9 _ (bnext' hB8 R.b))⟩
    · exact ox_pure rfl fun X ρ v R => ⟨_, by simp [execOp, go_sem], R.old 10 (by decide)⟩
    · exact ox_pure rfl fun X ρ v R => ⟨_, by simp [execOp, go_sem], R.old 11 (by decide)⟩
    · exact ox_pure rfl fun X ρ v R => by
        have e13 : ρ (.tmp 13) = Value.pointer (some { block := b_8', off := 0 }) := R.old 13 (by decide)
        have x0 := cell_later R.b n0
        have x1 := cell_later R.b n1
        exact ⟨_, by simp [execOp, go_sem, e13, x0, x1], rfl⟩
    · exact ox_call 20 rfl fun X ρ v R => by
        have e103 : ρ (.tmp 103) = Value.slice h_9'.p h_9'.n h_9'.c := R.dep 57 103 (by decide) rfl rfl
        have e104 : ρ (.tmp 104) = Value.slice h_10'.p h_10'.n h_10'.c := R.dep 58 104 (by decide) rfl rfl
        have e105 : ρ (.tmp 105) = Value.agg #[Value.bool u_7'.s, Value.slice u_7'.p u_7'.n u_7'.c] := R.dep 59 105 (by decide) rfl rfl
        exact ⟨_, by simp [execOp, go_sem, e103, e104, e105, R.fn], an_val (F10 _ (bnext' hB8 R.b))⟩
    · exact ox_pure rfl fun X ρ v R => by
        have e102 : ρ (.tmp 102) = Value.int IntKind.i64 V4 := R.dep 56 102 (by decide) rfl rfl
        have e106 : ρ (.tmp 106) = Value.int IntKind.i64 V4 := R.dep 60 106 (by decide) rfl rfl
        exact ⟨_, by simp [execOp, go_sem, e102, e106], rfl⟩
    · exact ox_pure rfl fun X ρ v R => by
        have e98 : ρ (.tmp 98) = Value.bool true := R.dep 52 98 (by decide) rfl rfl
        have e107 : ρ (.tmp 107) = Value.bool true := R.dep 61 107 (by decide) rfl rfl
        exact ⟨_, by simp [execOp, go_sem, e98, e107, R.con], rfl⟩
    · exact ox_pure rfl fun X ρ v R => ⟨_, by simp [execOp, go_sem], R.dep 62 108 (by decide) rfl rfl⟩
  intro vals w9 hb9 hv
  have e_0 : vals 0 = Value.bool true := hv (0, 46) (by decide)
  have e_1 : vals 1 = Value.bool true := hv (1, 47) (by decide)
  have e_2 : vals 2 = Value.pointer (some { block := gz, off := 0 }) := hv (2, 48) (by decide)
  have e_3 : vals 3 = Value.int IntKind.i64 ro := hv (3, 49) (by decide)
  have e_4 : vals 4 = Value.int IntKind.i64 ro := hv (4, 50) (by decide)
  have e_5 : vals 5 = Value.bool true := hv (5, 51) (by decide)
  have e_6 : vals 6 = Value.bool true := hv (6, 52) (by decide)
  have e_7 : vals 7 = Value.bool true := hv (7, 53) (by decide)
  have e_8 : vals 8 = Value.pointer (some { block := gz, off := 1 }) := hv (8, 54) (by decide)
  have e_9 : vals 9 = Value.int IntKind.i64 rd := hv (9, 55) (by decide)
  have e_10 : vals 10 = Value.int IntKind.i64 rd := hv (10, 56) (by decide)
  have e_11 : vals 11 = Value.bool true := hv (11, 57) (by decide)
  have e_12 : vals 12 = Value.bool true := hv (12, 58) (by decide)
  have e_13 : vals 13 = Value.bool true := hv (13, 59) (by decide)
  have e_14 : vals 14 = Value.pointer (some { block := gz, off := 2 }) := hv (14, 60) (by decide)
  have e_15 : vals 15 = Value.int IntKind.i64 rb := hv (15, 61) (by decide)
  have e_16 : vals 16 = Value.int IntKind.i64 rb := hv (16, 62) (by decide)
  have e_17 : vals 17 = Value.bool true := hv (17, 63) (by decide)
  have e_18 : vals 18 = Value.bool true := hv (18, 64) (by decide)
  have e_19 : vals 19 = Value.bool true := hv (19, 65) (by decide)
  have e_20 : vals 20 = Value.slice h_11.p h_11.n h_11.c := hv (20, 66) (by decide)
  have e_21 : vals 21 = Value.slice h_12.p h_12.n h_12.c := hv (21, 67) (by decide)
  have e_22 : vals 22 = Value.agg #[Value.bool u_10.s, Value.slice u_10.p u_10.n u_10.c] := hv (22, 68) (by decide)
  have e_23 : vals 23 = Value.int IntKind.i64 V1 := hv (23, 69) (by decide)
  have e_24 : vals 24 = Value.slice h_9'.p h_9'.n h_9'.c := hv (24, 70) (by decide)
  have e_25 : vals 25 = Value.slice h_10'.p h_10'.n h_10'.c := hv (25, 71) (by decide)
  have e_26 : vals 26 = Value.agg #[Value.bool u_7'.s, Value.slice u_7'.p u_7'.n u_7'.c] := hv (26, 72) (by decide)
  have e_27 : vals 27 = Value.int IntKind.i64 V1 := hv (27, 73) (by decide)
  have e_28 : vals 28 = Value.bool true := hv (28, 74) (by decide)
  have e_29 : vals 29 = Value.bool true := hv (29, 75) (by decide)
  have e_30 : vals 30 = Value.bool true := hv (30, 76) (by decide)
  have e_31 : vals 31 = Value.slice h_11.p h_11.n h_11.c := hv (31, 77) (by decide)
  have e_32 : vals 32 = Value.slice h_13.p h_13.n h_13.c := hv (32, 78) (by decide)
  have e_33 : vals 33 = Value.agg #[Value.bool u_10.s, Value.slice u_10.p u_10.n u_10.c] := hv (33, 79) (by decide)
  have e_34 : vals 34 = Value.int IntKind.i64 V2 := hv (34, 80) (by decide)
  have e_35 : vals 35 = Value.slice h_9'.p h_9'.n h_9'.c := hv (35, 81) (by decide)
  have e_36 : vals 36 = Value.slice h_11'.p h_11'.n h_11'.c := hv (36, 82) (by decide)
  have e_37 : vals 37 = Value.agg #[Value.bool u_7'.s, Value.slice u_7'.p u_7'.n u_7'.c] := hv (37, 83) (by decide)
  have e_38 : vals 38 = Value.int IntKind.i64 V2 := hv (38, 84) (by decide)
  have e_39 : vals 39 = Value.bool true := hv (39, 85) (by decide)
  have e_40 : vals 40 = Value.bool true := hv (40, 86) (by decide)
  have e_41 : vals 41 = Value.bool true := hv (41, 87) (by decide)
  have e_42 : vals 42 = Value.slice h_11.p h_11.n h_11.c := hv (42, 88) (by decide)
  have e_43 : vals 43 = Value.slice h_12.p h_12.n h_12.c := hv (43, 89) (by decide)
  have e_44 : vals 44 = Value.agg #[Value.bool u_10.s, Value.slice u_10.p u_10.n u_10.c] := hv (44, 90) (by decide)
  have e_45 : vals 45 = Value.int IntKind.i64 V3 := hv (45, 91) (by decide)
  have e_46 : vals 46 = Value.slice h_9'.p h_9'.n h_9'.c := hv (46, 92) (by decide)
  have e_47 : vals 47 = Value.slice h_10'.p h_10'.n h_10'.c := hv (47, 93) (by decide)
  have e_48 : vals 48 = Value.agg #[Value.bool u_7'.s, Value.slice u_7'.p u_7'.n u_7'.c] := hv (48, 94) (by decide)
  have e_49 : vals 49 = Value.int IntKind.i64 V3 := hv (49, 95) (by decide)
  have e_50 : vals 50 = Value.bool true := hv (50, 96) (by decide)
  have e_51 : vals 51 = Value.bool true := hv (51, 97) (by decide)
  have e_52 : vals 52 = Value.bool true := hv (52, 98) (by decide)
  have e_53 : vals 53 = Value.slice h_11.p h_11.n h_11.c := hv (53, 99) (by decide)
  have e_54 : vals 54 = Value.slice h_12.p h_12.n h_12.c := hv (54, 100) (by decide)
  have e_55 : vals 55 = Value.agg #[Value.bool u_10.s, Value.slice u_10.p u_10.n u_10.c] := hv (55, 101) (by decide)
  have e_56 : vals 56 = Value.int IntKind.i64 V4 := hv (56, 102) (by decide)
  have e_57 : vals 57 = Value.slice h_9'.p h_9'.n h_9'.c := hv (57, 103) (by decide)
  have e_58 : vals 58 = Value.slice h_10'.p h_10'.n h_10'.c := hv (58, 104) (by decide)
  have e_59 : vals 59 = Value.agg #[Value.bool u_7'.s, Value.slice u_7'.p u_7'.n u_7'.c] := hv (59, 105) (by decide)
  have e_60 : vals 60 = Value.int IntKind.i64 V4 := hv (60, 106) (by decide)
  have e_61 : vals 61 = Value.bool true := hv (61, 107) (by decide)
  have e_62 : vals 62 = Value.bool true := hv (62, 108) (by decide)
  have e_63 : vals 63 = Value.bool true := hv (63, 8) (by decide)
  refine ends_none rfl ?_
  simp only [List.foldl, e_0, e_1, e_2, e_3, e_4, e_5, e_6, e_7, e_8, e_9, e_10, e_11, e_12, e_13, e_14, e_15, e_16, e_17, e_18, e_19, e_20, e_21, e_22, e_23, e_24, e_25, e_26, e_27, e_28, e_29, e_30, e_31, e_32, e_33, e_34, e_35, e_36, e_37, e_38, e_39, e_40, e_41, e_42, e_43, e_44, e_45, e_46, e_47, e_48, e_49, e_50, e_51, e_52, e_53, e_54, e_55, e_56, e_57, e_58, e_59, e_60, e_61, e_62, e_63, List.setIfInBounds_toArray, List.set_cons_succ, List.set_cons_zero]
  clear hv e_0 e_1 e_2 e_3 e_4 e_5 e_6 e_7 e_8 e_9 e_10 e_11 e_12 e_13 e_14 e_15 e_16 e_17 e_18 e_19 e_20 e_21 e_22 e_23 e_24 e_25 e_26 e_27 e_28 e_29 e_30 e_31 e_32 e_33 e_34 e_35 e_36 e_37 e_38 e_39 e_40 e_41 e_42 e_43 e_44 e_45 e_46 e_47 e_48 e_49 e_50 e_51 e_52 e_53 e_54 e_55 e_56 e_57 e_58 e_59 e_60 e_61 e_62 e_63
  have HBE : Hid (Below w.heap.size w w9) := by
    show Below w.heap.size w w9
    rw [H11.out]
    exact hB.trans ((bnext' hB8 hb9).mono (by have h1 := H11.out; have h2 := hB.size; omega))
  clear F3 F4 F5 F6 F7 F8 F9 F10
  go_wp2
  go_ret
  exact ⟨rfl, HBE.out⟩
end Go.Proofs.Ytcdfckjlmifjiaa
