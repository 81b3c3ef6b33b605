/-
  Lists of numbers in memory: slices whose elements have two cells.
-/
import Derived.Test.YtcdfckjlmifjiaaGreatWdWeNi
import Derived.Test.YtcdfckjlmifjiaaGreatMmKpOr
namespace Go.Proofs.YtcdfckjlmifjiaaGreat
open Go.RowKit
set_option linter.unusedVariables false
set_option linter.unusedSimpArgs false

/-- An element: its sign, its slice. -/
structure Ent where
  s : Bool
  p : Option Addr
  n : Nat
  c : Nat
/-- The element that make lays. -/
def ez : Ent := ⟨false, none, 0, 0⟩
/-- The element at a place. -/
def ge (es : List Ent) (i : Nat) : Ent := (es[i]?).getD ez
theorem ge_take (es : List Ent) (n i : Nat) (h : i < n) : ge (es.take n) i = ge es i := by simp [ge, List.getElem?_take, h]
theorem ge_append_left (a b : List Ent) (i : Nat) (h : i < a.length) : ge (a ++ b) i = ge a i := by simp [ge, List.getElem?_append, h]
theorem ge_snoc (a : List Ent) (e : Ent) : ge (a ++ [e]) a.length = e := by simp [ge]
/-- The elements lie at p. -/
def PL (w : World) (p : Option Addr) (es : List Ent) : Prop :=
  0 < es.length → ∃ b o, p = some ⟨b, o, none⟩ ∧ ∀ j, j < es.length → w.cell? ⟨b, o + j * 2, none⟩ = some (.bool (ge es j).s) ∧ w.cell? ⟨b, o + j * 2 + 1, none⟩ = some (.slice (ge es j).p (ge es j).n (ge es j).c)
/-- The cells of a list. -/
def ca2 (es : List Ent) : Array Value := (es.flatMap fun e => [.bool e.s, .slice e.p e.n e.c]).toArray
/-- Block g is a list, known whole. -/
def Row2 (w : World) (g : Nat) (t : TypeId) (es : List Ent) : Prop := w.heap[g]? = some (.cells (ca2 es) t (0, 0))
theorem flat_get (es : List Ent) : ∀ j, j < es.length → (es.flatMap fun e => [Value.bool e.s, .slice e.p e.n e.c])[j * 2]? = some (.bool (ge es j).s) ∧ (es.flatMap fun e => [Value.bool e.s, .slice e.p e.n e.c])[j * 2 + 1]? = some (.slice (ge es j).p (ge es j).n (ge es j).c) := by
  induction es with
  | nil => intro j hj; simp at hj
  | cons e r ih =>
    intro j hj
    cases j with
    | zero => exact ⟨rfl, rfl⟩
    | succ j =>
      have h := ih j (by simpa using hj)
      have e1 : (j + 1) * 2 = j * 2 + 1 + 1 := by omega
      have e2 : (j + 1) * 2 + 1 = j * 2 + 1 + 1 + 1 := by omega
      have e3 : ge (e :: r) (j + 1) = ge r j := by simp [ge]
      rw [e1, e3]
      simp only [List.flatMap_cons, List.cons_append, List.nil_append, List.getElem?_cons_succ]
      exact h
theorem flat_set (es : List Ent) : ∀ j e, j < es.length → ((es.flatMap fun e => [Value.bool e.s, .slice e.p e.n e.c]).set (j * 2) (.bool e.s)).set (j * 2 + 1) (.slice e.p e.n e.c) = (es.set j e).flatMap fun e => [Value.bool e.s, .slice e.p e.n e.c] := by
  induction es with
  | nil => intro j e hj; simp at hj
  | cons a r ih =>
    intro j e hj
    cases j with
    | zero => rfl
    | succ j =>
      have h := ih j e (by simpa using hj)
      have e1 : (j + 1) * 2 = j * 2 + 1 + 1 := by omega
      rw [e1]
      simp only [List.flatMap_cons, List.cons_append, List.nil_append, List.set_cons_succ]
      rw [h]
section
variable {w w' : World} {g : Nat} {t : TypeId} {es : List Ent} {p : Option Addr}
theorem Row2.lt (h : Row2 w g t es) : g < w.heap.size := (Array.getElem?_eq_some_iff.1 h).1
theorem Row2.cell (h : Row2 w g t es) (j : Nat) (hj : j < es.length) : w.cell? ⟨g, j * 2, none⟩ = some (.bool (ge es j).s) ∧ w.cell? ⟨g, j * 2 + 1, none⟩ = some (.slice (ge es j).p (ge es j).n (ge es j).c) := by
  obtain ⟨h1, h2⟩ := flat_get es j hj
  rw [cell_of_row w g (j * 2) _ t (0, 0) h, cell_of_row w g (j * 2 + 1) _ t (0, 0) h]
  simp only [ca2, List.getElem?_toArray]
  exact ⟨h1, h2⟩
theorem Row2.frozen (h : Row2 w g t es) (j : Nat) : w.frozen? ⟨g, j, none⟩ = false := frozen_of_row w g j _ t h
theorem Row2.set (h : Row2 w g t es) (j : Nat) (e : Ent) (hj : j < es.length) : Row2 ((w.setCell ⟨g, j * 2, none⟩ (.bool e.s)).setCell ⟨g, j * 2 + 1, none⟩ (.slice e.p e.n e.c)) g t (es.set j e) := by
  unfold Row2
  have h1 := heap_setCell_same w g (j * 2) _ t (.bool e.s) h
  rw [heap_setCell_same _ g (j * 2 + 1) _ t (.slice e.p e.n e.c) h1]
  simp only [ca2, List.setIfInBounds_toArray]
  rw [flat_set es j e hj]
theorem Row2.below {B : Nat} (h : Row2 w g t es) (hb : Below B w w') (hg : g < B) : Row2 w' g t es := (hb.block g hg).trans h
theorem Row2.drew (h : Row2 w g t es) : Row2 w.drew g t es := h
theorem Row2.alloc (h : Row2 w g t es) (o : Obj) : Row2 (w.alloc o) g t es := (Below.heap_alloc w o g h.lt).trans h
theorem Row2.new (w : World) (t : TypeId) (es : List Ent) : Row2 (w.alloc (.cells (ca2 es) t)) w.heap.size t es := heap_alloc_new w _
theorem Row2.set_other (h : Row2 w g t es) (a : Addr) (v : Value) (hne : g ≠ a.block) : Row2 (w.setCell a v) g t es := (heap_setCell_other w a g v hne).trans h
theorem Row2.pl (h : Row2 w g t es) : PL w (some ⟨g, 0, none⟩) es := fun _ => ⟨g, 0, rfl, fun j hj => by
  simp only [Nat.zero_add]; exact h.cell j hj⟩
theorem PL.nil : PL w p [] := fun h => by simp at h
theorem PL.lt (h : PL w p es) (hx : 0 < es.length) : ∃ b o, p = some ⟨b, o, none⟩ ∧ b < w.heap.size := by
  obtain ⟨b, o, hp, hc⟩ := h hx
  exact ⟨b, o, hp, block_lt_of_cell (hc 0 hx).1⟩
theorem PL.same (h : PL w p es) (hs : ∀ a, p = some a → a.block < w.heap.size → w'.heap[a.block]? = w.heap[a.block]?) : PL w' p es := fun hx => by
  obtain ⟨b, o, hp, hc⟩ := h hx
  refine ⟨b, o, hp, fun j hj => ?_⟩
  have hlt : b < w.heap.size := block_lt_of_cell (hc 0 hx).1
  have hb := hs ⟨b, o, none⟩ hp hlt
  exact ⟨(World.cell?_of_block (a := ⟨b, o + j * 2, none⟩) hb).trans (hc j hj).1, (World.cell?_of_block (a := ⟨b, o + j * 2 + 1, none⟩) hb).trans (hc j hj).2⟩
theorem PL.below (h : PL w p es) (hb : Below w.heap.size w w') : PL w' p es := h.same fun a _ hlt => hb.block a.block hlt
theorem PL.off (h : PL w p es) (hg : w.heap.size ≤ g) (hx : 0 < es.length) : Off g p := fun a ha e => by
  obtain ⟨b, o, hp, hlt⟩ := h.lt hx
  rw [hp] at ha
  cases ha
  simp at e; omega
theorem PL.drew (h : PL w p es) : PL w.drew p es := h
theorem PL.alloc (h : PL w p es) (o : Obj) : PL (w.alloc o) p es := h.same fun a _ hlt => Below.heap_alloc w o a.block hlt
theorem PL.set_other (h : PL w p es) (a : Addr) (v : Value) (hne : Off a.block p) : PL (w.setCell a v) p es := h.same fun b hb _ => heap_setCell_other w a b.block v (hne b hb)
theorem PL.take (h : PL w p es) (n : Nat) : PL w p (es.take n) := fun hx => by
  obtain ⟨b, o, hp, hc⟩ := h (by simp at hx; omega)
  refine ⟨b, o, hp, fun j hj => ?_⟩
  have : j < n ∧ j < es.length := by simp at hj; omega
  rw [ge_take _ _ _ this.1]; exact hc j this.2
end
/-- The number of an element. -/
def EV (w : World) (K : Nat) (z : Int) (e : Ent) : Prop := ∃ xs, AI w e.p e.n e.c xs ∧ ival e.s xs = z ∧ e.n ≤ K
/-- A list of numbers that is handed in. -/
structure PA (w : World) (K : Nat) (p : Option Addr) (n nc : Nat) (es : List Ent) (zs : List Int) : Prop where
  el : es.length = n
  zl : zs.length = n
  cap : n ≤ nc
  bnd : nc ≤ maxLen
  pn : p = none → nc = 0
  pl : PL w p es
  ev : ∀ j, j < n → EV w K (gx zs j) (ge es j)
section
variable {w w' : World} {K : Nat} {z : Int} {e : Ent} {p : Option Addr} {n nc : Nat} {es : List Ent} {zs : List Int}
theorem EV.below (h : EV w K z e) (hb : Below w.heap.size w w') : EV w' K z e := by
  obtain ⟨xs, h1, h2⟩ := h
  exact ⟨xs, h1.below hb, h2⟩
theorem EV.drew (h : EV w K z e) : EV w.drew K z e := by
  obtain ⟨xs, h1, h2⟩ := h
  exact ⟨xs, h1.drew, h2⟩
theorem PA.below (h : PA w K p n nc es zs) (hb : Below w.heap.size w w') : PA w' K p n nc es zs := ⟨h.el, h.zl, h.cap, h.bnd, h.pn, h.pl.below hb, fun j hj => (h.ev j hj).below hb⟩
theorem PA.drew (h : PA w K p n nc es zs) : PA w.drew K p n nc es zs := ⟨h.el, h.zl, h.cap, h.bnd, h.pn, h.pl.drew, fun j hj => (h.ev j hj).drew⟩
theorem PA.take (h : PA w K p n nc es zs) (m : Nat) (hm : m ≤ n) : PA w K p m nc (es.take m) (zs.take m) :=
  ⟨by have := h.el; simp; omega, by have := h.zl; simp; omega, by have := h.cap; omega, h.bnd, h.pn, h.pl.take m, fun j hj => by rw [gx_take _ _ _ hj, ge_take _ _ _ hj]; exact h.ev j (by omega)⟩
theorem PA.clip (h : PA w K p n nc es zs) : (p = none → n = 0) → PA w K p n n es zs := fun hp => ⟨h.el, h.zl, Nat.le_refl _, by have := h.cap; have := h.bnd; omega, hp, h.pl, h.ev⟩
end
end Go.Proofs.YtcdfckjlmifjiaaGreat
/-
  Owned rows are read.
-/
namespace Go.Proofs.YtcdfckjlmifjiaaGreat
open Go.RowKit
set_option linter.unusedVariables false
set_option linter.unusedSimpArgs false

theorem rd_owns {w : World} {base g n cap : Nat} {e : TypeId} {xs : List Int} {k : IntKind} (h : w.ownsRow base e 1 (.slice (some ⟨g, 0, none⟩) n cap) n (xs.map (Value.int k))) : Rd w (some ⟨g, 0, none⟩) k xs := fun hx =>
  ⟨g, 0, rfl, fun j hj => by
    have := h.cells (g := g) rfl j (.int k (gx xs j)) (by rw [List.getElem?_map, List.getElem?_eq_getElem hj, gx_mem xs j hj]; rfl)
    rw [Addr.add_mid] at this
    exact this⟩

end Go.Proofs.YtcdfckjlmifjiaaGreat
/-
  Plain facts, further: a part of a row that is written entry by entry.
-/
namespace Go.Proofs.YtcdfckjlmifjiaaGreat
open Go.RowKit
set_option linter.unusedVariables false
set_option linter.unusedSimpArgs false

/-- The row with R in the place of the n entries from o on. -/
def mid (Z : List Int) (o : Nat) (R : List Int) : List Int := Z.take o ++ R ++ Z.drop (o + R.length)
theorem mid_length (Z R : List Int) (o : Nat) (h : o + R.length ≤ Z.length) : (mid Z o R).length = Z.length := row_length Z R o h
theorem mid_gx (Z R : List Int) (o j : Nat) (h : o + R.length ≤ Z.length) (hj : j < R.length) : gx (mid Z o R) (o + j) = gx R j := row_gx_new Z R o j _ (by omega) hj
theorem mid_set (Z R : List Int) (o j : Nat) (v : Int) (h : o + R.length ≤ Z.length) (hj : j < R.length) : (mid Z o R).set (o + j) v = mid Z o (R.set j v) := by
  have hl : (Z.take o).length = o := by simp; omega
  unfold mid
  rw [List.append_assoc, List.set_append_right _ _ (by omega), hl, Nat.add_sub_cancel_left, List.set_append_left _ _ hj, List.append_assoc, List.length_set]
theorem mid_self (Z : List Int) (o n : Nat) (h : o + n ≤ Z.length) : mid Z o ((Z.drop o).take n) = Z := by
  unfold mid
  rw [part_length Z o n h, List.append_assoc]
  have : (Z.drop o).take n ++ Z.drop (o + n) = Z.drop o := by
    rw [← List.drop_drop]; exact List.take_append_drop n (Z.drop o)
  rw [this, List.take_append_drop]
theorem val_set (R : List Int) (j : Nat) (v : Int) (h : j < R.length) : val (R.set j v) = val R + pw j * (v - gx R j) := by
  have e1 := val_at R j h
  have e2 := val_at (R.set j v) j (by simpa using h)
  rw [List.take_set_of_le (Nat.le_refl _), List.drop_set_of_lt (by omega), gx_set_eq R j v h] at e2
  rw [e2, e1, Int.mul_sub]
  omega
theorem u32_set {R : List Int} (h : U32 R) (j : Nat) {v : Int} (hv : 0 ≤ v ∧ v < 4294967296) : U32 (R.set j v) := fun k => by
  by_cases hk : j = k
  · subst hk
    by_cases hl : j < R.length
    · rw [gx_set_eq R j v hl]; exact hv
    · rw [gx_past _ _ (Nat.le_refl _) j (by simp; omega)]; decide
  · rw [gx_set_ne R j k v hk]; exact h k
theorem Row.mid_cell {w : World} {g : Nat} {e : TypeId} {k : IntKind} {Z R : List Int} {o : Nat} (hr : Row w g e k (mid Z o R)) (h : o + R.length ≤ Z.length) (j : Nat) (hj : j < R.length) : w.cell? ⟨g, o + j, none⟩ = some (.int k (gx R j)) := by
  have := hr.cell (o + j) (by rw [mid_length Z R o h]; omega)
  rwa [mid_gx Z R o j h hj] at this
theorem Row.mid_set {w : World} {g : Nat} {e : TypeId} {k : IntKind} {Z R : List Int} {o : Nat} (hr : Row w g e k (mid Z o R)) (h : o + R.length ≤ Z.length) (j : Nat) (hj : j < R.length) (v : Int) : Row (w.setCell ⟨g, o + j, none⟩ (.int k v)) g e k (mid Z o (R.set j v)) := by
  have := hr.set (o + j) v
  rwa [Proofs.YtcdfckjlmifjiaaGreat.mid_set Z R o j v h hj] at this
/-- A limb times a limb, a limb and a carry: it fits into two limbs. -/
theorem mul_bd {v x : Int} (h1 : 0 ≤ v ∧ v < 4294967296) (h2 : 0 ≤ x ∧ x < 4294967296) : 0 ≤ v * x ∧ v * x ≤ 18446744065119617025 := by
  refine ⟨Int.mul_nonneg h1.1 h2.1, ?_⟩
  have a1 : v * x ≤ v * 4294967295 := Int.mul_le_mul_of_nonneg_left (by omega) h1.1
  omega
/-- Two limbs joined by bits are their number. -/
theorem or_join (r x : Int) (h1 : 0 ≤ r) (h2 : r < 4294967296) (h3 : 0 ≤ x) (h4 : x < 4294967296) : bits .or .u64 (r * 4294967296) x = r * 4294967296 + x :=
  bits_join .u64 64 (by decide) (fun n a b => by rw [IntKind.wrap_u64]; omega) 32 (r * 4294967296) x (by omega) (by omega) (by omega) h3 (by omega) (by omega)

theorem drop_cons (l : List Int) (j : Nat) (h : j < l.length) : l.drop j = gx l j :: l.drop (j + 1) := by rw [gx_mem l j h]; exact List.drop_eq_getElem_cons h
theorem drop_set_after (l : List Int) (n j : Nat) (v : Int) (hj : j < n) (h : n ≤ l.length) : ((l.set j v).take n).drop j = v :: (l.take n).drop (j + 1) := by
  rw [drop_cons _ j (by simp; omega), gx_take _ _ _ hj, gx_set_eq l j v (by omega)]
  congr 1
  rw [List.take_set, List.drop_set_of_lt (by omega)]
theorem quo_bd {r x d : Int} (h1 : 0 ≤ r) (h2 : r < d) (h3 : 0 ≤ x) (h4 : x < 4294967296) : 0 ≤ (r * 4294967296 + x) / d ∧ (r * 4294967296 + x) / d < 4294967296 := by
  refine ⟨Int.ediv_nonneg (by omega) (by omega), ?_⟩
  apply Int.ediv_lt_of_lt_mul (by omega)
  omega

theorem or_comm64 (a b : Int) (h1 : 0 ≤ a) (h2 : a < 18446744073709551616) (h3 : 0 ≤ b) (h4 : b < 18446744073709551616) : bits .or .u64 a b = bits .or .u64 b a := by
  obtain ⟨x, rfl⟩ := Int.eq_ofNat_of_zero_le h1
  obtain ⟨y, rfl⟩ := Int.eq_ofNat_of_zero_le h3
  have hk : ∀ n : Int, 0 ≤ n → n < 2 ^ 64 → IntKind.u64.wrap n = n := fun n a b => by rw [IntKind.wrap_u64]; omega
  rw [(bits_nat .u64 64 (by decide) hk x y (by omega) (by omega)).2, (bits_nat .u64 64 (by decide) hk y x (by omega) (by omega)).2, Nat.or_comm]
theorem or_join' (r x : Int) (h1 : 0 ≤ r) (h2 : r < 4294967296) (h3 : 0 ≤ x) (h4 : x < 4294967296) : bits .or .u64 x (r * 4294967296) = r * 4294967296 + x := by
  rw [or_comm64 _ _ h3 (by omega) (by omega) (by omega), or_join r x h1 h2 h3 h4]

end Go.Proofs.YtcdfckjlmifjiaaGreat
