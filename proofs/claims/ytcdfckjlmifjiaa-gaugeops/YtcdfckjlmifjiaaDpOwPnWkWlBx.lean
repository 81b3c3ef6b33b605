/-
  A row of polynomials, read as data (out of Om).
-/
import Derived.Test.YtcdfckjlmifjiaaUaOfVg
import Derived.Test.YtcdfckjlmifjiaaOn
import Derived.Deep.Slices
import Derived.Test.YtcdfckjlmifjiaaMm
import Derived.Test.YtcdfckjlmifjiaaOaWaWbWcWdWeNi
namespace Go.Proofs.Ytcdfckjlmifjiaa
open Go.ChangeShapes Go.WideShapes Go.ChangeAt Go.RowKit Go.Joins
set_option linter.unusedVariables false
set_option linter.unusedSimpArgs false

/-- A row of polynomials as it may be handed in. -/
structure RZ (w : World) (p : Option Addr) (n nc : Nat) (hs : List Hdr) : Prop where
  el : hs.length = n
  cap : n ≤ nc
  bnd : nc ≤ maxLen
  pn : p = none → nc = 0
  hl : HL w p hs
  ev : ∀ j, j < n → ∃ es, PZ w (gh hs j).p (gh hs j).n (gh hs j).c es
theorem RZ.below {w w' : World} {p : Option Addr} {n nc : Nat} {hs : List Hdr} (h : RZ w p n nc hs) (hb : Below w.heap.size w w') : RZ w' p n nc hs :=
  ⟨h.el, h.cap, h.bnd, h.pn, h.hl.below hb, fun j hj => let ⟨es, he⟩ := h.ev j hj; ⟨es, he.below hb⟩⟩
set_option maxRecDepth 100000 in
theorem polyT {H : Type} {enc : TypeId × Value → H} {W : World} {fuel : Nat} {v : Value} {x : DataW H × List MemPlace} (hf : DataW.trod enc Try.prog W 0 (fun _ => true) true fuel 25 [v] = some x) :
    v = (hdrOf v).val ∧ ∃ es, PZ W (hdrOf v).p (hdrOf v).n (hdrOf v).c es := by
  rcases Go.Deep.open_slice_pairs Try.underlying25 Try.underlying28 cellsI2 rfl rfl cellsB cellsUs hf with ⟨hcs, -⟩ | ⟨a, len, cap, m, k, V0, V1, D0, D1, P0, P1, hcs, -, hl, hm, hmm, -, hcell⟩
  · simp only [List.cons.injEq, and_true] at hcs
    subst hcs
    exact ⟨rfl, [], rfl, Nat.le_refl _, Nat.zero_le _, fun _ => rfl, PL.nil, fun j hj => absurd hj (Nat.not_lt_zero j)⟩
  · simp only [List.cons.injEq, and_true] at hcs
    subst hcs
    simp only [if_true] at hmm
    have hr : ∀ i, i < len → V0 i = .bool (entOf (V0 i) (V1 i)).s ∧ V1 i = .slice (entOf (V0 i) (V1 i)).p (entOf (V0 i) (V1 i)).n (entOf (V0 i) (V1 i)).c ∧ RawE W (entOf (V0 i) (V1 i)) := fun i hi => by
      obtain ⟨-, -, g0, g1⟩ := hcell i (by omega)
      exact rawCells g0 g1
    have hge : ∀ i, i < len → ge ((List.range len).map fun i => entOf (V0 i) (V1 i)) i = entOf (V0 i) (V1 i) := fun i hi => by simp [ge, hi]
    refine ⟨rfl, (List.range len).map fun i => entOf (V0 i) (V1 i), by show _ = len; simp, hl, hm, nofun, ?_, fun j (hj : j < len) => by rw [hge j hj]; exact (hr j hj).2.2⟩
    intro hp
    have hp' : 0 < len := by simpa using hp
    obtain ⟨b, off, spot⟩ := a
    have hspot : spot = none := by simpa [Addr.add] using World.cell?_spot (hcell 0 (by omega)).1
    subst hspot
    refine ⟨b, off, rfl, fun j hj => ?_⟩
    have hj' : j < len := by simpa using hj
    obtain ⟨c0, c1, -, -⟩ := hcell j (by omega)
    obtain ⟨e0, e1, -⟩ := hr j hj'
    rw [hge j hj', ← e0, ← e1]
    rw [add_plain] at c0 c1
    exact ⟨c0, c1⟩
theorem cellsP : Try.prog.cellsOf 25 = 1 := by kernel_rfl
/-- A slice whose elements are slices. -/
theorem sliceT {H : Type} {enc : TypeId × Value → H} {W : World} {fuel : Nat} {t e : TypeId} {v : Value} {x : DataW H × List MemPlace} (ht : Try.prog.underlying t = some (.slice e)) (hc : Try.prog.cellsOf e = 1) (hf : DataW.trod enc Try.prog W 0 (fun _ => true) true fuel t [v] = some x)
    {E : Hdr → Prop} (hE : ∀ (fuel : Nat) (u : Value) (y : DataW H × List MemPlace), DataW.trod enc Try.prog W 0 (fun _ => true) true fuel e [u] = some y → u = (hdrOf u).val ∧ E (hdrOf u)) :
    v = (hdrOf v).val ∧ (hdrOf v).n ≤ (hdrOf v).c ∧ (hdrOf v).c ≤ maxLen ∧ ((hdrOf v).p = none → (hdrOf v).c = 0) ∧ ∃ hs : List Hdr, hs.length = (hdrOf v).n ∧ HL W (hdrOf v).p hs ∧ ∀ j, j < (hdrOf v).n → E (gh hs j) := by
  rcases Go.Deep.open_slice1 ht hc hf with ⟨hcs, -⟩ | ⟨a, len, cap, m, n, V, D, Pl, hcs, -, hl, hm, hmm, -, hcell⟩
  · simp only [List.cons.injEq, and_true] at hcs
    subst hcs
    exact ⟨rfl, Nat.le_refl _, Nat.zero_le _, fun _ => rfl, [], rfl, fun h => absurd h (Nat.not_lt_zero 0), fun j hj => absurd hj (Nat.not_lt_zero j)⟩
  · simp only [List.cons.injEq, and_true] at hcs
    subst hcs
    simp only [if_true] at hmm
    have hg : ∀ i, i < len → gh ((List.range len).map fun i => hdrOf (V i)) i = hdrOf (V i) := fun i hi => by simp [gh, hi]
    refine ⟨rfl, hl, hm, nofun, (List.range len).map fun i => hdrOf (V i), by show _ = len; simp, fun hp => ?_, fun j (hj : j < len) => by rw [hg j hj]; exact (hE _ _ _ (hcell j (by omega)).2).2⟩
    have hp' : 0 < len := by simpa using hp
    obtain ⟨b, off, spot⟩ := a
    have hspot : spot = none := by simpa [Addr.add] using World.cell?_spot (hcell 0 (by omega)).1
    subst hspot
    refine ⟨b, off, rfl, fun j hj => ?_⟩
    have hj' : j < len := by simpa using hj
    obtain ⟨c0, g0⟩ := hcell j (by omega)
    rw [hg j hj', ← (hE _ _ _ g0).1]
    rw [add_plain] at c0
    exact c0
end Go.Proofs.Ytcdfckjlmifjiaa
/-
  Owned rows are read.
-/
namespace Go.Proofs.Ytcdfckjlmifjiaa
open Go.RowKit
set_option linter.unusedVariables false
set_option linter.unusedSimpArgs false

theorem rd_owns {w : World} {base g n cap : Nat} {e : TypeId} {xs : List Int} {k : IntKind} (h : w.ownsRow base e 1 (.slice (some ⟨g, 0, none⟩) n cap) n (xs.map (Value.int k))) : Rd w (some ⟨g, 0, none⟩) k xs := fun hx =>
  ⟨g, 0, rfl, fun j hj => by
    have := h.cells (g := g) rfl j (.int k (gx xs j)) (by rw [List.getElem?_map, List.getElem?_eq_getElem hj, gx_mem xs j hj]; rfl)
    rw [Addr.add_mid] at this
    exact this⟩

end Go.Proofs.Ytcdfckjlmifjiaa
/-
  Plain facts, further: a part of a row that is written entry by entry.
-/
namespace Go.Proofs.Ytcdfckjlmifjiaa
open Go.RowKit
set_option linter.unusedVariables false
set_option linter.unusedSimpArgs false

/-- The row with R in the place of the n entries from o on. -/
def mid (Z : List Int) (o : Nat) (R : List Int) : List Int := Z.take o ++ R ++ Z.drop (o + R.length)
theorem mid_length (Z R : List Int) (o : Nat) (h : o + R.length ≤ Z.length) : (mid Z o R).length = Z.length := row_length Z R o h
theorem mid_gx (Z R : List Int) (o j : Nat) (h : o + R.length ≤ Z.length) (hj : j < R.length) : gx (mid Z o R) (o + j) = gx R j := row_gx_new Z R o j _ (by omega) hj
theorem mid_set (Z R : List Int) (o j : Nat) (v : Int) (h : o + R.length ≤ Z.length) (hj : j < R.length) : (mid Z o R).set (o + j) v = mid Z o (R.set j v) := by
  have hl : (Z.take o).length = o := by simp; omega
  unfold mid
  rw [List.append_assoc, List.set_append_right _ _ (by omega), hl, Nat.add_sub_cancel_left, List.set_append_left _ _ hj, List.append_assoc, List.length_set]
theorem mid_self (Z : List Int) (o n : Nat) (h : o + n ≤ Z.length) : mid Z o ((Z.drop o).take n) = Z := by
  unfold mid
  rw [part_length Z o n h, List.append_assoc]
  have : (Z.drop o).take n ++ Z.drop (o + n) = Z.drop o := by
    rw [← List.drop_drop]; exact List.take_append_drop n (Z.drop o)
  rw [this, List.take_append_drop]
theorem mid_zero (Z R : List Int) (h : R.length = Z.length) : mid Z 0 R = R := by simp [mid, h]
theorem val_set (R : List Int) (j : Nat) (v : Int) (h : j < R.length) : val (R.set j v) = val R + pw j * (v - gx R j) := by
  have e1 := val_at R j h
  have e2 := val_at (R.set j v) j (by simpa using h)
  rw [List.take_set_of_le (Nat.le_refl _), List.drop_set_of_lt (by omega), gx_set_eq R j v h] at e2
  rw [e2, e1, Int.mul_sub]
  omega
theorem u32_set {R : List Int} (h : U32 R) (j : Nat) {v : Int} (hv : 0 ≤ v ∧ v < 4294967296) : U32 (R.set j v) := fun k => by
  by_cases hk : j = k
  · subst hk
    by_cases hl : j < R.length
    · rw [gx_set_eq R j v hl]; exact hv
    · rw [gx_past _ _ (Nat.le_refl _) j (by simp; omega)]; decide
  · rw [gx_set_ne R j k v hk]; exact h k
theorem Row.mid_cell {w : World} {g : Nat} {e : TypeId} {k : IntKind} {Z R : List Int} {o : Nat} (hr : Row w g e k (mid Z o R)) (h : o + R.length ≤ Z.length) (j : Nat) (hj : j < R.length) : w.cell? ⟨g, o + j, none⟩ = some (.int k (gx R j)) := by
  have := hr.cell (o + j) (by rw [mid_length Z R o h]; omega)
  rwa [mid_gx Z R o j h hj] at this
theorem Row.mid_set {w : World} {g : Nat} {e : TypeId} {k : IntKind} {Z R : List Int} {o : Nat} (hr : Row w g e k (mid Z o R)) (h : o + R.length ≤ Z.length) (j : Nat) (hj : j < R.length) (v : Int) : Row (w.setCell ⟨g, o + j, none⟩ (.int k v)) g e k (mid Z o (R.set j v)) := by
  have := hr.set (o + j) v
  rwa [Proofs.Ytcdfckjlmifjiaa.mid_set Z R o j v h hj] at this
/-- A limb times a limb, a limb and a carry: it fits into two limbs. -/
theorem mul_bd {v x : Int} (h1 : 0 ≤ v ∧ v < 4294967296) (h2 : 0 ≤ x ∧ x < 4294967296) : 0 ≤ v * x ∧ v * x ≤ 18446744065119617025 := by
  refine ⟨Int.mul_nonneg h1.1 h2.1, ?_⟩
  have a1 : v * x ≤ v * 4294967295 := Int.mul_le_mul_of_nonneg_left (by omega) h1.1
  omega
/-- Two limbs joined by bits are their number. -/
theorem or_join (r x : Int) (h1 : 0 ≤ r) (h2 : r < 4294967296) (h3 : 0 ≤ x) (h4 : x < 4294967296) : bits .or .u64 (r * 4294967296) x = r * 4294967296 + x :=
  bits_join .u64 64 (by decide) (fun n a b => by rw [IntKind.wrap_u64]; omega) 32 (r * 4294967296) x (by omega) (by omega) (by omega) h3 (by omega) (by omega)

theorem drop_cons (l : List Int) (j : Nat) (h : j < l.length) : l.drop j = gx l j :: l.drop (j + 1) := by rw [gx_mem l j h]; exact List.drop_eq_getElem_cons h
theorem drop_set_after (l : List Int) (n j : Nat) (v : Int) (hj : j < n) (h : n ≤ l.length) : ((l.set j v).take n).drop j = v :: (l.take n).drop (j + 1) := by
  rw [drop_cons _ j (by simp; omega), gx_take _ _ _ hj, gx_set_eq l j v (by omega)]
  congr 1
  rw [List.take_set, List.drop_set_of_lt (by omega)]
theorem quo_bd {r x d : Int} (h1 : 0 ≤ r) (h2 : r < d) (h3 : 0 ≤ x) (h4 : x < 4294967296) : 0 ≤ (r * 4294967296 + x) / d ∧ (r * 4294967296 + x) / d < 4294967296 := by
  refine ⟨Int.ediv_nonneg (by omega) (by omega), ?_⟩
  apply Int.ediv_lt_of_lt_mul (by omega)
  omega

theorem or_comm64 (a b : Int) (h1 : 0 ≤ a) (h2 : a < 18446744073709551616) (h3 : 0 ≤ b) (h4 : b < 18446744073709551616) : bits .or .u64 a b = bits .or .u64 b a := by
  obtain ⟨x, rfl⟩ := Int.eq_ofNat_of_zero_le h1
  obtain ⟨y, rfl⟩ := Int.eq_ofNat_of_zero_le h3
  have hk : ∀ n : Int, 0 ≤ n → n < 2 ^ 64 → IntKind.u64.wrap n = n := fun n a b => by rw [IntKind.wrap_u64]; omega
  rw [(bits_nat .u64 64 (by decide) hk x y (by omega) (by omega)).2, (bits_nat .u64 64 (by decide) hk y x (by omega) (by omega)).2, Nat.or_comm]
theorem or_join' (r x : Int) (h1 : 0 ≤ r) (h2 : r < 4294967296) (h3 : 0 ≤ x) (h4 : x < 4294967296) : bits .or .u64 x (r * 4294967296) = r * 4294967296 + x := by
  rw [or_comm64 _ _ h3 (by omega) (by omega) (by omega), or_join r x h1 h2 h3 h4]

end Go.Proofs.Ytcdfckjlmifjiaa
/-
  limbs.Of, join, Mod, divideByLimb.
-/
namespace Go.Proofs.Ytcdfckjlmifjiaa
open Go.RowKit
set_option linter.unusedVariables false
set_option linter.unusedSimpArgs false

theorem words_u32 (m : Int) (h0 : 0 ≤ m) (h1 : m < 18446744073709551616) : U32 [m % 4294967296, m / 4294967296] := u32_append (u32_one (by omega)) (u32_one (by omega))
theorem words_val (m : Int) : val [m % 4294967296, m / 4294967296] = m := by simp only [val]; omega

theorem neg_emod {m x r : Int} (h1 : 1 ≤ m) (h : r = x % m) (hr : r ≠ 0) : (-x) % m = m - r := by
  have e := Int.emod_add_mul_ediv x m
  have b0 := Int.emod_nonneg x (show m ≠ 0 by omega)
  have b1 := Int.emod_lt_of_pos x (show 0 < m by omega)
  rw [← h] at e b0 b1
  have e2 : -x = (m - r) + m * (-(x / m) - 1) := by rw [Int.mul_sub, Int.mul_neg]; omega
  rw [e2, Int.add_mul_emod_self_left]
  exact Int.emod_eq_of_lt (by omega) (by omega)

end Go.Proofs.Ytcdfckjlmifjiaa
/-
  limbs.quotient by a size that is greater or has one limb; limbs.Quo out of a contract of quotient.
-/
namespace Go.Proofs.Ytcdfckjlmifjiaa
open Go.RowKit
set_option linter.unusedVariables false
set_option linter.unusedSimpArgs false

/-- A quotient and what is left, in memory from block B on. -/
structure QR (B : Nat) (w : World) (qa : Option Addr) (qn : Nat) (qs : List Int) (ra : Option Addr) (rn : Nat) (rs : List Int) (x y : Int) (n : Nat) : Prop where
  ql : qs.length = qn
  qrd : Rd w qa .u32 qs
  qu : U32 qs
  qf : From B qa
  rl : rs.length = rn
  rrd : Rd w ra .u32 rs
  ru : U32 rs
  rf : From B ra
  eq : val qs * y + val rs = x
  lt : val rs < y
  qb : qn ≤ n + 1
  rb : rn ≤ n + 1
  row : ∃ g Z, ra = some ⟨g, 0, none⟩ ∧ Row w g 59 .u32 Z ∧ Z.take rn = rs ∧ U32 Z
  qz : Fz w qa
  rz : Fz w ra
theorem QR.below {B : Nat} {w w' : World} {qa : Option Addr} {qn : Nat} {qs : List Int} {ra : Option Addr} {rn : Nat} {rs : List Int} {x y : Int} {n : Nat} (h : QR B w qa qn qs ra rn rs x y n) (hb : Below w.heap.size w w') : QR B w' qa qn qs ra rn rs x y n :=
  ⟨h.ql, h.qrd.below hb, h.qu, h.qf, h.rl, h.rrd.below hb, h.ru, h.rf, h.eq, h.lt, h.qb, h.rb, by obtain ⟨g, Z, h1, h2, h3⟩ := h.row; exact ⟨g, Z, h1, h2.below hb h2.lt, h3⟩, h.qz.below hb, h.rz.below hb⟩

end Go.Proofs.Ytcdfckjlmifjiaa
/-
  Variables of two cells.
-/
namespace Go.Proofs.Ytcdfckjlmifjiaa
open Go.RowKit
set_option linter.unusedVariables false
set_option linter.unusedSimpArgs false

/-- Two boxed arguments and two results' variables, in a world that is a letter. -/
structure Box4 (w W : World) (a0 a1 b0 b1 : Value) : Prop where
  size : w.heap.size + 1 + 1 + 1 + 1 ≤ W.heap.size
  below : Below w.heap.size w W
  ca0 : W.cell? ⟨w.heap.size, 0, none⟩ = some a0
  ca1 : W.cell? ⟨w.heap.size, 1, none⟩ = some a1
  cb0 : W.cell? ⟨w.heap.size + 1, 0, none⟩ = some b0
  cb1 : W.cell? ⟨w.heap.size + 1, 1, none⟩ = some b1
  cr0 : W.cell? ⟨w.heap.size + 1 + 1, 0, none⟩ = some (.bool false)
  cr1 : W.cell? ⟨w.heap.size + 1 + 1, 1, none⟩ = some (.slice none 0 0)
  cs0 : W.cell? ⟨w.heap.size + 1 + 1 + 1, 0, none⟩ = some (.bool false)
  cs1 : W.cell? ⟨w.heap.size + 1 + 1 + 1, 1, none⟩ = some (.slice none 0 0)
  fr0 : W.frozen? ⟨w.heap.size + 1 + 1, 0, none⟩ = false
  fr1 : W.frozen? ⟨w.heap.size + 1 + 1, 1, none⟩ = false
  fs0 : W.frozen? ⟨w.heap.size + 1 + 1 + 1, 0, none⟩ = false
  fs1 : W.frozen? ⟨w.heap.size + 1 + 1 + 1, 1, none⟩ = false
/-- A variable of two cells. -/
structure Bx (w : World) (r : Nat) (a0 a1 : Value) : Prop where
  c0 : w.cell? ⟨r, 0, none⟩ = some a0
  c1 : w.cell? ⟨r, 1, none⟩ = some a1
  f0 : w.frozen? ⟨r, 0, none⟩ = false
  f1 : w.frozen? ⟨r, 1, none⟩ = false
theorem Bx.later {w w' : World} {r : Nat} {a0 a1 : Value} (h : Bx w r a0 a1) (hb : Below w.heap.size w w') : Bx w' r a0 a1 := by
  obtain ⟨a, b, c, d⟩ := resbox hb h.c0 h.c1 h.f0 h.f1
  exact ⟨a, b, c, d⟩
theorem Bx.alloc {w : World} {r : Nat} {a0 a1 : Value} (h : Bx w r a0 a1) (o : Obj) : Bx (w.alloc o) r a0 a1 := h.later ((Below.refl _ _).alloc (Nat.le_refl _) o)
theorem Bx.drewN {w : World} {r : Nat} {a0 a1 : Value} (h : Bx w r a0 a1) (k : Nat) : Bx (w.drewN k) r a0 a1 := ⟨h.c0, h.c1, h.f0, h.f1⟩
theorem Bx.new {w : World} {r : Nat} (a0 a1 : Value) (t : Nat) (hr : r = w.heap.size) : Bx (w.alloc (.cells #[a0, a1] t)) r a0 a1 := by
  subst hr
  refine ⟨?_, ?_, ?_, ?_⟩ <;> simp [go_sem]
theorem boxes4 (w : World) (a0 a1 b0 b1 : Value) (t k : Nat) : Box4 w (((((w.alloc (.cells #[a0, a1] t)).alloc (.cells #[b0, b1] t)).alloc (.cells #[.bool false, .slice none 0 0] t)).alloc (.cells #[.bool false, .slice none 0 0] t)).drewN k) a0 a1 b0 b1 := by
  have h1 := ((((Bx.new (w := w) a0 a1 t rfl).alloc (.cells #[b0, b1] t)).alloc (.cells #[.bool false, .slice none 0 0] t)).alloc (.cells #[.bool false, .slice none 0 0] t)).drewN k
  have h2 := (((Bx.new (w := w.alloc (.cells #[a0, a1] t)) b0 b1 t (r := w.heap.size + 1) (World.size_alloc ..).symm).alloc (.cells #[.bool false, .slice none 0 0] t)).alloc (.cells #[.bool false, .slice none 0 0] t)).drewN k
  have h3 := ((Bx.new (w := (w.alloc (.cells #[a0, a1] t)).alloc (.cells #[b0, b1] t)) (.bool false) (.slice none 0 0) t (r := w.heap.size + 1 + 1) (by rw [World.size_alloc, World.size_alloc])).alloc (.cells #[.bool false, .slice none 0 0] t)).drewN k
  have h4 := (Bx.new (w := ((w.alloc (.cells #[a0, a1] t)).alloc (.cells #[b0, b1] t)).alloc (.cells #[.bool false, .slice none 0 0] t)) (.bool false) (.slice none 0 0) t (r := w.heap.size + 1 + 1 + 1) (by rw [World.size_alloc, World.size_alloc, World.size_alloc])).drewN k
  exact ⟨by simp, below_drewN (((((Below.refl _ _).alloc (Nat.le_refl _) _).alloc (by simp) _).alloc (by simp; omega) _).alloc (by simp; omega) _) k, h1.c0, h1.c1, h2.c0, h2.c1, h3.c0, h3.c1, h4.c0, h4.c1, h3.f0, h3.f1, h4.f0, h4.f1⟩
theorem Box4.later {w W W' : World} {a0 a1 b0 b1 : Value} (h : Box4 w W a0 a1 b0 b1) (hb : Below W.heap.size W W') : Box4 w W' a0 a1 b0 b1 := by
  obtain ⟨c0, c1, f0, f1⟩ := resbox hb h.cr0 h.cr1 h.fr0 h.fr1
  obtain ⟨d0, d1, g0, g1⟩ := resbox hb h.cs0 h.cs1 h.fs0 h.fs1
  exact ⟨Nat.le_trans h.size hb.size, h.below.trans (hb.mono (by have := h.size; omega)), cell_later hb h.ca0, cell_later hb h.ca1, cell_later hb h.cb0, cell_later hb h.cb1, c0, c1, d0, d1, f0, f1, g0, g1⟩

end Go.Proofs.Ytcdfckjlmifjiaa
