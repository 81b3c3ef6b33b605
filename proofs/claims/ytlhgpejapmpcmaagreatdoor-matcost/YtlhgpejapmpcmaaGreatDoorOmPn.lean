/-
  What an argument of type [][]api.Poly is, read as data.
-/
import Derived.Test.YtlhgpejapmpcmaaGreatDoorOfVg
import Derived.Test.YtlhgpejapmpcmaaGreatDoorOn
import Derived.Deep.Slices
import Derived.Test.YtlhgpejapmpcmaaGreatDoorMm
namespace Go.Proofs.YtlhgpejapmpcmaaGreatDoor
open Go.ChangeShapes Go.WideShapes Go.ChangeAt Go.RowKit Go.Joins
set_option linter.unusedVariables false
set_option linter.unusedSimpArgs false

/-- A row of polynomials as it may be handed in. -/
structure RZ (w : World) (p : Option Addr) (n nc : Nat) (hs : List Hdr) : Prop where
  el : hs.length = n
  cap : n ≤ nc
  bnd : nc ≤ maxLen
  pn : p = none → nc = 0
  hl : HL w p hs
  ev : ∀ j, j < n → ∃ es, PZ w (gh hs j).p (gh hs j).n (gh hs j).c es
theorem RZ.below {w w' : World} {p : Option Addr} {n nc : Nat} {hs : List Hdr} (h : RZ w p n nc hs) (hb : Below w.heap.size w w') : RZ w' p n nc hs :=
  ⟨h.el, h.cap, h.bnd, h.pn, h.hl.below hb, fun j hj => let ⟨es, he⟩ := h.ev j hj; ⟨es, he.below hb⟩⟩
/-- A matrix as it may be handed in. -/
structure MZ (w : World) (p : Option Addr) (n nc : Nat) (hs : List Hdr) : Prop where
  el : hs.length = n
  cap : n ≤ nc
  bnd : nc ≤ maxLen
  pn : p = none → nc = 0
  hl : HL w p hs
  ev : ∀ j, j < n → ∃ rs, RZ w (gh hs j).p (gh hs j).n (gh hs j).c rs
theorem MZ.below {w w' : World} {p : Option Addr} {n nc : Nat} {hs : List Hdr} (h : MZ w p n nc hs) (hb : Below w.heap.size w w') : MZ w' p n nc hs :=
  ⟨h.el, h.cap, h.bnd, h.pn, h.hl.below hb, fun j hj => let ⟨rs, hr⟩ := h.ev j hj; ⟨rs, hr.below hb⟩⟩
set_option maxRecDepth 100000 in
theorem polyT {H : Type} {enc : TypeId × Value → H} {W : World} {fuel : Nat} {v : Value} {x : DataW H × List MemPlace} (hf : DataW.trod enc Tryz.prog W 0 (fun _ => true) true fuel 37 [v] = some x) :
    v = (hdrOf v).val ∧ ∃ es, PZ W (hdrOf v).p (hdrOf v).n (hdrOf v).c es := by
  rcases Go.Deep.open_slice_pairs Tryz.underlying37 Tryz.underlying58 cellsI2 rfl rfl cellsB cellsUs hf with ⟨hcs, -⟩ | ⟨a, len, cap, m, k, V0, V1, D0, D1, P0, P1, hcs, -, hl, hm, hmm, -, hcell⟩
  · simp only [List.cons.injEq, and_true] at hcs
    subst hcs
    exact ⟨rfl, [], rfl, Nat.le_refl _, Nat.zero_le _, fun _ => rfl, PL.nil, fun j hj => absurd hj (Nat.not_lt_zero j)⟩
  · simp only [List.cons.injEq, and_true] at hcs
    subst hcs
    simp only [if_true] at hmm
    have hr : ∀ i, i < len → V0 i = .bool (entOf (V0 i) (V1 i)).s ∧ V1 i = .slice (entOf (V0 i) (V1 i)).p (entOf (V0 i) (V1 i)).n (entOf (V0 i) (V1 i)).c ∧ RawE W (entOf (V0 i) (V1 i)) := fun i hi => by
      obtain ⟨-, -, g0, g1⟩ := hcell i (by omega)
      exact rawCells g0 g1
    have hge : ∀ i, i < len → ge ((List.range len).map fun i => entOf (V0 i) (V1 i)) i = entOf (V0 i) (V1 i) := fun i hi => by simp [ge, hi]
    refine ⟨rfl, (List.range len).map fun i => entOf (V0 i) (V1 i), by show _ = len; simp, hl, hm, nofun, ?_, fun j (hj : j < len) => by rw [hge j hj]; exact (hr j hj).2.2⟩
    intro hp
    have hp' : 0 < len := by simpa using hp
    obtain ⟨b, off, spot⟩ := a
    have hspot : spot = none := by simpa [Addr.add] using World.cell?_spot (hcell 0 (by omega)).1
    subst hspot
    refine ⟨b, off, rfl, fun j hj => ?_⟩
    have hj' : j < len := by simpa using hj
    obtain ⟨c0, c1, -, -⟩ := hcell j (by omega)
    obtain ⟨e0, e1, -⟩ := hr j hj'
    rw [hge j hj', ← e0, ← e1]
    rw [add_plain] at c0 c1
    exact ⟨c0, c1⟩
theorem cellsP : Tryz.prog.cellsOf 37 = 1 := by kernel_rfl
theorem cellsPs : Tryz.prog.cellsOf 35 = 1 := by kernel_rfl
/-- A slice whose elements are slices. -/
theorem sliceT {H : Type} {enc : TypeId × Value → H} {W : World} {fuel : Nat} {t e : TypeId} {v : Value} {x : DataW H × List MemPlace} (ht : Tryz.prog.underlying t = some (.slice e)) (hc : Tryz.prog.cellsOf e = 1) (hf : DataW.trod enc Tryz.prog W 0 (fun _ => true) true fuel t [v] = some x)
    {E : Hdr → Prop} (hE : ∀ (fuel : Nat) (u : Value) (y : DataW H × List MemPlace), DataW.trod enc Tryz.prog W 0 (fun _ => true) true fuel e [u] = some y → u = (hdrOf u).val ∧ E (hdrOf u)) :
    v = (hdrOf v).val ∧ (hdrOf v).n ≤ (hdrOf v).c ∧ (hdrOf v).c ≤ maxLen ∧ ((hdrOf v).p = none → (hdrOf v).c = 0) ∧ ∃ hs : List Hdr, hs.length = (hdrOf v).n ∧ HL W (hdrOf v).p hs ∧ ∀ j, j < (hdrOf v).n → E (gh hs j) := by
  rcases Go.Deep.open_slice1 ht hc hf with ⟨hcs, -⟩ | ⟨a, len, cap, m, n, V, D, Pl, hcs, -, hl, hm, hmm, -, hcell⟩
  · simp only [List.cons.injEq, and_true] at hcs
    subst hcs
    exact ⟨rfl, Nat.le_refl _, Nat.zero_le _, fun _ => rfl, [], rfl, fun h => absurd h (Nat.not_lt_zero 0), fun j hj => absurd hj (Nat.not_lt_zero j)⟩
  · simp only [List.cons.injEq, and_true] at hcs
    subst hcs
    simp only [if_true] at hmm
    have hg : ∀ i, i < len → gh ((List.range len).map fun i => hdrOf (V i)) i = hdrOf (V i) := fun i hi => by simp [gh, hi]
    refine ⟨rfl, hl, hm, nofun, (List.range len).map fun i => hdrOf (V i), by show _ = len; simp, fun hp => ?_, fun j (hj : j < len) => by rw [hg j hj]; exact (hE _ _ _ (hcell j (by omega)).2).2⟩
    have hp' : 0 < len := by simpa using hp
    obtain ⟨b, off, spot⟩ := a
    have hspot : spot = none := by simpa [Addr.add] using World.cell?_spot (hcell 0 (by omega)).1
    subst hspot
    refine ⟨b, off, rfl, fun j hj => ?_⟩
    have hj' : j < len := by simpa using hj
    obtain ⟨c0, g0⟩ := hcell j (by omega)
    rw [hg j hj', ← (hE _ _ _ g0).1]
    rw [add_plain] at c0
    exact c0
set_option maxRecDepth 100000 in
theorem rowT {H : Type} {enc : TypeId × Value → H} {W : World} {fuel : Nat} {v : Value} {x : DataW H × List MemPlace} (hf : DataW.trod enc Tryz.prog W 0 (fun _ => true) true fuel 35 [v] = some x) :
    v = (hdrOf v).val ∧ ∃ hs, RZ W (hdrOf v).p (hdrOf v).n (hdrOf v).c hs := by
  obtain ⟨h1, h2, h3, h4, hs, h5, h6, h7⟩ := sliceT (E := fun h => ∃ es, PZ W h.p h.n h.c es) Tryz.underlying35 cellsP hf (fun fuel u y hu => polyT hu)
  exact ⟨h1, hs, h5, h2, h3, h4, h6, h7⟩
set_option maxRecDepth 100000 in
theorem openMat {H : Type} {enc : TypeId × Value → H} {W : World} {v0 : Value} {d0 : DataW H} {p0 : List MemPlace} {base : Nat} (hv : Value.okWide Tryz.prog W .any base 22 v0)
    (h0 : DataW.Trod enc Tryz.prog W 0 (fun _ => true) true 22 v0 d0 p0) : ∃ (p : Option Addr) (n nc : Nat) (hs : List Hdr), v0 = .slice p n nc ∧ MZ W p n nc hs := by
  obtain ⟨a0, len, cap, rfl⟩ := okWide_slice Tryz.underlying22 hv
  obtain ⟨fuel, hf⟩ := h0
  obtain ⟨h1, h2, h3, h4, hs, h5, h6, h7⟩ := sliceT (E := fun h => ∃ rs, RZ W h.p h.n h.c rs) Tryz.underlying22 cellsPs hf (fun fuel u y hu => rowT hu)
  exact ⟨a0, len, cap, hs, rfl, h5, h2, h3, h4, h6, h7⟩
end Go.Proofs.YtlhgpejapmpcmaaGreatDoor
/-
  Plain facts, further: a part of a row that is written entry by entry.
-/
namespace Go.Proofs.YtlhgpejapmpcmaaGreatDoor
open Go.RowKit
set_option linter.unusedVariables false
set_option linter.unusedSimpArgs false

/-- The row with R in the place of the n entries from o on. -/
def mid (Z : List Int) (o : Nat) (R : List Int) : List Int := Z.take o ++ R ++ Z.drop (o + R.length)
theorem mid_length (Z R : List Int) (o : Nat) (h : o + R.length ≤ Z.length) : (mid Z o R).length = Z.length := row_length Z R o h
theorem mid_gx (Z R : List Int) (o j : Nat) (h : o + R.length ≤ Z.length) (hj : j < R.length) : gx (mid Z o R) (o + j) = gx R j := row_gx_new Z R o j _ (by omega) hj
theorem mid_set (Z R : List Int) (o j : Nat) (v : Int) (h : o + R.length ≤ Z.length) (hj : j < R.length) : (mid Z o R).set (o + j) v = mid Z o (R.set j v) := by
  have hl : (Z.take o).length = o := by simp; omega
  unfold mid
  rw [List.append_assoc, List.set_append_right _ _ (by omega), hl, Nat.add_sub_cancel_left, List.set_append_left _ _ hj, List.append_assoc, List.length_set]
theorem mid_self (Z : List Int) (o n : Nat) (h : o + n ≤ Z.length) : mid Z o ((Z.drop o).take n) = Z := by
  unfold mid
  rw [part_length Z o n h, List.append_assoc]
  have : (Z.drop o).take n ++ Z.drop (o + n) = Z.drop o := by
    rw [← List.drop_drop]; exact List.take_append_drop n (Z.drop o)
  rw [this, List.take_append_drop]
theorem mid_zero (Z R : List Int) (h : R.length = Z.length) : mid Z 0 R = R := by simp [mid, h]
theorem val_set (R : List Int) (j : Nat) (v : Int) (h : j < R.length) : val (R.set j v) = val R + pw j * (v - gx R j) := by
  have e1 := val_at R j h
  have e2 := val_at (R.set j v) j (by simpa using h)
  rw [List.take_set_of_le (Nat.le_refl _), List.drop_set_of_lt (by omega), gx_set_eq R j v h] at e2
  rw [e2, e1, Int.mul_sub]
  omega
theorem u32_set {R : List Int} (h : U32 R) (j : Nat) {v : Int} (hv : 0 ≤ v ∧ v < 4294967296) : U32 (R.set j v) := fun k => by
  by_cases hk : j = k
  · subst hk
    by_cases hl : j < R.length
    · rw [gx_set_eq R j v hl]; exact hv
    · rw [gx_past _ _ (Nat.le_refl _) j (by simp; omega)]; decide
  · rw [gx_set_ne R j k v hk]; exact h k
theorem Row.mid_cell {w : World} {g : Nat} {e : TypeId} {k : IntKind} {Z R : List Int} {o : Nat} (hr : Row w g e k (mid Z o R)) (h : o + R.length ≤ Z.length) (j : Nat) (hj : j < R.length) : w.cell? ⟨g, o + j, none⟩ = some (.int k (gx R j)) := by
  have := hr.cell (o + j) (by rw [mid_length Z R o h]; omega)
  rwa [mid_gx Z R o j h hj] at this
theorem Row.mid_set {w : World} {g : Nat} {e : TypeId} {k : IntKind} {Z R : List Int} {o : Nat} (hr : Row w g e k (mid Z o R)) (h : o + R.length ≤ Z.length) (j : Nat) (hj : j < R.length) (v : Int) : Row (w.setCell ⟨g, o + j, none⟩ (.int k v)) g e k (mid Z o (R.set j v)) := by
  have := hr.set (o + j) v
  rwa [Proofs.YtlhgpejapmpcmaaGreatDoor.mid_set Z R o j v h hj] at this
/-- A limb times a limb, a limb and a carry: it fits into two limbs. -/
theorem mul_bd {v x : Int} (h1 : 0 ≤ v ∧ v < 4294967296) (h2 : 0 ≤ x ∧ x < 4294967296) : 0 ≤ v * x ∧ v * x ≤ 18446744065119617025 := by
  refine ⟨Int.mul_nonneg h1.1 h2.1, ?_⟩
  have a1 : v * x ≤ v * 4294967295 := Int.mul_le_mul_of_nonneg_left (by omega) h1.1
  omega
/-- Two limbs joined by bits are their number. -/
theorem or_join (r x : Int) (h1 : 0 ≤ r) (h2 : r < 4294967296) (h3 : 0 ≤ x) (h4 : x < 4294967296) : bits .or .u64 (r * 4294967296) x = r * 4294967296 + x :=
  bits_join .u64 64 (by decide) (fun n a b => by rw [IntKind.wrap_u64]; omega) 32 (r * 4294967296) x (by omega) (by omega) (by omega) h3 (by omega) (by omega)

theorem drop_cons (l : List Int) (j : Nat) (h : j < l.length) : l.drop j = gx l j :: l.drop (j + 1) := by rw [gx_mem l j h]; exact List.drop_eq_getElem_cons h
theorem drop_set_after (l : List Int) (n j : Nat) (v : Int) (hj : j < n) (h : n ≤ l.length) : ((l.set j v).take n).drop j = v :: (l.take n).drop (j + 1) := by
  rw [drop_cons _ j (by simp; omega), gx_take _ _ _ hj, gx_set_eq l j v (by omega)]
  congr 1
  rw [List.take_set, List.drop_set_of_lt (by omega)]
theorem quo_bd {r x d : Int} (h1 : 0 ≤ r) (h2 : r < d) (h3 : 0 ≤ x) (h4 : x < 4294967296) : 0 ≤ (r * 4294967296 + x) / d ∧ (r * 4294967296 + x) / d < 4294967296 := by
  refine ⟨Int.ediv_nonneg (by omega) (by omega), ?_⟩
  apply Int.ediv_lt_of_lt_mul (by omega)
  omega

theorem or_comm64 (a b : Int) (h1 : 0 ≤ a) (h2 : a < 18446744073709551616) (h3 : 0 ≤ b) (h4 : b < 18446744073709551616) : bits .or .u64 a b = bits .or .u64 b a := by
  obtain ⟨x, rfl⟩ := Int.eq_ofNat_of_zero_le h1
  obtain ⟨y, rfl⟩ := Int.eq_ofNat_of_zero_le h3
  have hk : ∀ n : Int, 0 ≤ n → n < 2 ^ 64 → IntKind.u64.wrap n = n := fun n a b => by rw [IntKind.wrap_u64]; omega
  rw [(bits_nat .u64 64 (by decide) hk x y (by omega) (by omega)).2, (bits_nat .u64 64 (by decide) hk y x (by omega) (by omega)).2, Nat.or_comm]
theorem or_join' (r x : Int) (h1 : 0 ≤ r) (h2 : r < 4294967296) (h3 : 0 ≤ x) (h4 : x < 4294967296) : bits .or .u64 x (r * 4294967296) = r * 4294967296 + x := by
  rw [or_comm64 _ _ h3 (by omega) (by omega) (by omega), or_join r x h1 h2 h3 h4]

end Go.Proofs.YtlhgpejapmpcmaaGreatDoor
