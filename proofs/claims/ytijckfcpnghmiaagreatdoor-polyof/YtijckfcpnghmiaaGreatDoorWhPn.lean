/-
  limbs.Sign, Cmp.
-/
import Derived.Test.YtijckfcpnghmiaaGreatDoorNi
import Derived.Test.YtijckfcpnghmiaaGreatDoorMm
namespace Go.Proofs.YtijckfcpnghmiaaGreatDoor
open Go.RowKit
set_option linter.unusedVariables false
set_option linter.unusedSimpArgs false

/-- The sign of an integer. -/
def isgn (z : Int) : Int := if z = 0 then 0 else if z < 0 then -1 else 1

theorem isgn_ival_zero {s : Bool} {xs : List Int} (hU : U32 xs) (h : tlen xs = 0) : isgn (ival s xs) = 0 := by
  have := (tlen_zero_iff hU).1 h
  cases s <;> simp [ival, isgn, this]
theorem isgn_ival {s : Bool} {xs : List Int} (hU : U32 xs) (h : tlen xs ≠ 0) : isgn (ival s xs) = if s then -1 else 1 := by
  have h1 : val xs ≠ 0 := fun e => h ((tlen_zero_iff hU).2 e)
  have h2 := val_nonneg hU
  cases s
  · simp only [ival, isgn, Bool.false_eq_true, if_false]; rw [if_neg h1, if_neg (by omega)]
  · simp only [ival, isgn, if_true]; rw [if_neg (by omega), if_pos (by omega)]

set_option maxHeartbeats 400000 in
/-- limbs.Sign. -/
theorem Sign_any (s : Bool) (p : Option Addr) (n nc : Nat) (xs : List Int) (w : World) (hA : AI w p n nc xs) :
    Calls Tryz.prog 29 #[.agg #[.bool s, .slice p n nc]] w fun e w' => e = .returned (.int .i64 (isgn (ival s xs))) ∧ Below w.heap.size w w' := by
  have tx := tlen_le xs
  by_cases h0 : tlen xs = 0
  · rw [isgn_ival_zero hA.u h0]
    go_enter Tryz.func29, Tryz.ntmps29
    go_wp2_with (go_at_call 67; refine (trim_any p n nc xs _ hA.len hA.cap hA.bnd (hA.rd.alloc _)).mono ?_; rintro e w' ⟨rfl, rfl⟩)
    go_ret
    exact ⟨rfl, (Below.refl _ _).alloc (Nat.le_refl _) _⟩
  · rw [isgn_ival hA.u h0]
    have h1 : (((tlen xs : Nat) : Int) == 0) = false := beq_eq_false_iff_ne.2 (by omega)
    cases s
    all_goals
      go_enter Tryz.func29, Tryz.ntmps29
      go_wp2_with (go_at_call 67; refine (trim_any p n nc xs _ hA.len hA.cap hA.bnd (hA.rd.alloc _)).mono ?_; rintro e w' ⟨rfl, rfl⟩)
      go_ret
      exact ⟨rfl, (Below.refl _ _).alloc (Nat.le_refl _) _⟩

theorem isgn_cases (z : Int) : (z = 0 ∧ isgn z = 0) ∨ (z < 0 ∧ isgn z = -1) ∨ (0 < z ∧ isgn z = 1) := by
  rcases Int.lt_trichotomy z 0 with h | h | h
  · exact .inr (.inl ⟨h, by rw [isgn, if_neg (by omega), if_pos h]⟩)
  · exact .inl ⟨h, by rw [isgn, if_pos h]⟩
  · exact .inr (.inr ⟨h, by rw [isgn, if_neg (by omega), if_neg (by omega)]⟩)
theorem icmp_isgn {a b : Int} (h : isgn a ≠ isgn b) : icmp (isgn a) (isgn b) = icmp a b := by
  rcases isgn_cases a with ⟨h1, h2⟩ | ⟨h1, h2⟩ | ⟨h1, h2⟩ <;> rcases isgn_cases b with ⟨h3, h4⟩ | ⟨h3, h4⟩ | ⟨h3, h4⟩ <;> rw [h2, h4] at h ⊢ <;>
    first
      | exact absurd rfl h
      | (rw [icmp_lt (by omega), icmp_lt (by omega)])
      | (rw [icmp_gt (by omega), icmp_gt (by omega)])
theorem icmp_same {s t : Bool} {xs ys : List Int} (hX : U32 xs) (hY : U32 ys) (h : isgn (ival s xs) = isgn (ival t ys)) : isgn (ival s xs) * icmp (val xs) (val ys) = icmp (ival s xs) (ival t ys) := by
  have h1 := val_nonneg hX
  have h2 := val_nonneg hY
  rcases isgn_cases (ival s xs) with ⟨a1, a2⟩ | ⟨a1, a2⟩ | ⟨a1, a2⟩ <;> rcases isgn_cases (ival t ys) with ⟨b1, b2⟩ | ⟨b1, b2⟩ | ⟨b1, b2⟩ <;> rw [a2, b2] at h <;> (try (exact absurd h (by decide))) <;> rw [a2]
  · rw [a1, b1, icmp_eq, Int.zero_mul]
  · have e1 : s = true := by cases s <;> simp_all [ival] <;> omega
    have e2 : t = true := by cases t <;> simp_all [ival] <;> omega
    subst e1 e2
    simp only [ival, if_true]
    rcases Int.lt_trichotomy (val xs) (val ys) with g | g | g
    · rw [icmp_lt g, icmp_gt (by omega)]; rfl
    · rw [g, icmp_eq, icmp_eq]; rfl
    · rw [icmp_gt g, icmp_lt (by omega)]; rfl
  · have e1 : s = false := by cases s <;> simp_all [ival] <;> omega
    have e2 : t = false := by cases t <;> simp_all [ival] <;> omega
    subst e1 e2
    simp only [ival, Bool.false_eq_true, if_false, Int.one_mul]

set_option maxHeartbeats 1000000 in
/-- limbs.Cmp. -/
theorem Cmp_any (s t : Bool) (p q : Option Addr) (n nc m mc : Nat) (xs ys : List Int) (w : World) (hA : AI w p n nc xs) (hB : AI w q m mc ys) :
    Calls Tryz.prog 32 #[.agg #[.bool s, .slice p n nc], .agg #[.bool t, .slice q m mc]] w fun e w' => e = .returned (.int .i64 (icmp (ival s xs) (ival t ys))) ∧ Below w.heap.size w w' := by
  have hd : Hid (isgn (ival s xs) = isgn (ival t ys) ∨ isgn (ival s xs) ≠ isgn (ival t ys)) := Classical.em _
  have q1 : -1 ≤ isgn (ival s xs) ∧ isgn (ival s xs) ≤ 1 := by rcases isgn_cases (ival s xs) with h | h | h <;> omega
  have q2 : -1 ≤ icmp (val xs) (val ys) ∧ icmp (val xs) (val ys) ≤ 1 := by unfold icmp; split <;> (try split) <;> decide
  obtain ⟨q1, q1'⟩ := q1
  obtain ⟨q2, q2'⟩ := q2
  go_enter Tryz.func32, Tryz.ntmps32
  go_wp2_with fail
  have hX0 := boxes2 w (.bool s) (.slice p n nc) (.bool t) (.slice q m mc) 43 43
  generalize ((w.alloc (Obj.cells #[Value.bool s, Value.slice p n nc] 43)).alloc (Obj.cells #[Value.bool t, Value.slice q m mc] 43)) = W0 at *
  refine (Sign_any s p n nc xs _ (hA.below hX0.below)).mono ?_
  rintro e W1 ⟨rfl, hb0⟩
  have hX1 := hX0.later hb0
  clear hX0 hb0 W0
  have k0 := hX1.ca0
  have k1 := hX1.ca1
  have k2 := hX1.cb0
  have k3 := hX1.cb1
  go_wp2_with fail
  refine (Sign_any t q m mc ys _ (hB.below hX1.below)).mono ?_
  rintro e W ⟨rfl, hb0⟩
  have hX := hX1.later hb0
  clear hX1 hb0 k0 k1 k2 k3 W1
  have k0 := hX.ca0
  have k1 := hX.ca1
  have k2 := hX.cb0
  have k3 := hX.cb1
  rcases hd.out with h | h
  · have hne : (isgn (ival s xs) != isgn (ival t ys)) = false := by rw [h]; simp
    have H : Hid (isgn (ival s xs) = isgn (ival t ys)) := h
    clear h hd
    go_wp2_with fail
    have hA' := hA.below hX.below
    have hB' := hB.below hX.below
    refine (compare_any p q n nc m mc xs ys _ hA.len hB.len hA.cap hA.bnd hB.cap hB.bnd hA'.rd hA.u hB'.rd hB.u).mono ?_
    rintro e w1 ⟨rfl, hb1⟩
    have hw : wrap64 (isgn (ival s xs) * icmp (val xs) (val ys)) = icmp (ival s xs) (ival t ys) := by
      rw [icmp_same hA.u hB.u H.out]
      unfold icmp; split <;> (try split) <;> simp [wrap64, IntKind.wrap, IntKind.bits, IntKind.signed]
    go_wp2
    go_ret
    refine ⟨?_, hX.below.trans (hb1.mono hX.below.size)⟩
    first
      | exact ret_int hw
      | exact ret_int (icmp_same hA.u hB.u H.out)
      | rfl
  · have hne : (isgn (ival s xs) != isgn (ival t ys)) = true := by rw [bne_iff_ne]; exact h
    clear hd
    go_wp2_with fail
    refine (compareInt_any _ _ _).mono ?_
    rintro e w1 ⟨rfl, rfl⟩
    go_wp2
    go_ret
    exact ⟨ret_int (icmp_isgn h), hX.below⟩
end Go.Proofs.YtijckfcpnghmiaaGreatDoor
/-
  Plain facts, further: a part of a row that is written entry by entry.
-/
namespace Go.Proofs.YtijckfcpnghmiaaGreatDoor
open Go.RowKit
set_option linter.unusedVariables false
set_option linter.unusedSimpArgs false

/-- The row with R in the place of the n entries from o on. -/
def mid (Z : List Int) (o : Nat) (R : List Int) : List Int := Z.take o ++ R ++ Z.drop (o + R.length)
theorem mid_length (Z R : List Int) (o : Nat) (h : o + R.length ≤ Z.length) : (mid Z o R).length = Z.length := row_length Z R o h
theorem mid_gx (Z R : List Int) (o j : Nat) (h : o + R.length ≤ Z.length) (hj : j < R.length) : gx (mid Z o R) (o + j) = gx R j := row_gx_new Z R o j _ (by omega) hj
theorem mid_set (Z R : List Int) (o j : Nat) (v : Int) (h : o + R.length ≤ Z.length) (hj : j < R.length) : (mid Z o R).set (o + j) v = mid Z o (R.set j v) := by
  have hl : (Z.take o).length = o := by simp; omega
  unfold mid
  rw [List.append_assoc, List.set_append_right _ _ (by omega), hl, Nat.add_sub_cancel_left, List.set_append_left _ _ hj, List.append_assoc, List.length_set]
theorem mid_self (Z : List Int) (o n : Nat) (h : o + n ≤ Z.length) : mid Z o ((Z.drop o).take n) = Z := by
  unfold mid
  rw [part_length Z o n h, List.append_assoc]
  have : (Z.drop o).take n ++ Z.drop (o + n) = Z.drop o := by
    rw [← List.drop_drop]; exact List.take_append_drop n (Z.drop o)
  rw [this, List.take_append_drop]
theorem mid_zero (Z R : List Int) (h : R.length = Z.length) : mid Z 0 R = R := by simp [mid, h]
theorem val_set (R : List Int) (j : Nat) (v : Int) (h : j < R.length) : val (R.set j v) = val R + pw j * (v - gx R j) := by
  have e1 := val_at R j h
  have e2 := val_at (R.set j v) j (by simpa using h)
  rw [List.take_set_of_le (Nat.le_refl _), List.drop_set_of_lt (by omega), gx_set_eq R j v h] at e2
  rw [e2, e1, Int.mul_sub]
  omega
theorem u32_set {R : List Int} (h : U32 R) (j : Nat) {v : Int} (hv : 0 ≤ v ∧ v < 4294967296) : U32 (R.set j v) := fun k => by
  by_cases hk : j = k
  · subst hk
    by_cases hl : j < R.length
    · rw [gx_set_eq R j v hl]; exact hv
    · rw [gx_past _ _ (Nat.le_refl _) j (by simp; omega)]; decide
  · rw [gx_set_ne R j k v hk]; exact h k
theorem Row.mid_cell {w : World} {g : Nat} {e : TypeId} {k : IntKind} {Z R : List Int} {o : Nat} (hr : Row w g e k (mid Z o R)) (h : o + R.length ≤ Z.length) (j : Nat) (hj : j < R.length) : w.cell? ⟨g, o + j, none⟩ = some (.int k (gx R j)) := by
  have := hr.cell (o + j) (by rw [mid_length Z R o h]; omega)
  rwa [mid_gx Z R o j h hj] at this
theorem Row.mid_set {w : World} {g : Nat} {e : TypeId} {k : IntKind} {Z R : List Int} {o : Nat} (hr : Row w g e k (mid Z o R)) (h : o + R.length ≤ Z.length) (j : Nat) (hj : j < R.length) (v : Int) : Row (w.setCell ⟨g, o + j, none⟩ (.int k v)) g e k (mid Z o (R.set j v)) := by
  have := hr.set (o + j) v
  rwa [Proofs.YtijckfcpnghmiaaGreatDoor.mid_set Z R o j v h hj] at this
/-- A limb times a limb, a limb and a carry: it fits into two limbs. -/
theorem mul_bd {v x : Int} (h1 : 0 ≤ v ∧ v < 4294967296) (h2 : 0 ≤ x ∧ x < 4294967296) : 0 ≤ v * x ∧ v * x ≤ 18446744065119617025 := by
  refine ⟨Int.mul_nonneg h1.1 h2.1, ?_⟩
  have a1 : v * x ≤ v * 4294967295 := Int.mul_le_mul_of_nonneg_left (by omega) h1.1
  omega
/-- Two limbs joined by bits are their number. -/
theorem or_join (r x : Int) (h1 : 0 ≤ r) (h2 : r < 4294967296) (h3 : 0 ≤ x) (h4 : x < 4294967296) : bits .or .u64 (r * 4294967296) x = r * 4294967296 + x :=
  bits_join .u64 64 (by decide) (fun n a b => by rw [IntKind.wrap_u64]; omega) 32 (r * 4294967296) x (by omega) (by omega) (by omega) h3 (by omega) (by omega)

theorem drop_cons (l : List Int) (j : Nat) (h : j < l.length) : l.drop j = gx l j :: l.drop (j + 1) := by rw [gx_mem l j h]; exact List.drop_eq_getElem_cons h
theorem drop_set_after (l : List Int) (n j : Nat) (v : Int) (hj : j < n) (h : n ≤ l.length) : ((l.set j v).take n).drop j = v :: (l.take n).drop (j + 1) := by
  rw [drop_cons _ j (by simp; omega), gx_take _ _ _ hj, gx_set_eq l j v (by omega)]
  congr 1
  rw [List.take_set, List.drop_set_of_lt (by omega)]
theorem quo_bd {r x d : Int} (h1 : 0 ≤ r) (h2 : r < d) (h3 : 0 ≤ x) (h4 : x < 4294967296) : 0 ≤ (r * 4294967296 + x) / d ∧ (r * 4294967296 + x) / d < 4294967296 := by
  refine ⟨Int.ediv_nonneg (by omega) (by omega), ?_⟩
  apply Int.ediv_lt_of_lt_mul (by omega)
  omega

theorem or_comm64 (a b : Int) (h1 : 0 ≤ a) (h2 : a < 18446744073709551616) (h3 : 0 ≤ b) (h4 : b < 18446744073709551616) : bits .or .u64 a b = bits .or .u64 b a := by
  obtain ⟨x, rfl⟩ := Int.eq_ofNat_of_zero_le h1
  obtain ⟨y, rfl⟩ := Int.eq_ofNat_of_zero_le h3
  have hk : ∀ n : Int, 0 ≤ n → n < 2 ^ 64 → IntKind.u64.wrap n = n := fun n a b => by rw [IntKind.wrap_u64]; omega
  rw [(bits_nat .u64 64 (by decide) hk x y (by omega) (by omega)).2, (bits_nat .u64 64 (by decide) hk y x (by omega) (by omega)).2, Nat.or_comm]
theorem or_join' (r x : Int) (h1 : 0 ≤ r) (h2 : r < 4294967296) (h3 : 0 ≤ x) (h4 : x < 4294967296) : bits .or .u64 x (r * 4294967296) = r * 4294967296 + x := by
  rw [or_comm64 _ _ h3 (by omega) (by omega) (by omega), or_join r x h1 h2 h3 h4]

end Go.Proofs.YtijckfcpnghmiaaGreatDoor
