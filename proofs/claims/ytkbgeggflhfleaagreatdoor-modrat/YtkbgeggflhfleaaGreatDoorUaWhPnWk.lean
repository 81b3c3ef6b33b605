/-
  Lists of numbers in memory: slices whose elements have two cells.
-/
import Derived.Test.YtkbgeggflhfleaaGreatDoorWeNi
import Derived.Test.YtkbgeggflhfleaaGreatDoorMmWa
namespace Go.Proofs.YtkbgeggflhfleaaGreatDoor
open Go.RowKit
set_option linter.unusedVariables false
set_option linter.unusedSimpArgs false
set_option maxHeartbeats 8000000
structure Ent where
  s : Bool
  p : Option Addr
  n : Nat
  c : Nat
section
variable {w w' : World} {g : Nat} {t : TypeId} {es : List Ent} {p : Option Addr}
end
def EV (w : World) (K : Nat) (z : Int) (e : Ent) : Prop := ∃ xs, AI w e.p e.n e.c xs ∧ ival e.s xs = z ∧ e.n ≤ K
section
variable {w w' : World} {K : Nat} {z : Int} {e : Ent} {p : Option Addr} {n nc : Nat} {es : List Ent} {zs : List Int}
theorem EV.below (h : EV w K z e) (hb : Below w.heap.size w w') : EV w' K z e := by
  obtain ⟨xs, h1, h2⟩ := h
  exact ⟨xs, h1.below hb, h2⟩
end
def isgn (z : Int) : Int := if z = 0 then 0 else if z < 0 then -1 else 1
theorem isgn_ival_zero {s : Bool} {xs : List Int} (hU : U32 xs) (h : tlen xs = 0) : isgn (ival s xs) = 0 := by
  have := (tlen_zero_iff hU).1 h
  cases s <;> simp [ival, isgn, this]
theorem isgn_ival {s : Bool} {xs : List Int} (hU : U32 xs) (h : tlen xs ≠ 0) : isgn (ival s xs) = if s then -1 else 1 := by
  have h1 : val xs ≠ 0 := fun e => h ((tlen_zero_iff hU).2 e)
  have h2 := val_nonneg hU
  cases s
  · simp only [ival, isgn, Bool.false_eq_true, if_false]; rw [if_neg h1, if_neg (by omega)]
  · simp only [ival, isgn, if_true]; rw [if_neg (by omega), if_pos (by omega)]
theorem Sign_any (s : Bool) (p : Option Addr) (n nc : Nat) (xs : List Int) (w : World) (hA : AI w p n nc xs) :
    Calls Tryz.prog 118 #[.agg #[.bool s, .slice p n nc]] w fun e w' => e = .returned (.int .i64 (isgn (ival s xs))) ∧ Below w.heap.size w w' := by
  have tx := tlen_le xs
  by_cases h0 : tlen xs = 0
  · rw [isgn_ival_zero hA.u h0]
    go_enter Tryz.func118, Tryz.ntmps118
    go_wp2_with (go_at_call 116; refine (trim_any p n nc xs _ hA.len hA.cap hA.bnd (hA.rd.alloc _)).mono ?_; rintro e w' ⟨rfl, rfl⟩)
    go_ret
    exact ⟨rfl, (Below.refl _ _).alloc (Nat.le_refl _) _⟩
  · rw [isgn_ival hA.u h0]
    have h1 : (((tlen xs : Nat) : Int) == 0) = false := beq_eq_false_iff_ne.2 (by omega)
    cases s
    all_goals
      go_enter Tryz.func118, Tryz.ntmps118
      go_wp2_with (go_at_call 116; refine (trim_any p n nc xs _ hA.len hA.cap hA.bnd (hA.rd.alloc _)).mono ?_; rintro e w' ⟨rfl, rfl⟩)
      go_ret
      exact ⟨rfl, (Below.refl _ _).alloc (Nat.le_refl _) _⟩
def mid (Z : List Int) (o : Nat) (R : List Int) : List Int := Z.take o ++ R ++ Z.drop (o + R.length)
theorem mid_length (Z R : List Int) (o : Nat) (h : o + R.length ≤ Z.length) : (mid Z o R).length = Z.length := row_length Z R o h
theorem mid_gx (Z R : List Int) (o j : Nat) (h : o + R.length ≤ Z.length) (hj : j < R.length) : gx (mid Z o R) (o + j) = gx R j := row_gx_new Z R o j _ (by omega) hj
theorem mid_set (Z R : List Int) (o j : Nat) (v : Int) (h : o + R.length ≤ Z.length) (hj : j < R.length) : (mid Z o R).set (o + j) v = mid Z o (R.set j v) := by
  have hl : (Z.take o).length = o := by simp; omega
  unfold mid
  rw [List.append_assoc, List.set_append_right _ _ (by omega), hl, Nat.add_sub_cancel_left, List.set_append_left _ _ hj, List.append_assoc, List.length_set]
theorem mid_self (Z : List Int) (o n : Nat) (h : o + n ≤ Z.length) : mid Z o ((Z.drop o).take n) = Z := by
  unfold mid
  rw [part_length Z o n h, List.append_assoc]
  have : (Z.drop o).take n ++ Z.drop (o + n) = Z.drop o := by
    rw [← List.drop_drop]; exact List.take_append_drop n (Z.drop o)
  rw [this, List.take_append_drop]
theorem val_set (R : List Int) (j : Nat) (v : Int) (h : j < R.length) : val (R.set j v) = val R + pw j * (v - gx R j) := by
  have e1 := val_at R j h
  have e2 := val_at (R.set j v) j (by simpa using h)
  rw [List.take_set_of_le (Nat.le_refl _), List.drop_set_of_lt (by omega), gx_set_eq R j v h] at e2
  rw [e2, e1, Int.mul_sub]
  omega
theorem u32_set {R : List Int} (h : U32 R) (j : Nat) {v : Int} (hv : 0 ≤ v ∧ v < 4294967296) : U32 (R.set j v) := fun k => by
  by_cases hk : j = k
  · subst hk
    by_cases hl : j < R.length
    · rw [gx_set_eq R j v hl]; exact hv
    · rw [gx_past _ _ (Nat.le_refl _) j (by simp; omega)]; decide
  · rw [gx_set_ne R j k v hk]; exact h k
theorem Row.mid_cell {w : World} {g : Nat} {e : TypeId} {k : IntKind} {Z R : List Int} {o : Nat} (hr : Row w g e k (mid Z o R)) (h : o + R.length ≤ Z.length) (j : Nat) (hj : j < R.length) : w.cell? ⟨g, o + j, none⟩ = some (.int k (gx R j)) := by
  have := hr.cell (o + j) (by rw [mid_length Z R o h]; omega)
  rwa [mid_gx Z R o j h hj] at this
theorem Row.mid_set {w : World} {g : Nat} {e : TypeId} {k : IntKind} {Z R : List Int} {o : Nat} (hr : Row w g e k (mid Z o R)) (h : o + R.length ≤ Z.length) (j : Nat) (hj : j < R.length) (v : Int) : Row (w.setCell ⟨g, o + j, none⟩ (.int k v)) g e k (mid Z o (R.set j v)) := by
  have := hr.set (o + j) v
  rwa [Proofs.YtkbgeggflhfleaaGreatDoor.mid_set Z R o j v h hj] at this
theorem mul_bd {v x : Int} (h1 : 0 ≤ v ∧ v < 4294967296) (h2 : 0 ≤ x ∧ x < 4294967296) : 0 ≤ v * x ∧ v * x ≤ 18446744065119617025 := by
  refine ⟨Int.mul_nonneg h1.1 h2.1, ?_⟩
  have a1 : v * x ≤ v * 4294967295 := Int.mul_le_mul_of_nonneg_left (by omega) h1.1
  omega
theorem or_join (r x : Int) (h1 : 0 ≤ r) (h2 : r < 4294967296) (h3 : 0 ≤ x) (h4 : x < 4294967296) : bits .or .u64 (r * 4294967296) x = r * 4294967296 + x :=
  bits_join .u64 64 (by decide) (fun n a b => by rw [IntKind.wrap_u64]; omega) 32 (r * 4294967296) x (by omega) (by omega) (by omega) h3 (by omega) (by omega)
theorem drop_cons (l : List Int) (j : Nat) (h : j < l.length) : l.drop j = gx l j :: l.drop (j + 1) := by rw [gx_mem l j h]; exact List.drop_eq_getElem_cons h
theorem drop_set_after (l : List Int) (n j : Nat) (v : Int) (hj : j < n) (h : n ≤ l.length) : ((l.set j v).take n).drop j = v :: (l.take n).drop (j + 1) := by
  rw [drop_cons _ j (by simp; omega), gx_take _ _ _ hj, gx_set_eq l j v (by omega)]
  congr 1
  rw [List.take_set, List.drop_set_of_lt (by omega)]
theorem quo_bd {r x d : Int} (h1 : 0 ≤ r) (h2 : r < d) (h3 : 0 ≤ x) (h4 : x < 4294967296) : 0 ≤ (r * 4294967296 + x) / d ∧ (r * 4294967296 + x) / d < 4294967296 := by
  refine ⟨Int.ediv_nonneg (by omega) (by omega), ?_⟩
  apply Int.ediv_lt_of_lt_mul (by omega)
  omega
theorem or_comm64 (a b : Int) (h1 : 0 ≤ a) (h2 : a < 18446744073709551616) (h3 : 0 ≤ b) (h4 : b < 18446744073709551616) : bits .or .u64 a b = bits .or .u64 b a := by
  obtain ⟨x, rfl⟩ := Int.eq_ofNat_of_zero_le h1
  obtain ⟨y, rfl⟩ := Int.eq_ofNat_of_zero_le h3
  have hk : ∀ n : Int, 0 ≤ n → n < 2 ^ 64 → IntKind.u64.wrap n = n := fun n a b => by rw [IntKind.wrap_u64]; omega
  rw [(bits_nat .u64 64 (by decide) hk x y (by omega) (by omega)).2, (bits_nat .u64 64 (by decide) hk y x (by omega) (by omega)).2, Nat.or_comm]
theorem or_join' (r x : Int) (h1 : 0 ≤ r) (h2 : r < 4294967296) (h3 : 0 ≤ x) (h4 : x < 4294967296) : bits .or .u64 x (r * 4294967296) = r * 4294967296 + x := by
  rw [or_comm64 _ _ h3 (by omega) (by omega) (by omega), or_join r x h1 h2 h3 h4]
theorem words_u32 (m : Int) (h0 : 0 ≤ m) (h1 : m < 18446744073709551616) : U32 [m % 4294967296, m / 4294967296] := u32_append (u32_one (by omega)) (u32_one (by omega))
theorem words_val (m : Int) : val [m % 4294967296, m / 4294967296] = m := by simp only [val]; omega
theorem Of_any (z : Int) (w : World) (h0 : -9223372036854775808 ≤ z) (h1 : z ≤ 9223372036854775807) :
    Calls Tryz.prog 28 #[.int .i64 z] w fun e w' => ∃ s' p' n' zs, e = .returned (.agg #[.bool s', .slice p' n' n']) ∧ NI w.heap.size w' s' p' n' zs z ∧ n' ≤ 2 ∧ Below w.heap.size w w' := by
  by_cases hn : z < 0
  · have HL : tlen [(-(z + 1) + 1) % 4294967296, (-(z + 1) + 1) / 4294967296] ≤ 2 := tlen_le _
    go_enter Tryz.func28, Tryz.ntmps28
    go_wp2_with fail
    refine (words_any (-(z + 1) + 1) _ (by omega) (by omega)).mono ?_
    rintro e w' ⟨rfl, rfl⟩
    go_wp2_with fail
    refine (number_any true (some ⟨w.heap.size + 1, 0, none⟩) 2 2 [(-(z + 1) + 1) % 4294967296, (-(z + 1) + 1) / 4294967296] _ rfl (Nat.le_refl _) (by unfold maxLen; decide) (Row.new1 w _ _ _ _).rd_all).mono ?_
    rintro e w1 ⟨rfl, hb⟩
    obtain ⟨c0, c1, f0, f1⟩ := resbox (r := w.heap.size) (u := .bool false) (v := .slice none 0 0) hb (by simp [go_sem, World.cell?_alloc_past]) (by simp [go_sem, World.cell?_alloc_past]) (by simp [go_sem]) (by simp [go_sem])
    have hU := words_u32 (-(z + 1) + 1) (by omega) (by omega)
    have hV : ival true [(-(z + 1) + 1) % 4294967296, (-(z + 1) + 1) / 4294967296] = z := by simp only [ival, words_val, if_true, if_false, Bool.false_eq_true] <;> omega
    generalize [(-(z + 1) + 1) % 4294967296, (-(z + 1) + 1) / 4294967296] = ys at *
    have hN := ni_number (B := w.heap.size + 1) (q := some ⟨w.heap.size + 1, 0, none⟩) true (Row.new1 w (.cells #[.bool false, .slice none 0 0] 30) 134 .u32 ys).rd_all hU (from_new (Nat.le_refl _)) ((Row.new1 w (.cells #[.bool false, .slice none 0 0] 30) 134 .u32 ys).fz 0)
    rw [hV] at hN
    have hN2 := hN.below hb
    have ht : tlen ys ≤ 2 := HL
    go_wp2
    refine bodyPost_ret (v := .agg #[.bool (nsg true ys), .slice (nad (some ⟨w.heap.size + 1, 0, none⟩) ys) (tlen ys) (tlen ys)]) (by simp [results, Tryz.results28, go_sem, c0, c1]) rfl ⟨_, _, _, tr ys, rfl, ?_, ht, ?_⟩
    · exact ((hN2.set (by simp) _).set (by simp) _).mono (by omega)
    · exact (((((Below.refl _ _).alloc (Nat.le_refl _) _).alloc (by simp) _).trans (hb.mono (by simp; omega))).setCell (by simp) _).setCell (by simp) _
  · have HL : tlen [z % 4294967296, z / 4294967296] ≤ 2 := tlen_le _
    go_enter Tryz.func28, Tryz.ntmps28
    go_wp2_with fail
    refine (words_any (z) _ (by omega) (by omega)).mono ?_
    rintro e w' ⟨rfl, rfl⟩
    go_wp2_with fail
    refine (number_any false (some ⟨w.heap.size + 1, 0, none⟩) 2 2 [(z) % 4294967296, (z) / 4294967296] _ rfl (Nat.le_refl _) (by unfold maxLen; decide) (Row.new1 w _ _ _ _).rd_all).mono ?_
    rintro e w1 ⟨rfl, hb⟩
    obtain ⟨c0, c1, f0, f1⟩ := resbox (r := w.heap.size) (u := .bool false) (v := .slice none 0 0) hb (by simp [go_sem, World.cell?_alloc_past]) (by simp [go_sem, World.cell?_alloc_past]) (by simp [go_sem]) (by simp [go_sem])
    have hU := words_u32 (z) (by omega) (by omega)
    have hV : ival false [(z) % 4294967296, (z) / 4294967296] = z := by simp only [ival, words_val, if_true, if_false, Bool.false_eq_true] <;> omega
    generalize [(z) % 4294967296, (z) / 4294967296] = ys at *
    have hN := ni_number (B := w.heap.size + 1) (q := some ⟨w.heap.size + 1, 0, none⟩) false (Row.new1 w (.cells #[.bool false, .slice none 0 0] 30) 134 .u32 ys).rd_all hU (from_new (Nat.le_refl _)) ((Row.new1 w (.cells #[.bool false, .slice none 0 0] 30) 134 .u32 ys).fz 0)
    rw [hV] at hN
    have hN2 := hN.below hb
    have ht : tlen ys ≤ 2 := HL
    go_wp2
    refine bodyPost_ret (v := .agg #[.bool (nsg false ys), .slice (nad (some ⟨w.heap.size + 1, 0, none⟩) ys) (tlen ys) (tlen ys)]) (by simp [results, Tryz.results28, go_sem, c0, c1]) rfl ⟨_, _, _, tr ys, rfl, ?_, ht, ?_⟩
    · exact ((hN2.set (by simp) _).set (by simp) _).mono (by omega)
    · exact (((((Below.refl _ _).alloc (Nat.le_refl _) _).alloc (by simp) _).trans (hb.mono (by simp; omega))).setCell (by simp) _).setCell (by simp) _
theorem divideByLimb_any (g cap : Nat) (n : Nat) (Z : List Int) (d : Int) (w : World) (hz : n ≤ Z.length) (hn : n ≤ cap) (hcap : cap ≤ 1099511627776) (hR : Row w g 134 .u32 Z) (hU : U32 Z) (hd : 0 < d) (hd' : d < 4294967296) :
    Calls Tryz.prog 209 #[.slice (some ⟨g, 0, none⟩) n cap, .int .u32 d] w fun e w' => ∃ R r, e = .returned (.int .u32 r) ∧ R.length = Z.length ∧ U32 R ∧ 0 ≤ r ∧ r < d ∧ val (R.take n) * d + r = val (Z.take n) ∧ Row w' g 134 .u32 R ∧ w.grownBy w' (some g) := by
  go_enter Tryz.func209, Tryz.ntmps209
  go_wp2
  go_loopw [5, 6] (fun rv iv wr => ∃ (k : Nat) (r : Int) (R : List Int), k ≤ n ∧ iv = .int .i64 ((k : Int) - 1) ∧ rv = .int .u64 r ∧ 0 ≤ r ∧ r < d ∧ Hid (R.length = Z.length ∧ U32 R ∧ (∀ j, j < k → gx R j = gx Z j) ∧ val ((R.take n).drop k) * d + r = val ((Z.take n).drop k) ∧ Row wr g 134 .u32 R ∧ w.grownBy wr (some g)))
    (fun _ iv _ => (intOf iv + 1).toNat)
  case atStart => exact ⟨n, 0, Z, Nat.le_refl _, by go_num, rfl, by decide, hd, rfl, hU, fun _ _ => rfl, by rw [List.drop_of_length_le (by simp; omega)]; simp [val], hR, grownBy_refl _ _⟩
  case round =>
    obtain ⟨k, r, R, hk, rfl, rfl, hr0, hr1, H⟩ := hrel
    by_cases h0 : k = 0
    · subst h0
      go_wp2
      go_ret
      obtain ⟨a1, a2, a3, a4, a5, a6⟩ := H.out
      rw [List.drop_zero, List.drop_zero] at a4
      exact ⟨R, r, rfl, a1, a2, hr0, hr1, a4, a5, a6⟩
    · obtain ⟨j, rfl⟩ : ∃ j, k = j + 1 := ⟨k - 1, by omega⟩
      have ej : ((j + 1 : Nat) : Int) - 1 = (j : Int) := by omega
      rw [ej]
      clear ej
      obtain ⟨a1, a2, a3, a4, a5, a6⟩ := H.out
      have hc := a5.cell j (by omega)
      have hf := a5.frozen j
      obtain ⟨b0, b1⟩ := a2 j
      have ho := or_join r (gx R j) hr0 (by omega) b0 b1
      obtain ⟨q0, q1⟩ := quo_bd hr0 hr1 b0 b1
      have hdz : (d == 0) = false := beq_eq_false_iff_ne.2 (by omega)
      clear a1 a2 a3 a4 a5 a6
      go_wp2
      go_region
      all_goals go_wp2
      obtain ⟨a1, a2, a3, a4, a5, a6⟩ := H.out
      refine ⟨⟨j, _, R.set j ((r * 4294967296 + gx R j) / d), by omega, rfl, rfl, Int.emod_nonneg _ (by omega), Int.emod_lt_of_pos _ hd, by rw [List.length_set]; exact a1, u32_set a2 _ ⟨q0, q1⟩, fun k hk => ?_, ?_, (a5.set j _).drew, grownBy_drew (grownBy_setCell a6 _ _)⟩, by simp [intOf]⟩
      · rw [gx_set_ne R _ _ _ (by omega)]; exact a3 k (by omega)
      · rw [drop_set_after R n j _ (by omega) (by omega), drop_cons (Z.take n) j (by simp; omega), gx_take Z n j (by omega)]
        simp only [val]
        rw [← a4, ← a3 j (by omega)]
        have e := Int.emod_add_mul_ediv (r * 4294967296 + gx R j) d
        rw [Int.mul_comm d] at e
        rw [Int.add_mul, Int.mul_add, Int.mul_assoc]
        omega
theorem join_any (p : Option Addr) (n nc : Nat) (xs : List Int) (w : World) (hl : xs.length = n) (hn : n ≤ 2) (hX : Rd w p .u32 xs) (hU : U32 xs) :
    Calls Tryz.prog 208 #[.slice p n nc] w fun e w' => e = .returned (.int .u64 (val xs)) ∧ w = w' := by
  go_enter Tryz.func208, Tryz.ntmps208
  go_wp2
  go_loop [3, 8] (fun mv iv => ∃ (k : Nat) (v : Int), k ≤ n ∧ iv = .int .i64 k ∧ mv = .int .u64 v ∧ Hid (v = val (xs.take k))) (fun _ iv => n - (intOf iv).toNat)
  case atStart => exact ⟨0, 0, Nat.zero_le _, rfl, rfl, by simp [val, Hid]⟩
  case round =>
    obtain ⟨k, v, hk, rfl, rfl, HV⟩ := hrel
    by_cases hlt : k < n
    · obtain ⟨b, off, rfl, hcell⟩ := hX (by omega)
      have hc := hcell k (by omega)
      obtain ⟨b0, b1⟩ := hU k
      clear hcell
      have hk01 : k = 0 ∨ k = 1 := by omega
      rcases hk01 with rfl | rfl
      · have hv : v = 0 := by have := HV.out; simpa [val] using this
        subst hv
        have ho : bits .or .u64 0 (gx xs 0) = gx xs 0 := by simpa using or_join 0 (gx xs 0) (by decide) (by decide) b0 b1
        rw [Nat.add_zero] at hc
        go_wp2
        refine ⟨⟨1, _, by omega, rfl, rfl, ?_⟩, by simp [intOf]; omega⟩
        show _ = _
        rw [val_take_succ xs 0 (by omega)]
        simp [val, pw_zero]
      · have hv : v = gx xs 0 := by
          have := HV.out
          rw [val_take_succ xs 0 (by omega)] at this
          simpa [val, pw_zero] using this
        subst hv
        obtain ⟨d0, d1⟩ := hU 0
        have ho := or_join' (gx xs 1) (gx xs 0) b0 b1 d0 d1
        go_wp2
        refine ⟨⟨2, _, by omega, rfl, rfl, ?_⟩, by simp [intOf]; omega⟩
        show _ = _
        rw [val_take_succ xs 1 (by omega), val_take_succ xs 0 (by omega)]
        simp only [List.take_zero, val, pw_succ, pw_zero]
        omega
    · have : k = n := by omega
      subst this
      go_wp2
      go_ret
      have := HV.out
      rw [List.take_of_length_le (by omega)] at this
      rw [this]
      exact ⟨rfl, rfl⟩
theorem neg_emod {m x r : Int} (h1 : 1 ≤ m) (h : r = x % m) (hr : r ≠ 0) : (-x) % m = m - r := by
  have e := Int.emod_add_mul_ediv x m
  have b0 := Int.emod_nonneg x (show m ≠ 0 by omega)
  have b1 := Int.emod_lt_of_pos x (show 0 < m by omega)
  rw [← h] at e b0 b1
  have e2 : -x = (m - r) + m * (-(x / m) - 1) := by rw [Int.mul_sub, Int.mul_neg]; omega
  rw [e2, Int.add_mul_emod_self_left]
  exact Int.emod_eq_of_lt (by omega) (by omega)
end Go.Proofs.YtkbgeggflhfleaaGreatDoor
