/-
  limbs.Text of fewer than 80 limbs.
-/
import Derived.Test.YtongkalfdgleaaaGreatDoorWiWjWo
import Derived.Test.YtongkalfdgleaaaGreatDoorGcGdWlBx
import Derived.Test.YtongkalfdgleaaaGreatDoorWm
namespace Go.Proofs.YtongkalfdgleaaaGreatDoor
open Go.RowKit
set_option linter.unusedVariables false
set_option linter.unusedSimpArgs false

theorem info_u8 : (Tryz.prog.info? 5).map (fun i => (i.zero, i.size, i.bytes)) = some (some (.int .u8 0), 1, 1) := by kernel_rfl
theorem mk_u8 (n : Nat) (h : n ≤ 1099511627776) (w : World) : (Instr.makeSlice 107 (.int .i64 n) (.int .i64 n)).run Tryz.prog w =
    .ok (.slice (some ⟨w.heap.size, 0, none⟩) n n) (w.alloc (.cells (ca .u8 (zeros n)) 5)) := by
  have hi := info_u8
  cases hq : Tryz.prog.info? 5 with
  | none => rw [hq] at hi; cases hi
  | some i =>
    rw [hq] at hi
    simp only [Option.map_some, Option.some.injEq, Prod.mk.injEq] at hi
    obtain ⟨h1, h2, h3⟩ := hi
    have hr := run_make (P := Tryz.prog) w 107 5 i (.int .u8 0) Tryz.underlying107 hq h1 .i64 .i64 n n (by omega) (Int.le_refl _) (by rw [h3]; omega) (by omega)
    rw [Int.toNat_natCast, h2] at hr
    rw [hr]
    exact congrArg (fun c => Result.ok (Value.slice (some ⟨w.heap.size, 0, none⟩) n n) (w.alloc (.cells c 5))) (made_zeros .u8 n)

/-- Bytes out of integers. -/
def bys (D : List Int) : List UInt8 := D.map fun n => UInt8.ofNat n.toNat
theorem bys_fold (D : List Int) (a : List UInt8) : D.foldl (fun (r : ByteArray) n => r.push (UInt8.ofNat n.toNat)) ⟨a.toArray⟩ = ⟨(a ++ bys D).toArray⟩ := by
  induction D generalizing a with
  | nil => simp [bys]
  | cons x r ih =>
    have e : (⟨a.toArray⟩ : ByteArray).push (UInt8.ofNat x.toNat) = ⟨(a ++ [UInt8.ofNat x.toNat]).toArray⟩ := by simp [ByteArray.push]
    rw [List.foldl_cons, e, ih]
    simp [bys]
theorem conv_u8 (w : World) (g n c : Nat) (D : List Int) (h : Row w g 5 .u8 D) (hn : D.length = n) : (convert 107 9 (.slice (some ⟨g, 0, none⟩) n c)).run Tryz.prog w = .ok (.string ⟨(bys D).toArray⟩) w := by
  rw [run_convert_bytes_string w 107 9 5 _ _ _ Tryz.underlying107 Tryz.underlying5 Tryz.underlying9]
  have hl := run_loadCells_list (P := Tryz.prog) w ⟨g, 0, none⟩ (D.map (Value.int .u8)) (Rd.src (fun j hj => by rw [Nat.zero_add]; exact h.cell j hj))
  rw [List.length_map, hn] at hl
  rw [run_bytesToString w ⟨g, 0, none⟩ n c D hl]
  have := bys_fold D []
  simp only [List.nil_append] at this
  rw [← this]
  rfl

set_option maxHeartbeats 1000000 in
/-- limbs.Text: of zero. -/
theorem Text_zero (s : Bool) (p : Option Addr) (n nc : Nat) (xs : List Int) (w : World) (hA : AI w p n nc xs) (h0 : val xs = 0) :
    Calls Tryz.prog 63 #[.agg #[.bool s, .slice p n nc]] w fun e w' => e = .returned (.string ⟨#[48]⟩) ∧ Below w.heap.size w w' := by
  have ht := (tlen_zero_iff hA.u).2 h0
  go_enter Tryz.func63, Tryz.ntmps63
  go_wp2_with (go_at_call 67; refine (trim_any p n nc xs _ hA.len hA.cap hA.bnd (hA.rd.alloc _)).mono ?_; rintro e w' ⟨rfl, rfl⟩)
  go_ret
  exact ⟨rfl, (Below.refl _ _).alloc (Nat.le_refl _) _⟩

/-- What Text answers of a number that is not 0. -/
def TextPost (s : Bool) (V : Int) (w : World) (e : Ending) (w' : World) : Prop :=
  ∃ N D, V < 10 ^ N ∧ D.length = N ∧ (∀ j, j < N → gx D j = dgt V (N - 1 - j)) ∧ e = .returned (.string ⟨((if s then [45] else []) ++ strip (bys D)).toArray⟩) ∧ Below w.heap.size w w'

set_option maxRecDepth 100000 in
set_option maxHeartbeats 2000000 in
/-- limbs.Text: not of zero. -/
theorem Text_some (s : Bool) (p : Option Addr) (n nc : Nat) (xs : List Int) (w : World) (hA : AI w p n nc xs) (h0 : val xs ≠ 0) (h80 : n < 80) :
    Calls Tryz.prog 63 #[.agg #[.bool s, .slice p n nc]] w (TextPost s (val xs) w) := by
  have tx := tlen_le xs
  have lx := hA.len
  have ht : tlen xs ≠ 0 := fun e => h0 ((tlen_zero_iff hA.u).1 e)
  have ht' : (((tlen xs : Nat) : Int) == 0) = false := beq_eq_false_iff_ne.2 (by omega)
  go_enter Tryz.func63, Tryz.ntmps63
  go_wp2_with fail
  have hW : Bx (w.alloc (.cells #[.bool s, .slice p n nc] 24)) w.heap.size (.bool s) (.slice p n nc) := Bx.new _ _ _ rfl
  have hBW : Below w.heap.size w (w.alloc (.cells #[.bool s, .slice p n nc] 24)) := (Below.refl _ _).alloc (Nat.le_refl _) _
  generalize w.alloc (.cells #[.bool s, .slice p n nc] 24) = W0 at *
  refine (trim_any p n nc xs _ hA.len hA.cap hA.bnd (hA.rd.below hBW)).mono ?_
  rintro e w' ⟨rfl, rfl⟩
  go_wp2_with fail
  refine (chunkPowers_any (tlen xs) _ (by omega) (by omega)).mono ?_
  rintro e W1 ⟨pp, L, Lc, rfl, hL1, hL7, hp', hb1⟩
  have hp : Hid (pw (tlen xs) ≤ 10 ^ (9 * 2 ^ L)) := hp'
  clear hp'
  obtain ⟨K, hK⟩ : ∃ K : Nat, K = 2 ^ L := ⟨_, rfl⟩
  have hKb : K ≤ 128 := by rw [hK]; exact Nat.le_trans (Nat.pow_le_pow_right (by decide) hL7) (by decide)
  have hsh : wrap64 (9 * 2 ^ L) = 9 * (K : Int) := by
    have : L = 1 ∨ L = 2 ∨ L = 3 ∨ L = 4 ∨ L = 5 ∨ L = 6 ∨ L = 7 := by omega
    rw [hK]
    rcases this with rfl | rfl | rfl | rfl | rfl | rfl | rfl <;> (rw [IntWalk.wrap64_in _ (by decide)]; rfl)
  have HK : Hid (K = 2 ^ L) := hK
  clear hK
  have ec : ((9 * K : Nat) : Int) = 9 * (K : Int) := by omega
  have hmk := mk_u8 (9 * K) (by omega)
  rw [ec] at hmk
  clear ec
  go_wp2_with fail
  have hA1 := ((hA.below hBW).below hb1).tr
  refine (clone_any p (tlen xs) nc (tr xs) _ (length_tr xs) (by omega) (hA1.rd.alloc _)).mono ?_
  rintro e w' ⟨rfl, rfl⟩
  go_wp2_with fail
  have hrO : Row ((W1.alloc (Obj.cells (ca .u8 (zeros (9 * K))) 5)).alloc (Obj.cells (ca .u32 (tr xs)) 80)) W1.heap.size 5 .u8 (zeros (9 * K)) := (Row.new W1 _ _ _).alloc _
  have hrX := Row.new1 W1 (Obj.cells (ca .u8 (zeros (9 * K))) 5) 80 .u32 (tr xs)
  have hb2 : Below W1.heap.size W1 ((W1.alloc (Obj.cells (ca .u8 (zeros (9 * K))) 5)).alloc (Obj.cells (ca .u32 (tr xs)) 80)) := ((Below.refl _ _).alloc (Nat.le_refl _) _).alloc (by simp) _
  have hz2 : ((W1.alloc (Obj.cells (ca .u8 (zeros (9 * K))) 5)).alloc (Obj.cells (ca .u32 (tr xs)) 80)).heap.size = W1.heap.size + 1 + 1 := by simp
  generalize ((W1.alloc (Obj.cells (ca .u8 (zeros (9 * K))) 5)).alloc (Obj.cells (ca .u32 (tr xs)) 80)) = W2 at *
  refine (spell_small W1.heap.size (W1.heap.size + 1) K (9 * K) (tlen xs) (tlen xs) L Lc pp (zeros (9 * K)) (tr xs) W2 hrO (length_zeros _) (Nat.le_refl _) (by omega) hrX (by rw [length_tr]; omega) (u32_tr hA.u) (Nat.le_refl _) (by omega) (by omega) (by omega) (by omega)).mono ?_
  rintro e W3 ⟨D, rfl, d1, d2, d3, d4⟩
  have hb3 : Below W1.heap.size W1 W3 := ⟨d4.os.trans hb2.os, d4.tape.trans hb2.tape, d4.output.trans hb2.output, Nat.le_trans hb2.size d4.size, fun k hk => (d4.block k (by omega) (by omega) (by omega)).trans (hb2.block k hk)⟩
  have hcv := conv_u8 W3 W1.heap.size (9 * K) (9 * K) D d3 d1
  have hbl : (bys D).length = 9 * K := by simp [bys, d1]
  have hne : bys D ≠ [] := by
    intro e
    rw [e] at hbl
    have h1 : 1 ≤ 2 ^ L := Nat.one_le_two_pow
    rw [← HK.out] at h1
    simp at hbl; omega
  have hBx := (hW.later hb1).later hb3
  have k0 := hBx.c0
  have k1 := hBx.c1
  have hbW := hBW.size
  have hb1s := hb1.size
  have hBelow : Below w.heap.size w W3 := (hBW.trans (hb1.mono hbW)).trans (hb3.mono (by omega))
  rw [List.take_of_length_le (by rw [length_tr]; omega), val_tr] at d2
  have HD : Hid (val xs < 10 ^ (9 * K) ∧ D.length = 9 * K ∧ (∀ j, j < 9 * K → gx D j = dgt (val xs) (9 * K - 1 - j)) ∧ Below w.heap.size w W3) :=
    ⟨by rw [HK.out]; exact Int.lt_of_lt_of_le (val_lt_tlen hA.u) hp.out, d1, d2, hBelow⟩
  generalize hbs : bys D = bs at hcv hbl hne
  have HB : Hid (bys D = bs) := hbs
  clear hbs
  clear d1 d2 d3 d4 hb3 hBelow hBx hrO hrX hb2 hz2 hsh hmk
  cases s
  · go_wp2_with fail
    refine (TrimLeft_any bs _ (by omega) hne).mono ?_
    rintro e w' ⟨rfl, rfl⟩
    go_wp2
    go_ret
    obtain ⟨e1, e2, e3, e4⟩ := HD.out
    refine ⟨9 * K, D, e1, e2, e3, ?_, e4⟩
    rw [HB.out]
    rfl
  · go_wp2_with fail
    refine (TrimLeft_any bs _ (by omega) hne).mono ?_
    rintro e w' ⟨rfl, rfl⟩
    have hsl : (strip bs).length ≤ bs.length := (List.dropWhile_sublist _).length_le
    have hadd : ∀ w, (Op.stringOp .add ⟨#[45]⟩ ⟨(strip bs).toArray⟩).run Tryz.prog w = .ok (.string ⟨(45 :: strip bs).toArray⟩) w := fun w => by
      have := run_string_add_lists (P := Tryz.prog) w [45] (strip bs) (by decide) (by omega)
      simpa using this
    go_wp2
    go_ret
    obtain ⟨e1, e2, e3, e4⟩ := HD.out
    refine ⟨9 * K, D, e1, e2, e3, ?_, e4⟩
    rw [HB.out]
    rfl
end Go.Proofs.YtongkalfdgleaaaGreatDoor
/-
  What begun needs: quotients by one limb, texts of one digit.
-/
namespace Go.Proofs.YtongkalfdgleaaaGreatDoor
open Go.RowKit
set_option linter.unusedVariables false
set_option linter.unusedSimpArgs false

theorem tr_one {ys : List Int} (hU : U32 ys) (h : tlen ys = 1) : tr ys = [val ys] := by
  have hl := length_tr ys
  rw [h] at hl
  match he : tr ys, hl with
  | [d], _ =>
    have := val_tr ys
    rw [he, val_one] at this
    rw [this]

/-- limbs.Quo by a size of one limb. -/
theorem Quo_one (s t : Bool) (p q : Option Addr) (n nc m mc : Nat) (xs ys : List Int) (w : World) (hA : AI w p n nc xs) (hB : AI w q m mc ys) (h1 : tlen ys = 1) :
    Calls Tryz.prog 59 #[.agg #[.bool s, .slice p n nc], .agg #[.bool t, .slice q m mc]] w (QuoPost w (ival s xs) (ival t ys) n m) := by
  have h0 : val ys ≠ 0 := fun e => by have := (tlen_zero_iff hB.u).2 e; omega
  refine Quo_of s t p q n nc m mc xs ys w hA hB h0 (fun W hA' hB' => ?_)
  rcases Int.lt_or_le (val (tr xs)) (val (tr ys)) with h | h
  · exact quotient_lt p q _ nc _ mc (tr xs) (tr ys) W hA' hB' h
  · have ht := tr_one hB.u h1
    have hp := val_nonneg hB.u
    rw [h1] at hB' ⊢
    rw [ht] at hB' h ⊢
    rw [val_one] at h
    exact quotient_one p q _ nc mc (tr xs) (val ys) W hA' hB' (by omega) h

theorem ival_neg {s : Bool} {xs : List Int} {z : Int} (hU : U32 xs) (h : ival s xs = z) (hz : z < 0) : s = true ∧ val xs = -z := by
  have := val_nonneg hU
  cases s
  · simp only [ival, Bool.false_eq_true, if_false] at h; omega
  · simp only [ival, if_true] at h; exact ⟨rfl, by omega⟩
theorem ival_pos {s : Bool} {xs : List Int} {z : Int} (hU : U32 xs) (h : ival s xs = z) (hz : 0 < z) : s = false ∧ val xs = z := by
  have := val_nonneg hU
  cases s
  · simp only [ival, Bool.false_eq_true, if_false] at h; exact ⟨rfl, h⟩
  · simp only [ival, if_true] at h; omega
theorem tlen_small {xs : List Int} (hU : U32 xs) (h0 : 0 < val xs) (h1 : val xs < 4294967296) : tlen xs = 1 := by
  rcases Nat.lt_trichotomy (tlen xs) 1 with h | h | h
  · have := (tlen_zero_iff hU).1 (by omega); omega
  · exact h
  · have h2 := val_pos_of_top hU (by omega)
    have h3 : pw 1 ≤ pw (tlen xs - 1) := pw_mono (by omega)
    have h4 : pw 1 = 4294967296 := rfl
    omega

theorem dgt_zero (d : Int) (k : Nat) (h0 : 0 ≤ d) (h : d < 10) (hk : 0 < k) : dgt d k = 48 := by
  obtain ⟨m, rfl⟩ : ∃ m, k = m + 1 := ⟨k - 1, by omega⟩
  have hp : (0 : Int) < 10 ^ m := Int.pow_pos (by decide)
  unfold dgt
  rw [Int.ediv_eq_zero_of_lt h0 (by rw [Int.pow_succ]; omega)]
  rfl
/-- The text of one digit. -/
theorem text_digit (d : Int) (N : Nat) (D : List Int) (h0 : 0 < d) (h : d < 10) (hN : d < 10 ^ N) (hl : D.length = N) (hD : ∀ j, j < N → gx D j = dgt d (N - 1 - j)) : strip (bys D) = [UInt8.ofNat (48 + d).toNat] := by
  rcases Nat.eq_zero_or_pos N with h1 | h1
  · subst h1; simp at hN; omega
  · have e : D = List.replicate (N - 1) 48 ++ [48 + d] := by
      apply gx_ext
      · simp; omega
      · intro j hj
        rw [hD j (by omega)]
        by_cases hj' : j < N - 1
        · rw [dgt_zero d _ (by omega) h (by omega), gx_append_left _ _ _ (by simpa using hj')]
          simp [gx, hj']
        · have : j = N - 1 := by omega
          subst this
          rw [gx_append_right _ _ _ (by simp)]
          simp only [List.length_replicate, Nat.sub_self, gx_zero, dgt, Int.pow_zero]
          omega
    rw [e, bys, List.map_append, strip]
    have hne : (UInt8.ofNat (48 + d).toNat == 48) = false := by
      have : d = 1 ∨ d = 2 ∨ d = 3 ∨ d = 4 ∨ d = 5 ∨ d = 6 ∨ d = 7 ∨ d = 8 ∨ d = 9 := by omega
      rcases this with rfl | rfl | rfl | rfl | rfl | rfl | rfl | rfl | rfl <;> decide
    have hr : ∀ m, List.dropWhile (· == (48 : UInt8)) (List.map (fun n : Int => UInt8.ofNat n.toNat) (List.replicate m 48) ++ [UInt8.ofNat (48 + d).toNat]) = [UInt8.ofNat (48 + d).toNat] := by
      intro m
      induction m with
      | zero => simp [hne]
      | succ m ih =>
        rw [List.replicate_succ, List.map_cons, List.cons_append, List.dropWhile_cons_of_pos (by decide)]
        exact ih
    simpa using hr (N - 1)
end Go.Proofs.YtongkalfdgleaaaGreatDoor
