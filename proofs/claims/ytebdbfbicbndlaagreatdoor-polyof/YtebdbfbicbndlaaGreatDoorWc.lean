/-
  limbs: what makes memory: clone, words, number, Of; sums and differences of sizes.
-/
import Derived.Test.YtebdbfbicbndlaaGreatDoorWa
import Derived.Test.YtebdbfbicbndlaaGreatDoorWb
namespace Go.Proofs.YtebdbfbicbndlaaGreatDoor
open Go.RowKit
set_option linter.unusedVariables false
set_option linter.unusedSimpArgs false

theorem info_u32 : (Tryz.prog.info? 96).map (fun i => (i.zero, i.size, i.bytes)) = some (some (.int .u32 0), 1, 4) := by kernel_rfl
theorem mk_u32 (n : Nat) (h : n ≤ 1099511627776) (w : World) : (Instr.makeSlice 41 (.int .i64 n) (.int .i64 n)).run Tryz.prog w =
    .ok (.slice (some ⟨w.heap.size, 0, none⟩) n n) (w.alloc (.cells (ca .u32 (zeros n)) 96)) := by
  have hi := info_u32
  cases hq : Tryz.prog.info? 96 with
  | none => rw [hq] at hi; cases hi
  | some i =>
    rw [hq] at hi
    simp only [Option.map_some, Option.some.injEq, Prod.mk.injEq] at hi
    obtain ⟨h1, h2, h3⟩ := hi
    have hr := run_make (P := Tryz.prog) w 41 96 i (.int .u32 0) Tryz.underlying41 hq h1 .i64 .i64 n n (by omega) (Int.le_refl _) (by rw [h3]; omega) (by omega)
    rw [Int.toNat_natCast, h2] at hr
    rw [hr]
    exact congrArg (fun c => Result.ok (Value.slice (some ⟨w.heap.size, 0, none⟩) n n) (w.alloc (.cells c 96))) (made_zeros .u32 n)

theorem copy_u32 (ty : TypeId) (w : World) (q : Option Addr) (m mc n : Nat) (xs : List Int) (hX : Rd w q .u32 xs) (hl : xs.length = m) (hmn : m ≤ n) :
    (Builtin.copy_ #[41, 41] ty #[.slice (some ⟨w.heap.size, 0, none⟩) n n, .slice q m mc]).run Tryz.prog (w.alloc (.cells (ca .u32 (zeros n)) 96)) =
      .ok (.int .i64 m) (w.alloc (.cells (ca .u32 (xs ++ zeros (n - m))) 96)) := by
  by_cases h0 : m = 0
  · subst h0
    have : xs = [] := List.eq_nil_of_length_eq_zero hl
    subst this
    exact run_copy_none (P := Tryz.prog) _ 41 41 ty 96 _ _ n n 0 mc Tryz.underlying41 (by kernel_rfl) (by simp)
  · obtain ⟨b, off, rfl, hc⟩ := (hX.alloc (.cells (ca .u32 (zeros n)) 96)) (by omega)
    rw [run_copy_row Tryz.prog _ 41 41 ty 96 w.heap.size 0 n n ⟨b, off, none⟩ m mc _ 96 (xs.map (Value.int .u32)) Tryz.underlying41 (by kernel_rfl) (heap_alloc_new w _) (by simp only [List.length_map, hl]; exact (Nat.min_eq_left hmn).symm) (Rd.src hc) (by simp [size_ca, length_zeros]; omega) (oneCell_ca _ _)]
    rw [World.setRow_alloc_new]
    congr 2
    · simp [hl]
    · simp [ca, zeros, hl]

set_option maxHeartbeats 400000 in
/-- limbs.clone. -/
theorem clone_any (q : Option Addr) (m mc : Nat) (xs : List Int) (w : World) (hl : xs.length = m) (hm : m ≤ 1099511627776) (hX : Rd w q .u32 xs) :
    Calls Tryz.prog 83 #[.slice q m mc] w fun e w' => e = .returned (.slice (some ⟨w.heap.size, 0, none⟩) m m) ∧ w.alloc (.cells (ca .u32 xs) 96) = w' := by
  have hmk := mk_u32 m hm
  have hcp := fun ty => copy_u32 ty w q m mc m xs hX hl (Nat.le_refl m)
  rw [Nat.sub_self, show xs ++ zeros 0 = xs by simp [zeros]] at hcp
  go_enter Tryz.func83, Tryz.ntmps83
  go_wp2
  go_ret
  exact ⟨rfl, rfl⟩

set_option maxHeartbeats 400000 in
/-- slices.Clip: no spare room. -/
theorem clip_any (q : Option Addr) (m mc : Nat) (w : World) (hm : m ≤ mc) (hc : mc ≤ maxLen) :
    Calls Tryz.prog 77 #[.slice q m mc] w fun e w' => e = .returned (.slice q m m) ∧ w = w' := by
  unfold maxLen at hc
  go_enter Tryz.func77, Tryz.ntmps77
  go_wp2
  go_ret
  exact ⟨rfl, rfl⟩

/-- The sign and the place of a number in normal form. -/
def nsg (neg : Bool) (xs : List Int) : Bool := if tlen xs = 0 then false else neg
def nad (q : Option Addr) (xs : List Int) : Option Addr := if tlen xs = 0 then none else q

set_option maxHeartbeats 400000 in
/-- limbs.number. -/
theorem number_any (neg : Bool) (q : Option Addr) (m mc : Nat) (xs : List Int) (w : World) (hl : xs.length = m) (hm : m ≤ mc) (hc : mc ≤ maxLen) (hX : Rd w q .u32 xs) :
    Calls Tryz.prog 39 #[.bool neg, .slice q m mc] w fun e w' => e = .returned (.agg #[.bool (nsg neg xs), .slice (nad q xs) (tlen xs) (tlen xs)]) ∧ Below w.heap.size w w' := by
  have ht := tlen_le xs
  by_cases h0 : tlen xs = 0
  · rw [nsg, nad, if_pos h0, if_pos h0, h0]
    have hc' := hc
    unfold maxLen at hc'
    go_enter Tryz.func39, Tryz.ntmps39
    go_wp2_with (go_at_call 66; refine (trim_any q m mc xs _ hl hm hc (hX.alloc _)).mono ?_; rintro e w' ⟨rfl, rfl⟩)
    exact bodyPost_ret (v := .agg #[.bool false, .slice none 0 0]) (by simp [results, Tryz.results39, go_sem]) rfl ⟨rfl, (Below.refl _ _).alloc (Nat.le_refl _) _⟩
  · rw [nsg, nad, if_neg h0, if_neg h0]
    have hc' := hc
    unfold maxLen at hc'
    have h1 : (((tlen xs : Nat) : Int) == 0) = false := beq_eq_false_iff_ne.2 (by omega)
    go_enter Tryz.func39, Tryz.ntmps39
    go_wp2_with (first
      | (go_at_call 66; refine (trim_any q m mc xs _ hl hm hc (hX.alloc _)).mono ?_; rintro e w' ⟨rfl, rfl⟩)
      | (go_at_call 77; refine (clip_any q (tlen xs) mc _ (by omega) hc).mono ?_; rintro e w' ⟨rfl, rfl⟩))
    exact bodyPost_ret (v := .agg #[.bool neg, .slice q (tlen xs) (tlen xs)]) (by simp [results, Tryz.results39, go_sem]) rfl ⟨rfl, (Below.refl _ _).alloc (Nat.le_refl _) _⟩

set_option maxHeartbeats 400000 in
/-- limbs.words. -/
theorem words_any (m : Int) (w : World) (h0 : 0 ≤ m) (h1 : m < 18446744073709551616) :
    Calls Tryz.prog 40 #[.int .u64 m] w fun e w' => e = .returned (.slice (some ⟨w.heap.size, 0, none⟩) 2 2) ∧ w.alloc (.cells (ca .u32 [m % 4294967296, m / 4294967296]) 96) = w' := by
  go_enter Tryz.func40, Tryz.ntmps40
  go_wp2
  go_ret
  exact ⟨rfl, rfl⟩

end Go.Proofs.YtebdbfbicbndlaaGreatDoor
