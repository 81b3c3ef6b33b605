/-
  The contracts of the small functions of limbs, read off the program by walking it.
-/
import Derived.Test.YtkjpeehbhmcojaaGreatDoorProg
import Derived.Test.YtkjpeehbhmcojaaGreatDoorPlS1Mm
namespace Go.Proofs.YtkjpeehbhmcojaaGreatDoor
open Go.RowKit
set_option linter.unusedVariables false
set_option linter.unusedSimpArgs false
set_option maxHeartbeats 8000000
theorem trim_any (p : Option Addr) (len cap : Nat) (xs : List Int) (w : World) (hl : xs.length = len) (hc : len ≤ cap) (hm : cap ≤ maxLen) (hx : Rd w p .u32 xs) :
    Calls Tryz.prog 91 #[.slice p len cap] w fun e w' => e = .returned (.slice p (tlen xs) cap) ∧ w = w' := by
  unfold maxLen at hm
  go_enter Tryz.func91, Tryz.ntmps91
  go_wp2
  go_loop [3] (fun n => ∃ k : Nat, k ≤ len ∧ n = .int .i64 k ∧ Hid (∀ j, k ≤ j → gx xs j = 0)) (fun n => (intOf n).toNat)
  case atStart => exact ⟨len, Nat.le_refl _, rfl, gx_past xs len (by omega)⟩
  case round =>
    obtain ⟨k, hk, rfl, hz⟩ := hrel
    by_cases h0 : k = 0
    · subst h0
      go_wp2
      go_ret
      rw [tlen_eq xs 0 hz.out (.inl rfl)]
      exact ⟨rfl, rfl⟩
    · obtain ⟨m, rfl⟩ : ∃ m, k = m + 1 := ⟨k - 1, by omega⟩
      obtain ⟨b, off, rfl, hcell⟩ := hx (by omega)
      have hcm := hcell m (by omega)
      clear hcell
      by_cases h1 : gx xs m = 0
      · have h2 : (gx xs m == 0) = true := by simp only [h1]; rfl
        go_wp2
        go_round
        case rel => exact ⟨m, by omega, by go_num, fun j hj => by
          rcases Nat.lt_or_ge m j with h | h
          · exact hz.out j h
          · have : j = m := by omega
            subst this; exact h1⟩
        case measure => simp [intOf]
      · have h2 : (gx xs m == 0) = false := by simpa using h1
        go_wp2
        go_ret
        rw [tlen_eq xs (m + 1) hz.out (.inr h1)]
        exact ⟨rfl, rfl⟩
theorem addTo_any (g o n cap : Nat) (Z : List Int) (q : Option Addr) (m mc : Nat) (xs : List Int) (w : World)
    (hz : o + n ≤ Z.length) (hcap : cap ≤ 1099511627776) (hn : n ≤ cap) (hR : Row w g 78 .u32 Z) (hU : U32 Z) (hx : xs.length = m) (hm : m ≤ n)
    (hX : Rd w q .u32 xs) (hXu : U32 xs) (hoff : 0 < m → Off g q) :
    Calls Tryz.prog 134 #[.slice (some ⟨g, o, none⟩) n cap, .slice q m mc] w fun e w' => ∃ c new, e = .returned (.int .u32 c) ∧ new.length = n ∧ U32 new ∧ 0 ≤ c ∧ c ≤ 1 ∧
      val new + pw n * c = val ((Z.drop o).take n) + val xs ∧ Row w' g 78 .u32 (Z.take o ++ new ++ Z.drop (o + n)) ∧ w.grownBy w' (some g) := by
  go_enter Tryz.func134, Tryz.ntmps134
  go_wp2
  go_loopw [5, 12] (fun cv iv wr => ∃ (k : Nat) (c : Int) (new : List Int), k ≤ m ∧ iv = .int .i64 k ∧ cv = .int .u64 c ∧ 0 ≤ c ∧ c ≤ 1 ∧ Hid (new.length = k ∧ U32 new ∧ val new + pw k * c = val ((Z.drop o).take k) + val (xs.take k) ∧ Row wr g 78 .u32 (Z.take o ++ new ++ Z.drop (o + new.length)) ∧ w.grownBy wr (some g)))
    (fun _ iv _ => m - (intOf iv).toNat)
  case atStart => exact ⟨0, 0, [], Nat.zero_le _, rfl, rfl, by decide, by decide, rfl, u32_nil, by simp [val], by rw [row_zero]; exact hR, grownBy_refl _ _⟩
  case round =>
    obtain ⟨k, c, new, hk, rfl, rfl, hc0, hc1, H⟩ := hrel
    by_cases hlt : k < m
    · obtain ⟨hl, hu, hv, hr, hg⟩ := H.out
      obtain ⟨b, off, rfl, hcell⟩ := (hX.keptOff hg (hoff (by omega))) (by omega)
      have hcx := hcell k (by omega)
      have hcz := hr.at (j := o + k) (by omega) (by omega) (by omega)
      have hfz := hr.frozen (o + k)
      have bx := hXu k
      have bz := hU (o + k)
      obtain ⟨bx0, bx1⟩ := bx
      obtain ⟨bz0, bz1⟩ := bz
      clear hl hu hv hr hg hcell
      go_wp2
      refine ⟨⟨k + 1, _, new ++ [(gx Z (o + k) + gx xs k + c) % 4294967296], by omega, by go_num, rfl, by omega, by omega, ?_⟩, by simp [intOf]; omega⟩
      obtain ⟨rfl, hu, hv, hr, hg⟩ := H.out
      refine ⟨by simp, u32_append hu (u32_one (by omega)), ?_, ?_, grownBy_setCell hg _ _⟩
      · rw [val_append, val_one, val_take_succ _ _ (by simp; omega), val_take_succ _ _ (by omega), gx_drop, pw_succ]
        have e := cut_step (pw new.length) (gx Z (o + new.length) + gx xs new.length + c)
        simp only [Int.mul_add] at e
        simp only [Int.mul_assoc] at e ⊢
        omega
      · exact hr.step (by omega) _
    · have hkm : k = m := by omega
      subst hkm
      go_wp2
      go_loopw [5, 9] (fun cv iv wr => ∃ (k : Nat) (c : Int) (new : List Int), k ≤ n ∧ iv = .int .i64 k ∧ cv = .int .u64 c ∧ 0 ≤ c ∧ c ≤ 1 ∧ Hid (new.length = k ∧ U32 new ∧ val new + pw k * c = val ((Z.drop o).take k) + val xs ∧ Row wr g 78 .u32 (Z.take o ++ new ++ Z.drop (o + new.length)) ∧ w.grownBy wr (some g)))
        (fun _ iv _ => n - (intOf iv).toNat)
      case atStart =>
        refine ⟨k, c, new, hm, rfl, rfl, hc0, hc1, ?_⟩
        have h := H.out
        rw [List.take_of_length_le (l := xs) (by omega)] at h
        exact h
      case round =>
        clear H hc0 hc1
        obtain ⟨j, c, new, hj, rfl, rfl, hc0, hc1, H⟩ := hrel
        by_cases hjn : j < n
        · by_cases hcz : c = 0
          · subst hcz
            go_wp2
            go_ret
            obtain ⟨hl, hu, hv, hr, hg⟩ := H.out
            refine ⟨0, new ++ ((Z.drop o).take n).drop new.length, rfl, ?_, u32_append hu (u32_drop (part_u32 hU o n) _), by decide, by decide, ?_, ?_, hg⟩
            · have := part_length Z o n hz
              simp at this ⊢; omega
            · rw [val_append, val_drop_take ((Z.drop o).take n) new.length (by rw [part_length Z o n hz]; omega), List.take_take, Nat.min_eq_left (by omega), hl]
              simp only [Int.mul_zero] at hv ⊢
              omega
            · rw [← row_rest Z new o n hz (by omega)]
              exact hr
          · have hc1' : c = 1 := by omega
            subst hc1'
            obtain ⟨hl, hu, hv, hr, hg⟩ := H.out
            have hcz := hr.at (j := o + j) (by omega) (by omega) (by omega)
            have hfz := hr.frozen (o + j)
            obtain ⟨bz0, bz1⟩ := hU (o + j)
            clear hl hu hv hr hg
            go_wp2
            · have hne : ((gx Z (o + j) + 1) % 4294967296 != 0) = true := by assumption
              obtain ⟨rfl, hu, hv, hr, hg⟩ := H.out
              refine ⟨⟨new.length + 1, 0, new ++ [(gx Z (o + new.length) + 1) % 4294967296], by omega, by go_num, rfl, by decide, by decide, by simp, u32_append hu (u32_one (by omega)), ?_, hr.step (by omega) _, grownBy_setCell hg _ _⟩, by simp [intOf]; omega⟩
              rw [val_append, val_one, val_take_succ _ _ (by simp; omega), gx_drop, pw_succ]
              simp at hne
              rw [show (gx Z (o + new.length) + 1) % 4294967296 = gx Z (o + new.length) + 1 by omega]
              simp only [Int.mul_add, Int.mul_zero, Int.mul_one] at hv ⊢
              omega
            · have hne : ((gx Z (o + j) + 1) % 4294967296 != 0) = false := by assumption
              obtain ⟨rfl, hu, hv, hr, hg⟩ := H.out
              refine ⟨⟨new.length + 1, 1, new ++ [(gx Z (o + new.length) + 1) % 4294967296], by omega, by go_num, rfl, by decide, by decide, by simp, u32_append hu (u32_one (by omega)), ?_, hr.step (by omega) _, grownBy_setCell hg _ _⟩, by simp [intOf]; omega⟩
              rw [val_append, val_one, val_take_succ _ _ (by simp; omega), gx_drop, pw_succ]
              simp at hne
              rw [show gx Z (o + new.length) = 4294967295 by omega]
              simp only [Int.mul_one] at hv ⊢
              omega
        · have hjn' : j = n := by omega
          subst hjn'
          go_wp2
          go_ret
          obtain ⟨hl, hu, hv, hr, hg⟩ := H.out
          exact ⟨c, new, rfl, hl, hu, hc0, hc1, hv, hl ▸ hr, hg⟩
theorem takeFrom_any (g o n cap : Nat) (Z : List Int) (q : Option Addr) (m mc : Nat) (xs : List Int) (w : World)
    (hz : o + n ≤ Z.length) (hcap : cap ≤ 1099511627776) (hn : n ≤ cap) (hR : Row w g 78 .u32 Z) (hU : U32 Z) (hx : xs.length = m) (hm : m ≤ n)
    (hX : Rd w q .u32 xs) (hXu : U32 xs) (hoff : 0 < m → Off g q) :
    Calls Tryz.prog 135 #[.slice (some ⟨g, o, none⟩) n cap, .slice q m mc] w fun e w' => ∃ c new, e = .returned (.int .u32 c) ∧ new.length = n ∧ U32 new ∧ 0 ≤ c ∧ c ≤ 1 ∧
      val new + val xs = val ((Z.drop o).take n) + pw n * c ∧ Row w' g 78 .u32 (Z.take o ++ new ++ Z.drop (o + n)) ∧ w.grownBy w' (some g) := by
  go_enter Tryz.func135, Tryz.ntmps135
  go_wp2
  go_loopw [5, 12] (fun cv iv wr => ∃ (k : Nat) (c : Int) (new : List Int), k ≤ m ∧ iv = .int .i64 k ∧ cv = .int .u64 c ∧ 0 ≤ c ∧ c ≤ 1 ∧ Hid (new.length = k ∧ U32 new ∧ val new + val (xs.take k) = val ((Z.drop o).take k) + pw k * c ∧ Row wr g 78 .u32 (Z.take o ++ new ++ Z.drop (o + new.length)) ∧ w.grownBy wr (some g)))
    (fun _ iv _ => m - (intOf iv).toNat)
  case atStart => exact ⟨0, 0, [], Nat.zero_le _, rfl, rfl, by decide, by decide, rfl, u32_nil, by simp [val], by rw [row_zero]; exact hR, grownBy_refl _ _⟩
  case round =>
    obtain ⟨k, c, new, hk, rfl, rfl, hc0, hc1, H⟩ := hrel
    by_cases hlt : k < m
    · obtain ⟨hl, hu, hv, hr, hg⟩ := H.out
      obtain ⟨b, off, rfl, hcell⟩ := (hX.keptOff hg (hoff (by omega))) (by omega)
      have hcx := hcell k (by omega)
      have hcz := hr.at (j := o + k) (by omega) (by omega) (by omega)
      have hfz := hr.frozen (o + k)
      have bx := hXu k
      have bz := hU (o + k)
      obtain ⟨bx0, bx1⟩ := bx
      obtain ⟨bz0, bz1⟩ := bz
      clear hl hu hv hr hg hcell
      go_wp2
      rw [borrow_hi _ _ _ bz0 bz1 bx0 bx1 hc0 hc1, borrow_lo _ _ _ bz0 bz1 bx0 bx1 hc0 hc1]
      refine ⟨⟨k + 1, _, new ++ [(gx Z (o + k) - gx xs k - c) % 4294967296], by omega, by go_num, rfl, by omega, by omega, ?_⟩, by simp [intOf]; omega⟩
      obtain ⟨rfl, hu, hv, hr, hg⟩ := H.out
      refine ⟨by simp, u32_append hu (u32_one (by omega)), ?_, ?_, grownBy_setCell hg _ _⟩
      · rw [val_append, val_one, val_take_succ xs _ (by omega), val_take_succ _ _ (by simp; omega), gx_drop, pw_succ]
        have e := cut_step (pw new.length) (gx Z (o + new.length) - gx xs new.length - c)
        simp only [Int.mul_sub] at e
        simp only [Int.mul_assoc, Int.mul_neg] at e ⊢
        omega
      · exact hr.step (by omega) _
    · have hkm : k = m := by omega
      subst hkm
      go_wp2
      go_loopw [5, 9] (fun cv iv wr => ∃ (k : Nat) (c : Int) (new : List Int), k ≤ n ∧ iv = .int .i64 k ∧ cv = .int .u64 c ∧ 0 ≤ c ∧ c ≤ 1 ∧ Hid (new.length = k ∧ U32 new ∧ val new + val xs = val ((Z.drop o).take k) + pw k * c ∧ Row wr g 78 .u32 (Z.take o ++ new ++ Z.drop (o + new.length)) ∧ w.grownBy wr (some g)))
        (fun _ iv _ => n - (intOf iv).toNat)
      case atStart =>
        refine ⟨k, c, new, hm, rfl, rfl, hc0, hc1, ?_⟩
        have h := H.out
        rw [List.take_of_length_le (l := xs) (by omega)] at h
        exact h
      case round =>
        clear H hc0 hc1
        obtain ⟨j, c, new, hj, rfl, rfl, hc0, hc1, H⟩ := hrel
        by_cases hjn : j < n
        · by_cases hcz : c = 0
          · subst hcz
            go_wp2
            go_ret
            obtain ⟨hl, hu, hv, hr, hg⟩ := H.out
            refine ⟨0, new ++ ((Z.drop o).take n).drop new.length, rfl, ?_, u32_append hu (u32_drop (part_u32 hU o n) _), by decide, by decide, ?_, ?_, hg⟩
            · have := part_length Z o n hz
              simp at this ⊢; omega
            · rw [val_append, val_drop_take ((Z.drop o).take n) new.length (by rw [part_length Z o n hz]; omega), List.take_take, Nat.min_eq_left (by omega), hl]
              simp only [Int.mul_zero] at hv ⊢
              omega
            · rw [← row_rest Z new o n hz (by omega)]
              exact hr
          · have hc1' : c = 1 := by omega
            subst hc1'
            obtain ⟨hl, hu, hv, hr, hg⟩ := H.out
            have hcz := hr.at (j := o + j) (by omega) (by omega) (by omega)
            have hfz := hr.frozen (o + j)
            obtain ⟨bz0, bz1⟩ := hU (o + j)
            clear hl hu hv hr hg
            go_wp2
            · have hne : (gx Z (o + j) != 0) = true := by assumption
              obtain ⟨rfl, hu, hv, hr, hg⟩ := H.out
              refine ⟨⟨new.length + 1, 0, new ++ [(gx Z (o + new.length) - 1) % 4294967296], by omega, by go_num, rfl, by decide, by decide, by simp, u32_append hu (u32_one (by omega)), ?_, hr.step (by omega) _, grownBy_setCell hg _ _⟩, by simp [intOf]; omega⟩
              rw [val_append, val_one, val_take_succ _ _ (by simp; omega), gx_drop, pw_succ]
              simp at hne
              rw [show (gx Z (o + new.length) - 1) % 4294967296 = gx Z (o + new.length) - 1 by omega]
              simp only [Int.mul_sub, Int.mul_zero, Int.mul_one] at hv ⊢
              omega
            · have hne : (gx Z (o + j) != 0) = false := by assumption
              obtain ⟨rfl, hu, hv, hr, hg⟩ := H.out
              refine ⟨⟨new.length + 1, 1, new ++ [(gx Z (o + new.length) - 1) % 4294967296], by omega, by go_num, rfl, by decide, by decide, by simp, u32_append hu (u32_one (by omega)), ?_, hr.step (by omega) _, grownBy_setCell hg _ _⟩, by simp [intOf]; omega⟩
              rw [val_append, val_one, val_take_succ _ _ (by simp; omega), gx_drop, pw_succ]
              simp at hne
              rw [show gx Z (o + new.length) = 0 by omega]
              simp only [Int.mul_one, Int.mul_zero] at hv ⊢
              omega
        · have hjn' : j = n := by omega
          subst hjn'
          go_wp2
          go_ret
          obtain ⟨hl, hu, hv, hr, hg⟩ := H.out
          exact ⟨c, new, rfl, hl, hu, hc0, hc1, hv, hl ▸ hr, hg⟩
theorem info_u32 : (Tryz.prog.info? 78).map (fun i => (i.zero, i.size, i.bytes)) = some (some (.int .u32 0), 1, 4) := by kernel_rfl
theorem mk_u32 (n : Nat) (h : n ≤ 1099511627776) (w : World) : (Instr.makeSlice 45 (.int .i64 n) (.int .i64 n)).run Tryz.prog w =
    .ok (.slice (some ⟨w.heap.size, 0, none⟩) n n) (w.alloc (.cells (ca .u32 (zeros n)) 78)) := by
  have hi := info_u32
  cases hq : Tryz.prog.info? 78 with
  | none => rw [hq] at hi; cases hi
  | some i =>
    rw [hq] at hi
    simp only [Option.map_some, Option.some.injEq, Prod.mk.injEq] at hi
    obtain ⟨h1, h2, h3⟩ := hi
    have hr := run_make (P := Tryz.prog) w 45 78 i (.int .u32 0) Tryz.underlying45 hq h1 .i64 .i64 n n (by omega) (Int.le_refl _) (by rw [h3]; omega) (by omega)
    rw [Int.toNat_natCast, h2] at hr
    rw [hr]
    exact congrArg (fun c => Result.ok (Value.slice (some ⟨w.heap.size, 0, none⟩) n n) (w.alloc (.cells c 78))) (made_zeros .u32 n)
theorem copy_u32 (ty : TypeId) (w : World) (q : Option Addr) (m mc n : Nat) (xs : List Int) (hX : Rd w q .u32 xs) (hl : xs.length = m) (hmn : m ≤ n) :
    (Builtin.copy_ #[45, 45] ty #[.slice (some ⟨w.heap.size, 0, none⟩) n n, .slice q m mc]).run Tryz.prog (w.alloc (.cells (ca .u32 (zeros n)) 78)) =
      .ok (.int .i64 m) (w.alloc (.cells (ca .u32 (xs ++ zeros (n - m))) 78)) := by
  by_cases h0 : m = 0
  · subst h0
    have : xs = [] := List.eq_nil_of_length_eq_zero hl
    subst this
    exact run_copy_none (P := Tryz.prog) _ 45 45 ty 78 _ _ n n 0 mc Tryz.underlying45 (by kernel_rfl) (by simp)
  · obtain ⟨b, off, rfl, hc⟩ := (hX.alloc (.cells (ca .u32 (zeros n)) 78)) (by omega)
    rw [run_copy_row Tryz.prog _ 45 45 ty 78 w.heap.size 0 n n ⟨b, off, none⟩ m mc _ 78 (xs.map (Value.int .u32)) Tryz.underlying45 (by kernel_rfl) (heap_alloc_new w _) (by simp only [List.length_map, hl]; exact (Nat.min_eq_left hmn).symm) (Rd.src hc) (by simp [size_ca, length_zeros]; omega) (oneCell_ca _ _)]
    rw [World.setRow_alloc_new]
    congr 2
    · simp [hl]
    · simp [ca, zeros, hl]
theorem clone_any (q : Option Addr) (m mc : Nat) (xs : List Int) (w : World) (hl : xs.length = m) (hm : m ≤ 1099511627776) (hX : Rd w q .u32 xs) :
    Calls Tryz.prog 114 #[.slice q m mc] w fun e w' => e = .returned (.slice (some ⟨w.heap.size, 0, none⟩) m m) ∧ w.alloc (.cells (ca .u32 xs) 78) = w' := by
  have hmk := mk_u32 m hm
  have hcp := fun ty => copy_u32 ty w q m mc m xs hX hl (Nat.le_refl m)
  rw [Nat.sub_self, show xs ++ zeros 0 = xs by simp [zeros]] at hcp
  go_enter Tryz.func114, Tryz.ntmps114
  go_wp2
  go_ret
  exact ⟨rfl, rfl⟩
theorem clip_any (q : Option Addr) (m mc : Nat) (w : World) (hm : m ≤ mc) (hc : mc ≤ maxLen) :
    Calls Tryz.prog 124 #[.slice q m mc] w fun e w' => e = .returned (.slice q m m) ∧ w = w' := by
  unfold maxLen at hc
  go_enter Tryz.func124, Tryz.ntmps124
  go_wp2
  go_ret
  exact ⟨rfl, rfl⟩
def nsg (neg : Bool) (xs : List Int) : Bool := if tlen xs = 0 then false else neg
def nad (q : Option Addr) (xs : List Int) : Option Addr := if tlen xs = 0 then none else q
theorem number_any (neg : Bool) (q : Option Addr) (m mc : Nat) (xs : List Int) (w : World) (hl : xs.length = m) (hm : m ≤ mc) (hc : mc ≤ maxLen) (hX : Rd w q .u32 xs) :
    Calls Tryz.prog 89 #[.bool neg, .slice q m mc] w fun e w' => e = .returned (.agg #[.bool (nsg neg xs), .slice (nad q xs) (tlen xs) (tlen xs)]) ∧ Below w.heap.size w w' := by
  have ht := tlen_le xs
  by_cases h0 : tlen xs = 0
  · rw [nsg, nad, if_pos h0, if_pos h0, h0]
    have hc' := hc
    unfold maxLen at hc'
    go_enter Tryz.func89, Tryz.ntmps89
    go_wp2_with (go_at_call 91; refine (trim_any q m mc xs _ hl hm hc (hX.alloc _)).mono ?_; rintro e w' ⟨rfl, rfl⟩)
    exact bodyPost_ret (v := .agg #[.bool false, .slice none 0 0]) (by simp [results, Tryz.results89, go_sem]) rfl ⟨rfl, (Below.refl _ _).alloc (Nat.le_refl _) _⟩
  · rw [nsg, nad, if_neg h0, if_neg h0]
    have hc' := hc
    unfold maxLen at hc'
    have h1 : (((tlen xs : Nat) : Int) == 0) = false := beq_eq_false_iff_ne.2 (by omega)
    go_enter Tryz.func89, Tryz.ntmps89
    go_wp2_with (first
      | (go_at_call 91; refine (trim_any q m mc xs _ hl hm hc (hX.alloc _)).mono ?_; rintro e w' ⟨rfl, rfl⟩)
      | (go_at_call 124; refine (clip_any q (tlen xs) mc _ (by omega) hc).mono ?_; rintro e w' ⟨rfl, rfl⟩))
    exact bodyPost_ret (v := .agg #[.bool neg, .slice q (tlen xs) (tlen xs)]) (by simp [results, Tryz.results89, go_sem]) rfl ⟨rfl, (Below.refl _ _).alloc (Nat.le_refl _) _⟩
theorem words_any (m : Int) (w : World) (h0 : 0 ≤ m) (h1 : m < 18446744073709551616) :
    Calls Tryz.prog 95 #[.int .u64 m] w fun e w' => e = .returned (.slice (some ⟨w.heap.size, 0, none⟩) 2 2) ∧ w.alloc (.cells (ca .u32 [m % 4294967296, m / 4294967296]) 78) = w' := by
  go_enter Tryz.func95, Tryz.ntmps95
  go_wp2
  go_ret
  exact ⟨rfl, rfl⟩
end Go.Proofs.YtkjpeehbhmcojaaGreatDoor
