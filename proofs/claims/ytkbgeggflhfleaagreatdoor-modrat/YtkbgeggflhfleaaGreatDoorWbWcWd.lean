/-
  limbs.takeFrom.
-/
import Derived.Test.YtkbgeggflhfleaaGreatDoorProg
import Derived.Test.YtkbgeggflhfleaaGreatDoorMmWa
namespace Go.Proofs.YtkbgeggflhfleaaGreatDoor
open Go.RowKit
set_option linter.unusedVariables false
set_option linter.unusedSimpArgs false
set_option maxHeartbeats 8000000
theorem takeFrom_any (g o n cap : Nat) (Z : List Int) (q : Option Addr) (m mc : Nat) (xs : List Int) (w : World)
    (hz : o + n ≤ Z.length) (hcap : cap ≤ 1099511627776) (hn : n ≤ cap) (hR : Row w g 134 .u32 Z) (hU : U32 Z) (hx : xs.length = m) (hm : m ≤ n)
    (hX : Rd w q .u32 xs) (hXu : U32 xs) (hoff : 0 < m → Off g q) :
    Calls Tryz.prog 215 #[.slice (some ⟨g, o, none⟩) n cap, .slice q m mc] w fun e w' => ∃ c new, e = .returned (.int .u32 c) ∧ new.length = n ∧ U32 new ∧ 0 ≤ c ∧ c ≤ 1 ∧
      val new + val xs = val ((Z.drop o).take n) + pw n * c ∧ Row w' g 134 .u32 (Z.take o ++ new ++ Z.drop (o + n)) ∧ w.grownBy w' (some g) := by
  go_enter Tryz.func215, Tryz.ntmps215
  go_wp2
  go_loopw [5, 12] (fun cv iv wr => ∃ (k : Nat) (c : Int) (new : List Int), k ≤ m ∧ iv = .int .i64 k ∧ cv = .int .u64 c ∧ 0 ≤ c ∧ c ≤ 1 ∧ Hid (new.length = k ∧ U32 new ∧ val new + val (xs.take k) = val ((Z.drop o).take k) + pw k * c ∧ Row wr g 134 .u32 (Z.take o ++ new ++ Z.drop (o + new.length)) ∧ w.grownBy wr (some g)))
    (fun _ iv _ => m - (intOf iv).toNat)
  case atStart => exact ⟨0, 0, [], Nat.zero_le _, rfl, rfl, by decide, by decide, rfl, u32_nil, by simp [val], by rw [row_zero]; exact hR, grownBy_refl _ _⟩
  case round =>
    obtain ⟨k, c, new, hk, rfl, rfl, hc0, hc1, H⟩ := hrel
    by_cases hlt : k < m
    · obtain ⟨hl, hu, hv, hr, hg⟩ := H.out
      obtain ⟨b, off, rfl, hcell⟩ := (hX.keptOff hg (hoff (by omega))) (by omega)
      have hcx := hcell k (by omega)
      have hcz := hr.at (j := o + k) (by omega) (by omega) (by omega)
      have hfz := hr.frozen (o + k)
      have bx := hXu k
      have bz := hU (o + k)
      obtain ⟨bx0, bx1⟩ := bx
      obtain ⟨bz0, bz1⟩ := bz
      clear hl hu hv hr hg hcell
      go_wp2
      rw [borrow_hi _ _ _ bz0 bz1 bx0 bx1 hc0 hc1, borrow_lo _ _ _ bz0 bz1 bx0 bx1 hc0 hc1]
      refine ⟨⟨k + 1, _, new ++ [(gx Z (o + k) - gx xs k - c) % 4294967296], by omega, by go_num, rfl, by omega, by omega, ?_⟩, by simp [intOf]; omega⟩
      obtain ⟨rfl, hu, hv, hr, hg⟩ := H.out
      refine ⟨by simp, u32_append hu (u32_one (by omega)), ?_, ?_, grownBy_setCell hg _ _⟩
      · rw [val_append, val_one, val_take_succ xs _ (by omega), val_take_succ _ _ (by simp; omega), gx_drop, pw_succ]
        have e := cut_step (pw new.length) (gx Z (o + new.length) - gx xs new.length - c)
        simp only [Int.mul_sub] at e
        simp only [Int.mul_assoc, Int.mul_neg] at e ⊢
        omega
      · exact hr.step (by omega) _
    · have hkm : k = m := by omega
      subst hkm
      go_wp2
      go_loopw [5, 9] (fun cv iv wr => ∃ (k : Nat) (c : Int) (new : List Int), k ≤ n ∧ iv = .int .i64 k ∧ cv = .int .u64 c ∧ 0 ≤ c ∧ c ≤ 1 ∧ Hid (new.length = k ∧ U32 new ∧ val new + val xs = val ((Z.drop o).take k) + pw k * c ∧ Row wr g 134 .u32 (Z.take o ++ new ++ Z.drop (o + new.length)) ∧ w.grownBy wr (some g)))
        (fun _ iv _ => n - (intOf iv).toNat)
      case atStart =>
        refine ⟨k, c, new, hm, rfl, rfl, hc0, hc1, ?_⟩
        have h := H.out
        rw [List.take_of_length_le (l := xs) (by omega)] at h
        exact h
      case round =>
        clear H hc0 hc1
        obtain ⟨j, c, new, hj, rfl, rfl, hc0, hc1, H⟩ := hrel
        by_cases hjn : j < n
        · by_cases hcz : c = 0
          · subst hcz
            go_wp2
            go_ret
            obtain ⟨hl, hu, hv, hr, hg⟩ := H.out
            refine ⟨0, new ++ ((Z.drop o).take n).drop new.length, rfl, ?_, u32_append hu (u32_drop (part_u32 hU o n) _), by decide, by decide, ?_, ?_, hg⟩
            · have := part_length Z o n hz
              simp at this ⊢; omega
            · rw [val_append, val_drop_take ((Z.drop o).take n) new.length (by rw [part_length Z o n hz]; omega), List.take_take, Nat.min_eq_left (by omega), hl]
              simp only [Int.mul_zero] at hv ⊢
              omega
            · rw [← row_rest Z new o n hz (by omega)]
              exact hr
          · have hc1' : c = 1 := by omega
            subst hc1'
            obtain ⟨hl, hu, hv, hr, hg⟩ := H.out
            have hcz := hr.at (j := o + j) (by omega) (by omega) (by omega)
            have hfz := hr.frozen (o + j)
            obtain ⟨bz0, bz1⟩ := hU (o + j)
            clear hl hu hv hr hg
            go_wp2
            · have hne : (gx Z (o + j) != 0) = true := by assumption
              obtain ⟨rfl, hu, hv, hr, hg⟩ := H.out
              refine ⟨⟨new.length + 1, 0, new ++ [(gx Z (o + new.length) - 1) % 4294967296], by omega, by go_num, rfl, by decide, by decide, by simp, u32_append hu (u32_one (by omega)), ?_, hr.step (by omega) _, grownBy_setCell hg _ _⟩, by simp [intOf]; omega⟩
              rw [val_append, val_one, val_take_succ _ _ (by simp; omega), gx_drop, pw_succ]
              simp at hne
              rw [show (gx Z (o + new.length) - 1) % 4294967296 = gx Z (o + new.length) - 1 by omega]
              simp only [Int.mul_sub, Int.mul_zero, Int.mul_one] at hv ⊢
              omega
            · have hne : (gx Z (o + j) != 0) = false := by assumption
              obtain ⟨rfl, hu, hv, hr, hg⟩ := H.out
              refine ⟨⟨new.length + 1, 1, new ++ [(gx Z (o + new.length) - 1) % 4294967296], by omega, by go_num, rfl, by decide, by decide, by simp, u32_append hu (u32_one (by omega)), ?_, hr.step (by omega) _, grownBy_setCell hg _ _⟩, by simp [intOf]; omega⟩
              rw [val_append, val_one, val_take_succ _ _ (by simp; omega), gx_drop, pw_succ]
              simp at hne
              rw [show gx Z (o + new.length) = 0 by omega]
              simp only [Int.mul_one, Int.mul_zero] at hv ⊢
              omega
        · have hjn' : j = n := by omega
          subst hjn'
          go_wp2
          go_ret
          obtain ⟨hl, hu, hv, hr, hg⟩ := H.out
          exact ⟨c, new, rfl, hl, hu, hc0, hc1, hv, hl ▸ hr, hg⟩
theorem info_u32 : (Tryz.prog.info? 134).map (fun i => (i.zero, i.size, i.bytes)) = some (some (.int .u32 0), 1, 4) := by kernel_rfl
theorem mk_u32 (n : Nat) (h : n ≤ 1099511627776) (w : World) : (Instr.makeSlice 28 (.int .i64 n) (.int .i64 n)).run Tryz.prog w =
    .ok (.slice (some ⟨w.heap.size, 0, none⟩) n n) (w.alloc (.cells (ca .u32 (zeros n)) 134)) := by
  have hi := info_u32
  cases hq : Tryz.prog.info? 134 with
  | none => rw [hq] at hi; cases hi
  | some i =>
    rw [hq] at hi
    simp only [Option.map_some, Option.some.injEq, Prod.mk.injEq] at hi
    obtain ⟨h1, h2, h3⟩ := hi
    have hr := run_make (P := Tryz.prog) w 28 134 i (.int .u32 0) Tryz.underlying28 hq h1 .i64 .i64 n n (by omega) (Int.le_refl _) (by rw [h3]; omega) (by omega)
    rw [Int.toNat_natCast, h2] at hr
    rw [hr]
    exact congrArg (fun c => Result.ok (Value.slice (some ⟨w.heap.size, 0, none⟩) n n) (w.alloc (.cells c 134))) (made_zeros .u32 n)
theorem copy_u32 (ty : TypeId) (w : World) (q : Option Addr) (m mc n : Nat) (xs : List Int) (hX : Rd w q .u32 xs) (hl : xs.length = m) (hmn : m ≤ n) :
    (Builtin.copy_ #[28, 28] ty #[.slice (some ⟨w.heap.size, 0, none⟩) n n, .slice q m mc]).run Tryz.prog (w.alloc (.cells (ca .u32 (zeros n)) 134)) =
      .ok (.int .i64 m) (w.alloc (.cells (ca .u32 (xs ++ zeros (n - m))) 134)) := by
  by_cases h0 : m = 0
  · subst h0
    have : xs = [] := List.eq_nil_of_length_eq_zero hl
    subst this
    exact run_copy_none (P := Tryz.prog) _ 28 28 ty 134 _ _ n n 0 mc Tryz.underlying28 (by kernel_rfl) (by simp)
  · obtain ⟨b, off, rfl, hc⟩ := (hX.alloc (.cells (ca .u32 (zeros n)) 134)) (by omega)
    rw [run_copy_row Tryz.prog _ 28 28 ty 134 w.heap.size 0 n n ⟨b, off, none⟩ m mc _ 134 (xs.map (Value.int .u32)) Tryz.underlying28 (by kernel_rfl) (heap_alloc_new w _) (by simp only [List.length_map, hl]; exact (Nat.min_eq_left hmn).symm) (Rd.src hc) (by simp [size_ca, length_zeros]; omega) (oneCell_ca _ _)]
    rw [World.setRow_alloc_new]
    congr 2
    · simp [hl]
    · simp [ca, zeros, hl]
theorem clone_any (q : Option Addr) (m mc : Nat) (xs : List Int) (w : World) (hl : xs.length = m) (hm : m ≤ 1099511627776) (hX : Rd w q .u32 xs) :
    Calls Tryz.prog 168 #[.slice q m mc] w fun e w' => e = .returned (.slice (some ⟨w.heap.size, 0, none⟩) m m) ∧ w.alloc (.cells (ca .u32 xs) 134) = w' := by
  have hmk := mk_u32 m hm
  have hcp := fun ty => copy_u32 ty w q m mc m xs hX hl (Nat.le_refl m)
  rw [Nat.sub_self, show xs ++ zeros 0 = xs by simp [zeros]] at hcp
  go_enter Tryz.func168, Tryz.ntmps168
  go_wp2
  go_ret
  exact ⟨rfl, rfl⟩
theorem clip_any (q : Option Addr) (m mc : Nat) (w : World) (hm : m ≤ mc) (hc : mc ≤ maxLen) :
    Calls Tryz.prog 117 #[.slice q m mc] w fun e w' => e = .returned (.slice q m m) ∧ w = w' := by
  unfold maxLen at hc
  go_enter Tryz.func117, Tryz.ntmps117
  go_wp2
  go_ret
  exact ⟨rfl, rfl⟩
def nsg (neg : Bool) (xs : List Int) : Bool := if tlen xs = 0 then false else neg
def nad (q : Option Addr) (xs : List Int) : Option Addr := if tlen xs = 0 then none else q
theorem number_any (neg : Bool) (q : Option Addr) (m mc : Nat) (xs : List Int) (w : World) (hl : xs.length = m) (hm : m ≤ mc) (hc : mc ≤ maxLen) (hX : Rd w q .u32 xs) :
    Calls Tryz.prog 65 #[.bool neg, .slice q m mc] w fun e w' => e = .returned (.agg #[.bool (nsg neg xs), .slice (nad q xs) (tlen xs) (tlen xs)]) ∧ Below w.heap.size w w' := by
  have ht := tlen_le xs
  by_cases h0 : tlen xs = 0
  · rw [nsg, nad, if_pos h0, if_pos h0, h0]
    have hc' := hc
    unfold maxLen at hc'
    go_enter Tryz.func65, Tryz.ntmps65
    go_wp2_with (go_at_call 116; refine (trim_any q m mc xs _ hl hm hc (hX.alloc _)).mono ?_; rintro e w' ⟨rfl, rfl⟩)
    exact bodyPost_ret (v := .agg #[.bool false, .slice none 0 0]) (by simp [results, Tryz.results65, go_sem]) rfl ⟨rfl, (Below.refl _ _).alloc (Nat.le_refl _) _⟩
  · rw [nsg, nad, if_neg h0, if_neg h0]
    have hc' := hc
    unfold maxLen at hc'
    have h1 : (((tlen xs : Nat) : Int) == 0) = false := beq_eq_false_iff_ne.2 (by omega)
    go_enter Tryz.func65, Tryz.ntmps65
    go_wp2_with (first
      | (go_at_call 116; refine (trim_any q m mc xs _ hl hm hc (hX.alloc _)).mono ?_; rintro e w' ⟨rfl, rfl⟩)
      | (go_at_call 117; refine (clip_any q (tlen xs) mc _ (by omega) hc).mono ?_; rintro e w' ⟨rfl, rfl⟩))
    exact bodyPost_ret (v := .agg #[.bool neg, .slice q (tlen xs) (tlen xs)]) (by simp [results, Tryz.results65, go_sem]) rfl ⟨rfl, (Below.refl _ _).alloc (Nat.le_refl _) _⟩
theorem words_any (m : Int) (w : World) (h0 : 0 ≤ m) (h1 : m < 18446744073709551616) :
    Calls Tryz.prog 66 #[.int .u64 m] w fun e w' => e = .returned (.slice (some ⟨w.heap.size, 0, none⟩) 2 2) ∧ w.alloc (.cells (ca .u32 [m % 4294967296, m / 4294967296]) 134) = w' := by
  go_enter Tryz.func66, Tryz.ntmps66
  go_wp2
  go_ret
  exact ⟨rfl, rfl⟩
theorem sum_top (xs ys new : List Int) (n m M : Nat) (c : Int) (hn : xs.length = n) (hm : ys.length = m) (h1 : n < M) (h2 : m < M) (hX : U32 xs) (hY : U32 ys) (hU : U32 new) (hl : new.length = M) (hc0 : 0 ≤ c) (hc1 : c ≤ 1)
    (h : val new + pw M * c = val xs + val ys) : val new = val xs + val ys := by
  rcases Int.lt_or_le 0 c with hc | hc
  · have e : c = 1 := by omega
    subst e
    have a1 := val_lt hX
    have a2 := val_lt hY
    have a3 := val_nonneg hU
    have a4 : pw xs.length ≤ pw (M - 1) := pw_mono (by omega)
    have a5 : pw ys.length ≤ pw (M - 1) := pw_mono (by omega)
    have a6 := pw_succ (M - 1)
    rw [show M - 1 + 1 = M by omega] at a6
    have a7 := pw_pos (M - 1)
    omega
  · have e : c = 0 := by omega
    subst e
    omega
theorem sum_any (p q : Option Addr) (n nc m mc : Nat) (xs ys : List Int) (w : World) (hn : xs.length = n) (hm : ys.length = m) (hnb : n ≤ 1000000000) (hmb : m ≤ 1000000000)
    (hX : Rd w p .u32 xs) (hXu : U32 xs) (hY : Rd w q .u32 ys) (hYu : U32 ys) :
    Calls Tryz.prog 171 #[.slice p n nc, .slice q m mc] w fun e w' => ∃ M zs, e = .returned (.slice (some ⟨w.heap.size, 0, none⟩) M M) ∧ n < M ∧ m < M ∧ M ≤ n + m + 1 ∧ zs.length = M ∧ U32 zs ∧ val zs = val xs + val ys ∧
      Row w' w.heap.size 134 .u32 zs ∧ Below w.heap.size w w' := by
  by_cases hlt : n < m
  · have hl' : (n : Int) < m := by omega
    have hmk := mk_u32 (m + 1) (by omega)
    have ec : ((m + 1 : Nat) : Int) = (m : Int) + 1 := by omega
    rw [ec] at hmk
    clear ec
    have hcp := fun ty => copy_u32 ty w p n nc (m + 1) xs hX hn (by omega)
    have hlen : (xs ++ zeros (m + 1 - n)).length = m + 1 := by simp [zeros]; omega
    go_enter Tryz.func171, Tryz.ntmps171
    go_wp2_with fail
    refine (addTo_any w.heap.size 0 (m + 1) (m + 1) (xs ++ zeros (m + 1 - n)) q m mc ys _ (by omega) (by omega) (Nat.le_refl _) (Row.new w _ _ _) (u32_append hXu (u32_zeros _)) hm (by omega) (hY.alloc _) hYu (fun h => hY.off (Nat.le_refl _) (by omega))).mono ?_
    rintro e w' ⟨c, new, rfl, h1, h2, h3, h4, h5, h6, h7⟩
    go_wp2
    go_ret
    have hs := sum_top xs ys new n m (m + 1) c hn hm (by omega) (by omega) hXu hYu h2 h1 h3 h4 (by
      rw [h5, List.drop_zero, List.take_of_length_le (by omega), val_append, val_zero, Int.mul_zero, Int.add_zero])
    refine ⟨m + 1, new, rfl, by omega, by omega, by omega, h1, h2, hs, ?_, ?_⟩
    · rw [List.take_zero, List.nil_append, Nat.zero_add, List.drop_of_length_le (by omega), List.append_nil] at h6
      exact h6
    · exact below_grown ((Below.refl _ _).alloc (Nat.le_refl _) _) h7 (by simp) (Nat.le_refl _)
  · have hl' : ¬ (n : Int) < m := by omega
    have hmk := mk_u32 (n + 1) (by omega)
    have ec : ((n + 1 : Nat) : Int) = (n : Int) + 1 := by omega
    rw [ec] at hmk
    clear ec
    have hcp := fun ty => copy_u32 ty w p n nc (n + 1) xs hX hn (by omega)
    have hlen : (xs ++ zeros 1).length = n + 1 := by simp [zeros]; omega
    go_enter Tryz.func171, Tryz.ntmps171
    go_wp2_with fail
    refine (addTo_any w.heap.size 0 (n + 1) (n + 1) (xs ++ zeros 1) q m mc ys _ (by omega) (by omega) (Nat.le_refl _) (Row.new w _ _ _) (u32_append hXu (u32_zeros _)) hm (by omega) (hY.alloc _) hYu (fun h => hY.off (Nat.le_refl _) (by omega))).mono ?_
    rintro e w' ⟨c, new, rfl, h1, h2, h3, h4, h5, h6, h7⟩
    go_wp2
    go_ret
    have hs := sum_top xs ys new n m (n + 1) c hn hm (by omega) (by omega) hXu hYu h2 h1 h3 h4 (by
      rw [h5, List.drop_zero, List.take_of_length_le (by omega), val_append, val_zero, Int.mul_zero, Int.add_zero])
    refine ⟨n + 1, new, rfl, by omega, by omega, by omega, h1, h2, hs, ?_, ?_⟩
    · rw [List.take_zero, List.nil_append, Nat.zero_add, List.drop_of_length_le (by omega), List.append_nil] at h6
      exact h6
    · exact below_grown ((Below.refl _ _).alloc (Nat.le_refl _) _) h7 (by simp) (Nat.le_refl _)
theorem difference_any (p q : Option Addr) (n nc m mc : Nat) (xs ys : List Int) (w : World) (hn : xs.length = n) (hm : ys.length = m) (hmc : m ≤ mc) (hmc' : mc ≤ maxLen) (hnb : n ≤ 1000000000)
    (hX : Rd w p .u32 xs) (hXu : U32 xs) (hY : Rd w q .u32 ys) (hYu : U32 ys) (hle : val ys ≤ val xs) :
    Calls Tryz.prog 172 #[.slice p n nc, .slice q m mc] w fun e w' => ∃ zs, e = .returned (.slice (some ⟨w.heap.size, 0, none⟩) n n) ∧ zs.length = n ∧ U32 zs ∧ val zs = val xs - val ys ∧
      Row w' w.heap.size 134 .u32 zs ∧ Below w.heap.size w w' := by
  have ht : tlen ys ≤ n := by
    rcases Nat.lt_or_ge n (tlen ys) with h | h
    · have h1 := val_lt_len hXu hYu (Nat.lt_of_le_of_lt (hn ▸ tlen_le xs) h)
      omega
    · exact h
  go_enter Tryz.func172, Tryz.ntmps172
  go_wp2_with fail
  refine (clone_any p n nc xs _ hn (by omega) hX).mono ?_
  rintro e w' ⟨rfl, rfl⟩
  go_wp2_with fail
  refine (trim_any q m mc ys _ hm hmc hmc' (hY.alloc _)).mono ?_
  rintro e w' ⟨rfl, rfl⟩
  go_wp2_with fail
  refine (takeFrom_any w.heap.size 0 n n xs q (tlen ys) mc (tr ys) _ (by omega) (by omega) (Nat.le_refl _) (Row.new w _ _ _) hXu (length_tr ys) ht (hY.tr.alloc _) (u32_tr hYu) (fun h => hY.tr.off (Nat.le_refl _) (by rw [length_tr]; exact h))).mono ?_
  rintro e w' ⟨c, new, rfl, h1, h2, h3, h4, h5, h6, h7⟩
  go_wp2
  go_ret
  rw [List.drop_zero, List.take_of_length_le (by omega), val_tr] at h5
  have hc : c = 0 := by
    rcases Int.lt_or_le 0 c with hc | hc
    · have e : c = 1 := by omega
      subst e
      have hv := val_lt h2
      rw [h1] at hv
      omega
    · omega
  subst hc
  refine ⟨new, rfl, h1, h2, by simp only [Int.mul_zero] at h5; omega, ?_, ?_⟩
  · rw [List.take_zero, List.nil_append, Nat.zero_add, List.drop_of_length_le (by omega), List.append_nil] at h6
    exact h6
  · exact below_grown ((Below.refl _ _).alloc (Nat.le_refl _) _) h7 (by simp) (Nat.le_refl _)
theorem compareInt_any (a b : Int) (w : World) : Calls Tryz.prog 201 #[.int .i64 a, .int .i64 b] w fun e w' => e = .returned (.int .i64 (icmp a b)) ∧ w = w' := by
  rcases Int.lt_trichotomy a b with h | h | h
  · rw [icmp_lt h]
    go_enter Tryz.func201, Tryz.ntmps201
    go_wp2
    go_ret
    exact ⟨rfl, rfl⟩
  · subst h
    rw [icmp_eq]
    go_enter Tryz.func201, Tryz.ntmps201
    go_wp2
    go_ret
    exact ⟨rfl, rfl⟩
  · rw [icmp_gt h]
    have h' : ¬ a < b := by omega
    go_enter Tryz.func201, Tryz.ntmps201
    go_wp2
    go_ret
    exact ⟨rfl, rfl⟩
theorem compareLimb_any (a b : Int) (w : World) : Calls Tryz.prog 221 #[.int .u32 a, .int .u32 b] w fun e w' => e = .returned (.int .i64 (icmp a b)) ∧ w = w' := by
  rcases Int.lt_trichotomy a b with h | h | h
  · rw [icmp_lt h]
    go_enter Tryz.func221, Tryz.ntmps221
    go_wp2
    go_ret
    exact ⟨rfl, rfl⟩
  · subst h
    rw [icmp_eq]
    go_enter Tryz.func221, Tryz.ntmps221
    go_wp2
    go_ret
    exact ⟨rfl, rfl⟩
  · rw [icmp_gt h]
    have h' : ¬ a < b := by omega
    go_enter Tryz.func221, Tryz.ntmps221
    go_wp2
    go_ret
    exact ⟨rfl, rfl⟩
end Go.Proofs.YtkbgeggflhfleaaGreatDoor
