/-
  math/bits.Len32, off the shelf.
-/
import Derived.Test.YtfnkomoickanfaaGreatDoorProg
import Derived.Shelf.Small.Bits
import Derived.Test.YtfnkomoickanfaaGreatDoorWdWeNi
import Derived.Test.YtfnkomoickanfaaGreatDoorCvNjUbUcUdOwRaWmBeRd
import Derived.StillTailTactics
namespace Go.Proofs.YtfnkomoickanfaaGreatDoor
open Go.Shelf
set_option maxHeartbeats 8000000
def renLen32 : Go.Shelf.Ren := ⟨fun | 128 => 162 | n => n, fun | 3 => 3 | 4 => 4 | 5 => 5 | 9 => 9 | 46 => 163 | 51 => 132 | n => n, fun n => n⟩
theorem laysLen32 : Lays.n128 Tryz.prog renLen32 :=
  { mixed := by kernel_rfl
    f128 := by kernel_rfl
    t3 := by kernel_rfl
    a3 := fun _ => by kernel_rfl
    z3 := fun _ => by kernel_rfl
    v3 := fun _ => by kernel_rfl
    t4 := by kernel_rfl
    a4 := fun _ => by kernel_rfl
    z4 := fun _ => by kernel_rfl
    v4 := fun _ => by kernel_rfl
    t5 := by kernel_rfl
    a5 := fun _ => by kernel_rfl
    z5 := fun _ => by kernel_rfl
    v5 := fun _ => by kernel_rfl
    t9 := by kernel_rfl
    a9 := fun _ => by kernel_rfl
    z9 := fun _ => by kernel_rfl
    v9 := fun _ => by kernel_rfl
    t46 := by kernel_rfl
    a46 := fun _ => by kernel_rfl
    z46 := fun _ => by kernel_rfl
    v46 := fun _ => by kernel_rfl
    t51 := by kernel_rfl
    a51 := fun _ => by kernel_rfl
    z51 := fun _ => by kernel_rfl
    v51 := fun _ => by kernel_rfl }
theorem Len32_any (x : Int) (w : World) (h0 : 0 ≤ x) (h1 : x ≤ 4294967295) :
    Calls Tryz.prog 162 #[.int .u32 x] w fun e w' => e = .returned (.int .i64 (Lib.bitLen x.toNat)) ∧ w' = w := Any.bits_Len32 laysLen32 x w h0 h1
open Go.RowKit
set_option linter.unusedVariables false
set_option linter.unusedSimpArgs false
def nbits (xs : List Int) : Int := if tlen xs = 0 then 0 else 32 * ((tlen xs : Int) - 1) + (Lib.bitLen (gx xs (tlen xs - 1)).toNat : Int)
theorem bitLenAux_le (f x : Nat) : Lib.bitLenAux f x ≤ f := by
  induction f generalizing x with
  | zero => simp [Lib.bitLenAux]
  | succ f ih => simp only [Lib.bitLenAux]; split <;> (have := ih (x / 2); omega)
theorem Bits_any (s : Bool) (p : Option Addr) (n nc : Nat) (xs : List Int) (w : World) (hA : AI w p n nc xs) :
    Calls Tryz.prog 161 #[.agg #[.bool s, .slice p n nc]] w fun e w' => e = .returned (.int .i64 (nbits xs)) ∧ Below w.heap.size w w' := by
  have tx := tlen_le xs
  have lx := hA.len
  have hs := hA.sml
  by_cases h0 : tlen xs = 0
  · rw [nbits, if_pos h0]
    go_enter Tryz.func161, Tryz.ntmps161
    go_wp2_with (go_at_call 106; refine (trim_any p n nc xs _ hA.len hA.cap hA.bnd (hA.rd.alloc _)).mono ?_; rintro e w' ⟨rfl, rfl⟩)
    go_ret
    exact ⟨rfl, (Below.refl _ _).alloc (Nat.le_refl _) _⟩
  · rw [nbits, if_neg h0]
    have h1 : (((tlen xs : Nat) : Int) == 0) = false := beq_eq_false_iff_ne.2 (by omega)
    obtain ⟨j, hj⟩ : ∃ j, tlen xs = j + 1 := ⟨tlen xs - 1, by omega⟩
    obtain ⟨b, off, rfl, hc⟩ := (hA.rd.alloc (.cells #[.bool s, .slice p n nc] 24)) (by omega)
    have hcj := hc j (by omega)
    obtain ⟨b0, b1⟩ := hA.u j
    have hbl : Lib.bitLen (gx xs j).toNat ≤ 64 := by
      exact bitLenAux_le 64 _
    clear hc
    have htr := trim_any (some ⟨b, off, none⟩) n nc xs (w.alloc (.cells #[.bool s, .slice (some ⟨b, off, none⟩) n nc] 24)) hA.len hA.cap hA.bnd (hA.rd.alloc _)
    rw [hj] at htr h1 ⊢
    have HT := htr
    go_enter Tryz.func161, Tryz.ntmps161
    go_wp2_with fail
    refine HT.mono ?_
    rintro e w' ⟨rfl, rfl⟩
    go_wp2_with fail
    refine (Len32_any _ _ b0 (by omega)).mono ?_
    rintro e w' ⟨rfl, rfl⟩
    go_wp2
    go_ret
    refine ⟨ret_int ?_, (Below.refl _ _).alloc (Nat.le_refl _) _⟩
    rw [Nat.add_sub_cancel]
    omega
def IB (b : Nat) (x : Int) : Prop := 0 ≤ x ∧ x < 2 ^ b ∧ (b = 0 ∨ (2 : Int) ^ (b - 1) ≤ x)
theorem p2_mono {a b : Nat} (h : a ≤ b) : (2 : Int) ^ a ≤ 2 ^ b := by
  obtain ⟨c, rfl⟩ := Nat.exists_eq_add_of_le h
  rw [Int.pow_add]
  have h1 : (0 : Int) < 2 ^ a := Int.pow_pos (by decide)
  have h2 : (0 : Int) < 2 ^ c := Int.pow_pos (by decide)
  have : (2 : Int) ^ a * 1 ≤ 2 ^ a * 2 ^ c := Int.mul_le_mul_of_nonneg_left (by omega) (by omega)
  omega
theorem IB.uniq {b c : Nat} {x : Int} (h : IB b x) (k : IB c x) : b = c := by
  obtain ⟨h0, h1, h2⟩ := h
  obtain ⟨k0, k1, k2⟩ := k
  rcases Nat.lt_trichotomy b c with hb | hb | hb
  · rcases k2 with k2 | k2
    · omega
    · have := p2_mono (show b ≤ c - 1 by omega); omega
  · exact hb
  · rcases h2 with h2 | h2
    · omega
    · have := p2_mono (show c ≤ b - 1 by omega); omega
theorem IB.join {b m : Nat} {x l : Int} (h : IB b x) (hb : 0 < b) (hl0 : 0 ≤ l) (hl1 : l < 2 ^ m) : IB (m + b) (l + 2 ^ m * x) := by
  obtain ⟨h0, h1, h2⟩ := h
  have hm : (0 : Int) < 2 ^ m := Int.pow_pos (by decide)
  refine ⟨by have := Int.mul_nonneg (Int.le_of_lt hm) h0; omega, ?_, .inr ?_⟩
  · rw [Int.pow_add]
    have : (2 : Int) ^ m * x ≤ 2 ^ m * (2 ^ b - 1) := Int.mul_le_mul_of_nonneg_left (by omega) (by omega)
    rw [Int.mul_sub, Int.mul_one] at this
    omega
  · rcases h2 with h2 | h2
    · omega
    · rw [show m + b - 1 = m + (b - 1) by omega, Int.pow_add]
      have : (2 : Int) ^ m * 2 ^ (b - 1) ≤ 2 ^ m * x := Int.mul_le_mul_of_nonneg_left h2 (by omega)
      omega
theorem bitLenAux_ib (f x : Nat) (h : x < 2 ^ f) : IB (Lib.bitLenAux f x) x := by
  induction f generalizing x with
  | zero =>
    have : x = 0 := by simpa using h
    subst this
    exact ⟨by decide, by decide, .inl rfl⟩
  | succ f ih =>
    simp only [Lib.bitLenAux]
    split
    · rename_i h0; subst h0; exact ⟨by decide, by decide, .inl rfl⟩
    · rename_i h0
      have hx : x / 2 < 2 ^ f := by rw [Nat.pow_succ] at h; omega
      obtain ⟨a0, a1, a2⟩ := ih (x / 2) hx
      refine ⟨by omega, ?_, .inr ?_⟩
      · rw [Nat.add_comm, Int.pow_succ]; omega
      · rw [Nat.add_sub_cancel_left]
        rcases a2 with a2 | a2
        · rw [a2] at a1 ⊢
          have e : (2 : Int) ^ 0 = 1 := rfl
          rw [e]; omega
        · have e : (2 : Int) ^ Lib.bitLenAux f (x / 2) = 2 * 2 ^ (Lib.bitLenAux f (x / 2) - 1) := by
            rcases Nat.eq_zero_or_pos (Lib.bitLenAux f (x / 2)) with hz | hz
            · exfalso
              rw [hz] at a1 a2
              have e0 : (2 : Int) ^ 0 = 1 := rfl
              have e1 : (2 : Int) ^ (0 - 1) = 1 := rfl
              rw [e0] at a1; rw [e1] at a2; omega
            · obtain ⟨c, hc⟩ : ∃ c, Lib.bitLenAux f (x / 2) = c + 1 := ⟨Lib.bitLenAux f (x / 2) - 1, by omega⟩
              rw [hc, Int.pow_succ, Nat.add_sub_cancel]; omega
          rw [e]; omega
theorem pw_p2 (k : Nat) : pw k = 2 ^ (32 * k) := by
  unfold pw
  rw [show (4294967296 : Int) = 2 ^ 32 by decide, ← Int.pow_mul]
theorem pd_p2 (k : Nat) : pd k = 2 ^ (16 * k) := by
  unfold pd
  rw [show (65536 : Int) = 2 ^ 16 by decide, ← Int.pow_mul]
theorem nbits_ib {xs : List Int} (h : U32 xs) : ∃ b : Nat, nbits xs = (b : Int) ∧ IB b (val xs) := by
  unfold nbits
  split
  · rename_i h0
    refine ⟨0, rfl, ?_⟩
    rw [(tlen_zero_iff h).1 h0]
    exact ⟨by decide, by decide, .inl rfl⟩
  · rename_i h0
    have ht := tlen_top xs (by omega)
    have hg := h (tlen xs - 1)
    have hl := tlen_le xs
    refine ⟨32 * (tlen xs - 1) + Lib.bitLen (gx xs (tlen xs - 1)).toNat, by omega, ?_⟩
    have hb := bitLenAux_ib 64 (gx xs (tlen xs - 1)).toNat (by omega)
    have e : ((gx xs (tlen xs - 1)).toNat : Int) = gx xs (tlen xs - 1) := by omega
    rw [e] at hb
    have hb0 : 0 < Lib.bitLen (gx xs (tlen xs - 1)).toNat := by
      rcases Nat.eq_zero_or_pos (Lib.bitLen (gx xs (tlen xs - 1)).toNat) with hz | hz
      · exfalso
        have h2 := hb.2.1
        have hz' : Lib.bitLenAux 64 (gx xs (tlen xs - 1)).toNat = 0 := hz
        rw [hz'] at h2
        have e0 : (2 : Int) ^ 0 = 1 := rfl
        rw [e0] at h2; omega
      · exact hz
    have hj := IB.join (m := 32 * (tlen xs - 1)) (l := val (xs.take (tlen xs - 1))) hb hb0 (val_nonneg (u32_take h _)) (by
      have := val_lt (u32_take h (tlen xs - 1))
      rw [List.length_take, Nat.min_eq_left (by omega), pw_p2] at this
      exact this)
    have ev : val xs = val (xs.take (tlen xs - 1)) + 2 ^ (32 * (tlen xs - 1)) * gx xs (tlen xs - 1) := by
      rw [← pw_p2, ← val_take_succ xs (tlen xs - 1) (by omega), show tlen xs - 1 + 1 = tlen xs by omega]
      exact (val_tr xs).symm
    rw [ev]
    exact hj
theorem digits_ib {ds : List Int} {k : Nat} (h : U16 ds) (hn : tlen ds = ds.length) (h0 : 0 < ds.length) (hk : IB k (gx ds (ds.length - 1))) : IB (16 * (ds.length - 1) + k) (vd ds) := by
  have ht := tlen_top ds (by omega)
  rw [hn] at ht
  have hk0 : 0 < k := by
    rcases Nat.eq_zero_or_pos k with hz | hz
    · exfalso
      have h2 := hk.2.1
      have h1 := hk.1
      rw [hz] at h2
      have e0 : (2 : Int) ^ 0 = 1 := rfl
      rw [e0] at h2; omega
    · exact hz
  have hj := IB.join (m := 16 * (ds.length - 1)) (l := vd (ds.take (ds.length - 1))) hk hk0 (vd_nonneg (u16_take h _)) (by
    have := vd_lt (u16_take h (ds.length - 1))
    rw [List.length_take, Nat.min_eq_left (by omega), pd_p2] at this
    exact this)
  have ev : vd ds = vd (ds.take (ds.length - 1)) + 2 ^ (16 * (ds.length - 1)) * gx ds (ds.length - 1) := by
    rw [← pd_p2, ← vd_take_succ ds (ds.length - 1), show ds.length - 1 + 1 = ds.length by omega, List.take_length]
  rw [ev]
  exact hj
theorem Add_same (s : Bool) (p q : Option Addr) (n nc m mc : Nat) (xs ys : List Int) (w : World) (hA : AI w p n nc xs) (hB : AI w q m mc ys) :
    Calls Tryz.prog 84 #[.agg #[.bool s, .slice p n nc], .agg #[.bool s, .slice q m mc]] w fun e w' => ∃ s' p' n' zs, e = .returned (.agg #[.bool s', .slice p' n' n']) ∧ NI w.heap.size w' s' p' n' zs (ival s xs + ival s ys) ∧ n' ≤ n + m + 1 ∧ Below w.heap.size w w' := by
  have tx := tlen_le xs
  have ty := tlen_le ys
  have lx := hA.len
  have ly := hB.len
  have bx := hA.sml
  have by' := hB.sml
  have hss : (s == s) = true := by simp
  go_enter Tryz.func84, Tryz.ntmps84
  go_wp2
  go_quiet (first
    | (go_at_call_of 106 (Value.slice p n nc); exact Calls.quiet_of_same (flip_same (trim_any p n nc xs _ hA.len hA.cap hA.bnd (((hA.rd.alloc _).alloc _).alloc _))))
    | (go_at_call_of 106 (Value.slice q m mc); exact Calls.quiet_of_same (flip_same (trim_any q m mc ys _ hB.len hB.cap hB.bnd (((hB.rd.alloc _).alloc _).alloc _)))))
  go_wp2
  have hX := boxes3 w (.bool s) (.slice p n nc) (.bool s) (.slice q m mc) (.bool false) (.slice none 0 0) 24 24 24 nq
  generalize ((((w.alloc (Obj.cells #[Value.bool s, Value.slice p n nc] 24)).alloc (Obj.cells #[Value.bool s, Value.slice q m mc] 24)).alloc (Obj.cells #[Value.bool false, Value.slice none 0 0] 24)).drewN nq) = W at *
  have hA' := hA.below hX.below
  have hB' := hB.below hX.below
  have k0 := hX.ca0
  have k1 := hX.ca1
  go_region_held3 (fun w' => w'.cell? ⟨w.heap.size, 0, none⟩ = some (.bool s) ∧ w'.cell? ⟨w.heap.size, 1, none⟩ = some (.slice p n nc)) (first | (simp [go_sem, *]; done) | exact keepc2 (by assumption) (by assumption))
    (first
      | (go_at_call 108; refine (sum_any p q (tlen xs) nc (tlen ys) mc (tr xs) (tr ys) _ (length_tr xs) (length_tr ys) (by omega) (by omega) ?_ (u32_tr hA.u) ?_ (u32_tr hB.u)).mono ?_; exact hA'.tr.rd.drew; exact hB'.tr.rd.drew; rintro e w1 ⟨M, zs, rfl, m1, m2, m3, z1, z2, z3, z4, hb1⟩)
      | (go_at_call 104; refine (number_any s (some ⟨W.heap.size, 0, none⟩) M M zs _ z1 (Nat.le_refl _) (by unfold maxLen; omega) ?_).mono ?_; exact z4.rd_all; rintro e w2 ⟨rfl, hb2⟩; obtain ⟨c0, c1, f0, f1⟩ := resbox ((undrew hb1).trans (hb2.mono (undrew hb1).size)) hX.cr0 hX.cr1 hX.fr0 hX.fr1))
  go_wp2
  have hsz := hX.size
  have hend := end_number (z := ival s xs + ival s ys) (sg := s) (u := .bool (nsg s zs)) (v := .slice (nad (some ⟨W.heap.size, 0, none⟩) zs) (tlen zs) (tlen zs)) hX.below (r := w.heap.size + 1 + 1) (by omega) (by omega) z4 z2 (undrew hb1) hb2 (by rw [val_tr, val_tr] at z3; simp only [ival, z3]; split <;> omega)
  refine bodyPost_ret (v := .agg #[.bool (nsg s zs), .slice (nad (some ⟨W.heap.size, 0, none⟩) zs) (tlen zs) (tlen zs)]) (by simp [results, Tryz.results84, go_sem, c0, c1]) rfl ⟨_, _, _, tr zs, rfl, hend.1, ?_, hend.2⟩
  have := tlen_le zs
  omega
theorem Add_ge (s : Bool) (p q : Option Addr) (n nc m mc : Nat) (xs ys : List Int) (w : World) (hA : AI w p n nc xs) (hB : AI w q m mc ys) (hge : val ys ≤ val xs) :
    Calls Tryz.prog 84 #[.agg #[.bool s, .slice p n nc], .agg #[.bool (!s), .slice q m mc]] w fun e w' => ∃ s' p' n' zs, e = .returned (.agg #[.bool s', .slice p' n' n']) ∧ NI w.heap.size w' s' p' n' zs (ival s xs + ival (!s) ys) ∧ n' ≤ n + m + 1 ∧ Below w.heap.size w w' := by
  have tx := tlen_le xs
  have ty := tlen_le ys
  have lx := hA.len
  have ly := hB.len
  have bx := hA.sml
  have by' := hB.sml
  have hss : (s == !s) = false := by cases s <;> rfl
  have hic : 0 ≤ icmp (val (tr xs)) (val (tr ys)) := by
    rw [val_tr, val_tr, icmp, if_neg (by omega)]; split <;> decide
  go_enter Tryz.func84, Tryz.ntmps84
  go_wp2
  go_quiet (first
    | (go_at_call_of 106 (Value.slice p n nc); exact Calls.quiet_of_same (flip_same (trim_any p n nc xs _ hA.len hA.cap hA.bnd (((hA.rd.alloc _).alloc _).alloc _))))
    | (go_at_call_of 106 (Value.slice q m mc); exact Calls.quiet_of_same (flip_same (trim_any q m mc ys _ hB.len hB.cap hB.bnd (((hB.rd.alloc _).alloc _).alloc _)))))
  go_wp2_with fail
  have hX0 := boxes3 w (.bool s) (.slice p n nc) (.bool !s) (.slice q m mc) (.bool false) (.slice none 0 0) 24 24 24 nq
  generalize ((((w.alloc (Obj.cells #[Value.bool s, Value.slice p n nc] 24)).alloc (Obj.cells #[Value.bool !s, Value.slice q m mc] 24)).alloc (Obj.cells #[Value.bool false, Value.slice none 0 0] 24)).drewN nq) = W0 at *
  have hA0 := (hA.below hX0.below).tr
  have hB0 := (hB.below hX0.below).tr
  refine (compare_any p q (tlen xs) nc (tlen ys) mc (tr xs) (tr ys) _ (length_tr xs) (length_tr ys) hA0.cap hA0.bnd hB0.cap hB0.bnd hA0.rd hA0.u hB0.rd hB0.u).mono ?_
  rintro e W ⟨rfl, hb0⟩
  have hX := hX0.later hb0
  have hA' := hA.below hX.below
  have hB' := hB.below hX.below
  have k0 := hX.ca0
  have k1 := hX.ca1
  clear hX0 hA0 hB0 hb0 W0
  go_wp2
  go_region_held3 (fun w' => w'.cell? ⟨w.heap.size, 0, none⟩ = some (.bool s) ∧ w'.cell? ⟨w.heap.size, 1, none⟩ = some (.slice p n nc)) (first | (simp [go_sem, *]; done) | exact keepc2 (by assumption) (by assumption))
    (first
      | (go_at_call 109; refine (difference_any p q (tlen xs) nc (tlen ys) mc (tr xs) (tr ys) _ (length_tr xs) (length_tr ys) hB'.tr.cap hB'.bnd (by omega) ?_ (u32_tr hA.u) ?_ (u32_tr hB.u) (by rw [val_tr, val_tr]; exact hge)).mono ?_; exact hA'.tr.rd.drew; exact hB'.tr.rd.drew; rintro e w1 ⟨zs, rfl, z1, z2, z3, z4, hb1⟩)
      | (go_at_call 104; refine (number_any s (some ⟨W.heap.size, 0, none⟩) (tlen xs) (tlen xs) zs _ z1 (Nat.le_refl _) (by unfold maxLen; omega) ?_).mono ?_; exact z4.rd_all; rintro e w2 ⟨rfl, hb2⟩; obtain ⟨c0, c1, f0, f1⟩ := resbox ((undrew hb1).trans (hb2.mono (undrew hb1).size)) hX.cr0 hX.cr1 hX.fr0 hX.fr1))
  go_wp2
  have hsz := hX.size
  have hend := end_number (z := ival s xs + ival (!s) ys) (sg := s) (u := .bool (nsg s zs)) (v := .slice (nad (some ⟨W.heap.size, 0, none⟩) zs) (tlen zs) (tlen zs)) hX.below (r := w.heap.size + 1 + 1) (by omega) (by omega) z4 z2 (undrew hb1) hb2 (by rw [val_tr, val_tr] at z3; cases s <;> simp [ival, z3] <;> omega)
  refine bodyPost_ret (v := .agg #[.bool (nsg s zs), .slice (nad (some ⟨W.heap.size, 0, none⟩) zs) (tlen zs) (tlen zs)]) (by simp [results, Tryz.results84, go_sem, c0, c1]) rfl ⟨_, _, _, tr zs, rfl, hend.1, ?_, hend.2⟩
  have := tlen_le zs
  omega
theorem Add_lt (s : Bool) (p q : Option Addr) (n nc m mc : Nat) (xs ys : List Int) (w : World) (hA : AI w p n nc xs) (hB : AI w q m mc ys) (hge : val xs < val ys) :
    Calls Tryz.prog 84 #[.agg #[.bool s, .slice p n nc], .agg #[.bool (!s), .slice q m mc]] w fun e w' => ∃ s' p' n' zs, e = .returned (.agg #[.bool s', .slice p' n' n']) ∧ NI w.heap.size w' s' p' n' zs (ival s xs + ival (!s) ys) ∧ n' ≤ n + m + 1 ∧ Below w.heap.size w w' := by
  have tx := tlen_le xs
  have ty := tlen_le ys
  have lx := hA.len
  have ly := hB.len
  have bx := hA.sml
  have by' := hB.sml
  have hss : (s == !s) = false := by cases s <;> rfl
  have hic : ¬ 0 ≤ icmp (val (tr xs)) (val (tr ys)) := by
    rw [val_tr, val_tr, icmp_lt hge]; decide
  go_enter Tryz.func84, Tryz.ntmps84
  go_wp2
  go_quiet (first
    | (go_at_call_of 106 (Value.slice p n nc); exact Calls.quiet_of_same (flip_same (trim_any p n nc xs _ hA.len hA.cap hA.bnd (((hA.rd.alloc _).alloc _).alloc _))))
    | (go_at_call_of 106 (Value.slice q m mc); exact Calls.quiet_of_same (flip_same (trim_any q m mc ys _ hB.len hB.cap hB.bnd (((hB.rd.alloc _).alloc _).alloc _)))))
  go_wp2_with fail
  have hX0 := boxes3 w (.bool s) (.slice p n nc) (.bool !s) (.slice q m mc) (.bool false) (.slice none 0 0) 24 24 24 nq
  generalize ((((w.alloc (Obj.cells #[Value.bool s, Value.slice p n nc] 24)).alloc (Obj.cells #[Value.bool !s, Value.slice q m mc] 24)).alloc (Obj.cells #[Value.bool false, Value.slice none 0 0] 24)).drewN nq) = W0 at *
  have hA0 := (hA.below hX0.below).tr
  have hB0 := (hB.below hX0.below).tr
  refine (compare_any p q (tlen xs) nc (tlen ys) mc (tr xs) (tr ys) _ (length_tr xs) (length_tr ys) hA0.cap hA0.bnd hB0.cap hB0.bnd hA0.rd hA0.u hB0.rd hB0.u).mono ?_
  rintro e W ⟨rfl, hb0⟩
  have hX := hX0.later hb0
  have hA' := hA.below hX.below
  have hB' := hB.below hX.below
  have k0 := hX.cb0
  have k1 := hX.cb1
  clear hX0 hA0 hB0 hb0 W0
  go_wp2
  go_region_held3 (fun w' => w'.cell? ⟨w.heap.size + 1, 0, none⟩ = some (.bool !s) ∧ w'.cell? ⟨w.heap.size + 1, 1, none⟩ = some (.slice q m mc)) (first | (simp [go_sem, *]; done) | exact keepc2 (by assumption) (by assumption))
    (first
      | (go_at_call 109; refine (difference_any q p (tlen ys) mc (tlen xs) nc (tr ys) (tr xs) _ (length_tr ys) (length_tr xs) hA'.tr.cap hA'.bnd (by omega) ?_ (u32_tr hB.u) ?_ (u32_tr hA.u) (by rw [val_tr, val_tr]; omega)).mono ?_; exact hB'.tr.rd.drew; exact hA'.tr.rd.drew; rintro e w1 ⟨zs, rfl, z1, z2, z3, z4, hb1⟩)
      | (go_at_call 104; refine (number_any (!s) (some ⟨W.heap.size, 0, none⟩) (tlen ys) (tlen ys) zs _ z1 (Nat.le_refl _) (by unfold maxLen; omega) ?_).mono ?_; exact z4.rd_all; rintro e w2 ⟨rfl, hb2⟩; obtain ⟨c0, c1, f0, f1⟩ := resbox ((undrew hb1).trans (hb2.mono (undrew hb1).size)) hX.cr0 hX.cr1 hX.fr0 hX.fr1))
  go_wp2
  have hsz := hX.size
  have hend := end_number (z := ival s xs + ival (!s) ys) (sg := !s) (u := .bool (nsg (!s) zs)) (v := .slice (nad (some ⟨W.heap.size, 0, none⟩) zs) (tlen zs) (tlen zs)) hX.below (r := w.heap.size + 1 + 1) (by omega) (by omega) z4 z2 (undrew hb1) hb2 (by rw [val_tr, val_tr] at z3; cases s <;> simp [ival, z3] <;> omega)
  refine bodyPost_ret (v := .agg #[.bool (nsg (!s) zs), .slice (nad (some ⟨W.heap.size, 0, none⟩) zs) (tlen zs) (tlen zs)]) (by simp [results, Tryz.results84, go_sem, c0, c1]) rfl ⟨_, _, _, tr zs, rfl, hend.1, ?_, hend.2⟩
  have := tlen_le zs
  omega
theorem Add_any (s t : Bool) (p q : Option Addr) (n nc m mc : Nat) (xs ys : List Int) (w : World) (hA : AI w p n nc xs) (hB : AI w q m mc ys) :
    Calls Tryz.prog 84 #[.agg #[.bool s, .slice p n nc], .agg #[.bool t, .slice q m mc]] w fun e w' => ∃ s' p' n' zs, e = .returned (.agg #[.bool s', .slice p' n' n']) ∧ NI w.heap.size w' s' p' n' zs (ival s xs + ival t ys) ∧ n' ≤ n + m + 1 ∧ Below w.heap.size w w' := by
  by_cases h : s = t
  · subst h; exact Add_same s p q n nc m mc xs ys w hA hB
  · have : t = !s := by cases s <;> cases t <;> simp_all
    subst this
    rcases Int.lt_or_le (val xs) (val ys) with hv | hv
    · exact Add_lt s p q n nc m mc xs ys w hA hB hv
    · exact Add_ge s p q n nc m mc xs ys w hA hB hv
def EN (w : World) (K : Nat) (z : Int) (e : Ent) : Prop := ∃ xs, AI w e.p e.n e.c xs ∧ ival e.s xs = z ∧ tlen xs = e.n ∧ (e.n = 0 → e.s = false) ∧ e.n ≤ K
theorem EN.ev {w : World} {K : Nat} {z : Int} {e : Ent} (h : EN w K z e) : EV w K z e := by
  obtain ⟨xs, h1, h2, h3, h4, h5⟩ := h
  exact ⟨xs, h1, h2, h5⟩
theorem EN.below {w w' : World} {K : Nat} {z : Int} {e : Ent} (h : EN w K z e) (hb : Below w.heap.size w w') : EN w' K z e := by
  obtain ⟨xs, h1, h2⟩ := h
  exact ⟨xs, h1.below hb, h2⟩
theorem nbits_len {xs : List Int} (hU : U32 xs) : (nbits xs + 31) / 32 = (tlen xs : Int) ∧ 0 ≤ nbits xs ∧ nbits xs ≤ 32 * (tlen xs : Int) := by
  unfold nbits
  split
  · rename_i h; rw [h]; decide
  · rename_i h
    have h1 := tlen_top xs (by omega)
    obtain ⟨x0, x1⟩ := hU (tlen xs - 1)
    have hb := bitLenAux_ib 64 (gx xs (tlen xs - 1)).toNat (by omega)
    have e : Lib.bitLen (gx xs (tlen xs - 1)).toNat = Lib.bitLenAux 64 (gx xs (tlen xs - 1)).toNat := rfl
    rw [e]
    generalize Lib.bitLenAux 64 (gx xs (tlen xs - 1)).toNat = b at *
    obtain ⟨b0, b1, b2⟩ := hb
    have hb0 : b ≠ 0 := fun e => by subst e; simp at b1; omega
    have hb32 : b ≤ 32 := by
      rcases b2 with h | h
      · omega
      · rcases Nat.lt_or_ge 32 b with h' | h'
        · have := p2_mono (show 32 ≤ b - 1 by omega)
          have e2 : (2 : Int) ^ 32 = 4294967296 := by decide
          omega
        · exact h'
    omega
theorem bset2d {B g : Nat} {a b : World} {u v : Value} (h : Below B a b) (hg : B ≤ g) : Below B a ((b.drew.setCell ⟨g, 0, none⟩ u).setCell ⟨g, 1, none⟩ v) := bset2 (show Below B a b.drew from ⟨h.os, h.tape, h.output, h.size, h.block⟩) hg _ _
theorem en_set {w : World} {K : Nat} {z : Int} {s' : Bool} {p : Option Addr} {n c g : Nat} {xs : List Int} {u v : Value} (h : AI w p n c xs) (hv : ival s' xs = z) (ho : 0 < tlen xs → Off g p) (hs : tlen xs = 0 → s' = false) (hK : tlen xs ≤ K) : EN ((w.drew.setCell ⟨g, 0, none⟩ u).setCell ⟨g, 1, none⟩ v) K z ⟨s', p, tlen xs, c⟩ := by
  have h1 := h.tr.drew
  refine ⟨tr xs, ?_, by rw [ival_tr]; exact hv, tlen_tr xs, hs, hK⟩
  exact ⟨h1.len, h1.cap, h1.bnd, h1.sml, fun hx => ((h1.rd.set_other ⟨g, 0, none⟩ u (ho (by rw [length_tr] at hx; exact hx))).set_other ⟨g, 1, none⟩ v (ho (by rw [length_tr] at hx; exact hx))) hx, h1.u⟩
set_option maxRecDepth 100000 in
theorem bare_any {w : World} {K : Nat} {z : Int} {e : Ent} (h : EV w K z e) (hK : K ≤ 1000) :
    Calls Tryz.prog 134 #[.agg #[.bool e.s, .slice e.p e.n e.c]] w fun r w' => ∃ f : Ent, r = .returned (.agg #[.bool f.s, .slice f.p f.n f.c]) ∧ f.p = e.p ∧ f.n ≤ e.n ∧ EN w' K z f ∧ Below w.heap.size w w' := by
  obtain ⟨xs, h1, h2, h3⟩ := h
  obtain ⟨es, ep, en, ec⟩ := e
  simp only at h1 h2 h3 ⊢
  have HV : Hid (ival es xs = z) := h2
  obtain ⟨q1, q2, q3⟩ := nbits_len h1.u
  have tx := tlen_le xs
  have lx := h1.len
  have hcap := h1.cap
  have hbnd := h1.bnd
  unfold maxLen at hbnd
  have HX : Hid (U32 xs) := h1.u
  clear h2
  generalize hN : nbits xs = N at *
  have HN := (show Hid _ from hN)
  have v1 : IntKind.i64.wrap (N + 31) = N + 31 := by rw [IntKind.wrap_i64]; omega
  have v2 : (N + 31).tdiv 32 = (tlen xs : Int) := by rw [Int.tdiv_eq_ediv_of_nonneg (by omega)]; exact q1
  have v3 : IntKind.i64.wrap (tlen xs : Int) = (tlen xs : Int) := by rw [IntKind.wrap_i64]; omega
  clear hN
  go_enter Tryz.func134, Tryz.ntmps134
  go_wp2_with fail
  have hA0 : Bx ((w.alloc (.cells #[.bool es, .slice ep en ec] 24)).alloc (.cells #[.bool false, .slice none 0 0] 24)) w.heap.size (.bool es) (.slice ep en ec) := (Bx.new _ _ _ rfl).alloc _
  have hR0 : Bx ((w.alloc (.cells #[.bool es, .slice ep en ec] 24)).alloc (.cells #[.bool false, .slice none 0 0] 24)) (w.heap.size + 1) (.bool false) (.slice none 0 0) := Bx.new _ _ _ (by simp)
  have hW0 : Below w.heap.size w ((w.alloc (.cells #[.bool es, .slice ep en ec] 24)).alloc (.cells #[.bool false, .slice none 0 0] 24)) := ((Below.refl _ _).alloc (Nat.le_refl _) _).alloc (by simp) _
  generalize (w.alloc (.cells #[.bool es, .slice ep en ec] 24)).alloc (.cells #[.bool false, .slice none 0 0] 24) = W0 at *
  have hbt := Bits_any es ep en ec xs W0 (h1.below hW0)
  rw [HN.out] at hbt
  refine hbt.mono ?_
  rintro e w1 ⟨rfl, hb1⟩
  clear hbt
  have a0 := (hA0.later hb1).c0
  have a1 := (hA0.later hb1).c1
  obtain ⟨r0, r1, f0, f1⟩ := hR0.later hb1
  have hsl : (tlen xs : Int) ≤ (ec : Int) := by omega
  have hcs : Hid (tlen xs = 0 ∨ 0 < tlen xs) := Nat.eq_zero_or_pos _
  have sR : w.heap.size + 1 < W0.heap.size := block_lt_of_cell hR0.c0
  have hoff : Hid (∀ m, m ≤ en → (0 < m → Off (w.heap.size + 1) ep)) := fun m hm h0 => (h1.rd.off (by omega) (by rw [h1.len]; omega))
  have HA : Hid (AI w1 ep en ec xs) := (h1.below hW0).below hb1
  have HW : Hid (Below w.heap.size w w1) := bnext' hW0 hb1
  cases es
  · go_wp2_with fail
    go_still_tail 11, (by kernel_rfl)
    go_wp2
    refine bodyPost_ret (v := .agg #[.bool false, .slice ep (tlen xs) ec]) (by simp [results, Tryz.results134, go_sem, r0, r1]) rfl ⟨⟨false, ep, tlen xs, ec⟩, rfl, rfl, by show tlen xs ≤ en; omega, ?_, ?_⟩
    · exact en_set HA.out HV.out (hoff.out _ (by omega)) (fun _ => rfl) (by omega)
    · exact bset2d HW.out (by omega)
  · rcases hcs.out with hz | hz
    · have hz' : (tlen xs : Int) = 0 := by omega
      have hg : decide (0 < (tlen xs : Int)) = false := by rw [hz]; rfl
      have HZ : Hid (tlen xs = 0) := hz
      clear hz hcs
      go_wp2_with fail
      go_still_tail 11, (by kernel_rfl)
      go_wp2
      refine bodyPost_ret (v := .agg #[.bool false, .slice ep 0 ec]) (by simp [results, Tryz.results134, go_sem, r0, r1]) rfl ⟨⟨false, ep, 0, ec⟩, rfl, rfl, Nat.zero_le _, ?_, ?_⟩
      · have hv0 : ival false xs = z := by
          have h0 := (tlen_zero_iff HX.out).1 HZ.out
          rw [← HV.out, ival, ival, h0]
          rfl
        have h5 := en_set (K := K) (g := w.heap.size + 1) (u := .bool false) (v := .slice ep 0 ec) HA.out hv0 (hoff.out _ (by omega)) (fun _ => rfl) (by omega)
        rwa [HZ.out] at h5
      · exact bset2d HW.out (by omega)
    · have hg : decide (0 < (tlen xs : Int)) = true := decide_eq_true (by omega)
      have HZ : Hid (0 < tlen xs) := hz
      clear hz hcs
      go_wp2_with fail
      go_still_tail 11, (by kernel_rfl)
      go_wp2
      refine bodyPost_ret (v := .agg #[.bool true, .slice ep (tlen xs) ec]) (by simp [results, Tryz.results134, go_sem, r0, r1, HZ.out]) rfl ⟨⟨true, ep, tlen xs, ec⟩, rfl, rfl, by show tlen xs ≤ en; omega, ?_, ?_⟩
      · exact en_set HA.out HV.out (hoff.out _ (by omega)) (fun h => absurd h (Nat.ne_of_gt HZ.out)) (by omega)
      · exact bset2d HW.out (by omega)
set_option maxRecDepth 100000 in
theorem own_any {w : World} {K : Nat} {z : Int} {e : Ent} (h : EV w K z e) (hK : K ≤ 1000) :
    Calls Tryz.prog 91 #[.agg #[.bool e.s, .slice e.p e.n e.c]] w fun r w' => ∃ f : Ent, r = .returned (.agg #[.bool f.s, .slice f.p f.n f.c]) ∧ NV w.heap.size w' K z f ∧ Below w.heap.size w w' := by
  obtain ⟨xs, h1, h2, h3⟩ := h
  obtain ⟨es, ep, en, ec⟩ := e
  simp only at h1 h2 h3 ⊢
  have HV : Hid (ival es xs = z) := h2
  clear h2
  go_enter Tryz.func91, Tryz.ntmps91
  go_wp2_with fail
  have hR0 : Bx ((w.alloc (.cells #[.bool es, .slice ep en ec] 24)).alloc (.cells #[.bool false, .slice none 0 0] 24)) (w.heap.size + 1) (.bool false) (.slice none 0 0) := Bx.new _ _ _ (by simp)
  have hW0 : Below w.heap.size w ((w.alloc (.cells #[.bool es, .slice ep en ec] 24)).alloc (.cells #[.bool false, .slice none 0 0] 24)) := ((Below.refl _ _).alloc (Nat.le_refl _) _).alloc (by simp) _
  generalize (w.alloc (.cells #[.bool es, .slice ep en ec] 24)).alloc (.cells #[.bool false, .slice none 0 0] 24) = W0 at *
  have hz : AI W0 none 0 0 [] := ⟨rfl, Nat.le_refl _, Nat.zero_le _, Nat.zero_le _, Rd.nil, fun j => by simp [gx]⟩
  refine (Add_any es false ep none en ec 0 0 xs [] _ (h1.below hW0) hz).mono ?_
  rintro e w1 ⟨s1, p1, n1, x1, rfl, hN1, hn1, hb1⟩
  have hv : ival es xs + ival false [] = z := by rw [HV.out]; simp [ival, val]
  rw [hv] at hN1
  have hle : n1 ≤ K := hN1.le (by have h5 := h1.lt es; rw [HV.out] at h5; have := pw_mono h3; omega)
  have HN : Hid (NI W0.heap.size w1 s1 p1 n1 x1 z) := hN1
  have sR : w.heap.size + 1 < W0.heap.size := block_lt_of_cell hR0.c0
  obtain ⟨r0, r1, f0, f1⟩ := hR0.later hb1
  clear hv hN1 hz
  go_wp2
  refine bodyPost_ret (v := .agg #[.bool s1, .slice p1 n1 n1]) (by simp [results, Tryz.results91, go_sem, r0, r1]) rfl ⟨⟨s1, p1, n1, n1⟩, rfl, ⟨x1, ?_, rfl, hle⟩, ?_⟩
  · exact ((HN.out.set (a := ⟨w.heap.size + 1, 0, none⟩) sR _).set (a := ⟨w.heap.size + 1, 1, none⟩) sR _).mono hW0.size
  · exact bset2 (bnext' hW0 hb1) (by omega) _ _
def EaI (O : World → Int → Ent → Prop) (φ : Int → Int) (g n k : Nat) (zs : List Int) (W0 wr : World) : Prop :=
  ∃ es, Row2 wr g 24 es ∧ es.length = n ∧ (∀ j, j < k → O wr (φ (gx zs j)) (ge es j) ∧ (0 < (ge es j).n → Off g (ge es j).p)) ∧ Below g W0 wr
set_option maxRecDepth 100000 in
theorem each_any (K : Nat) (p : Option Addr) (n nc : Nat) (es : List Ent) (zs : List Int) (w : World) (h : PA w K p n nc es zs) (hn : n ≤ 1000000) (J : Nat) (C : Array Value) (hE : ∀ args w', Sem.run Tryz.prog (callFunc J args) w' = .ok (.enter J args) w')
    (O : World → Int → Ent → Prop) (φ : Int → Int) (hOb : ∀ w w' z e, O w z e → Below w.heap.size w w' → O w' z e) (hOs : ∀ w z e g o u v, O w z e → (0 < e.n → Off g e.p) → O ((w.setCell ⟨g, o, none⟩ u).setCell ⟨g, o + 1, none⟩ v) z e)
    (hJ : ∀ w' z e, Below w.heap.size w w' → EV w' K z e → Calls Tryz.prog J (#[.agg #[.bool e.s, .slice e.p e.n e.c]] ++ C) w' fun r w'' => ∃ f : Ent, r = .returned (.agg #[.bool f.s, .slice f.p f.n f.c]) ∧ O w'' (φ z) f ∧ (0 < f.n → f.p = e.p ∧ f.n ≤ e.n ∨ Go.Proofs.YtfnkomoickanfaaGreatDoor.From w'.heap.size f.p) ∧ Below w'.heap.size w' w'') :
    Calls Tryz.prog 89 #[.slice p n nc, .func (.func J) #[] C] w fun r w' => ∃ q fs, r = .returned (.slice q n n) ∧ fs.length = n ∧ PL w' q fs ∧ Go.Proofs.YtfnkomoickanfaaGreatDoor.From w.heap.size q ∧ (∀ j, j < n → O w' (φ (gx zs j)) (ge fs j)) ∧ Below w.heap.size w w' := by
  have hmk := mk_poly n (by omega)
  have hle := h.el
  have HOb := (show Hid _ from hOb)
  have HOs := (show Hid _ from hOs)
  have HJ := (show Hid _ from hJ)
  clear hOb hOs hJ
  go_enter Tryz.func89, Tryz.ntmps89
  go_wp2_with fail
  have hR0 := Row2.new w 24 (ezs n)
  have hW0 : Below w.heap.size w (w.alloc (.cells (ca2 (ezs n)) 24)) := (Below.refl _ _).alloc (Nat.le_refl _) _
  have hs0 : w.heap.size + 1 ≤ (w.alloc (.cells (ca2 (ezs n)) 24)).heap.size := by simp
  generalize w.alloc (.cells (ca2 (ezs n)) 24) = W0 at *
  clear hmk
  go_loopw [6, 7, 13] (fun iv cv kv wr => ∃ k : Nat, k ≤ n ∧ kv = .int .i64 k ∧ Hid (EaI O φ w.heap.size n k zs W0 wr)) (fun _ _ kv _ => n - (intOf kv).toNat)
  case atStart => exact ⟨0, Nat.zero_le _, by go_num, ezs n, hR0, length_ezs n, fun j hj => by omega, Below.refl _ _⟩
  case round =>
    obtain ⟨k, hk, rfl, H⟩ := hrel
    rcases Nat.lt_or_ge k n with hlt | hge
    · obtain ⟨es', hR, hel, hev, hB⟩ := H.out
      have hBw : Below w.heap.size w wr := hW0.trans hB
      have hPA := h.below hBw
      obtain ⟨b, o, hp, hc⟩ := hPA.pl (by omega)
      subst hp
      obtain ⟨c0, c1⟩ := hc k (by omega)
      have hv := hPA.ev k hlt
      have HH : Hid (EaI O φ w.heap.size n k zs W0 wr) := H.out
      clear H hR hel hev hB hc hPA
      go_wp2_with fail
      have hal := bel_al (o := .cells #[.bool (ge es k).s, .slice (ge es k).p (ge es k).n (ge es k).c] 24) (Below.refl wr.heap.size wr)
      refine (HJ.out _ (gx zs k) (ge es k) (bnext hBw (Nat.le_refl _) hal) (hv.below hal)).mono ?_
      rintro e w1 ⟨f, rfl, hO, hF, hb1⟩
      have hb2 := bnext' hal hb1
      obtain ⟨es', hR, hel, hev, hB⟩ := HH.out
      have hR1 := hR.below hb2 hR.lt
      obtain ⟨d0, d1⟩ := hR1.cell k (by omega)
      have f0 := hR1.frozen (k * 2)
      have f1 := hR1.frozen (k * 2 + 1)
      have hoff : Hid (0 < f.n → Off w.heap.size f.p) := fun h0 => by
        rcases hF h0 with ⟨e1, e2⟩ | e1
        · rw [e1]
          obtain ⟨xs, k1, -⟩ := h.ev k hlt
          exact k1.rd.off (Nat.le_refl _) (by rw [k1.len]; omega)
        · have hs1 := hB.size
          have hs2 := hal.size
          exact off_from e1 (by omega)
      have HI : Hid (O w1 (φ (gx zs k)) f ∧ Row2 w1 w.heap.size 24 es' ∧ es'.length = n ∧ (∀ j, j < k → O w1 (φ (gx zs j)) (ge es' j) ∧ (0 < (ge es' j).n → Off w.heap.size (ge es' j).p)) ∧ Below w.heap.size W0 w1) := ⟨hO, hR1, hel, fun j hj => ⟨HOb.out _ _ _ _ (hev j hj).1 hb2, (hev j hj).2⟩, hB.trans (hb2.mono (by have := hBw.size; omega))⟩
      clear hO hF hb1 hb2 hR hel hev hB hR1 hal hv c0 c1 HH
      go_wp2
      go_roundw
      case rel =>
        obtain ⟨hO, hR, hel, hev, hB⟩ := HI.out
        refine ⟨k + 1, by omega, by go_num, es'.set k f, hR.set k f (by omega), by simpa using hel, fun j hj => ?_, ?_⟩
        · rcases Nat.lt_or_ge j k with h' | h'
          · rw [ge_set_other _ _ _ _ (by omega)]
            exact ⟨HOs.out _ _ _ _ _ _ _ (hev j h').1 (hev j h').2, (hev j h').2⟩
          · obtain rfl : j = k := by omega
            rw [ge_set_same _ _ _ (by omega)]
            exact ⟨HOs.out _ _ _ _ _ _ _ hO hoff.out, hoff.out⟩
        · exact (hB.setCell (p := ⟨w.heap.size, k * 2, none⟩) (Nat.le_refl _) _).setCell (p := ⟨w.heap.size, k * 2 + 1, none⟩) (Nat.le_refl _) _
      case measure => simp [intOf]; omega
    · obtain rfl : k = n := by omega
      obtain ⟨es', hR, hel, hev, hB⟩ := H.out
      have HI : Hid (Row2 wr w.heap.size 24 es' ∧ es'.length = k ∧ (∀ j, j < k → O wr (φ (gx zs j)) (ge es' j)) ∧ Below w.heap.size w wr) := ⟨hR, hel, fun j hj => (hev j hj).1, hW0.trans hB⟩
      clear H hR hel hev hB hge hk
      go_wp2
      go_ret
      obtain ⟨hR, hel, hev, hB⟩ := HI.out
      exact ⟨_, es', rfl, hel, hR.pl, fun a ha => by cases ha; exact Nat.le_refl _, hev, hB⟩
end Go.Proofs.YtfnkomoickanfaaGreatDoor
