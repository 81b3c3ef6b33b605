/-
  ashlarlaw1.IntSmall: for every n and every number the law's answer is true.
-/
import Derived.Test.YtgjgdhihpdpmcaaDoorBh
import Derived.Test.YtgjgdhihpdpmcaaDoorCy
import Derived.Test.YtgjgdhihpdpmcaaDoorRs
import Derived.Test.YtgjgdhihpdpmcaaDoorRo
import Derived.Test.YtgjgdhihpdpmcaaDoorWs
namespace Go.Proofs.YtgjgdhihpdpmcaaDoor
open Go.RowKit
set_option linter.unusedVariables false
set_option linter.unusedSimpArgs false

set_option maxHeartbeats 4000000 in
theorem IntSmall_walk (z : Int) (s : Bool) (p : Option Addr) (n nc : Nat) (xs : List Int) (w : World) (hz0 : -9223372036854775808 ≤ z) (hz1 : z ≤ 9223372036854775807) (hl : xs.length = n) (hnc : n ≤ nc) (hb : nc ≤ maxLen) (hX : Rd w p .u32 xs) (hU : U32 xs) (hp : p = none → nc = 0) :
    Calls Tryd.prog 7 #[.int .i64 z, .agg #[.bool s, .slice p n nc]] w fun e w' => e = .returned (.bool true) ∧ Below w.heap.size w w' := by
  go_enter Tryd.func7, Tryd.ntmps7
  go_wp2_with fail
  have hB0 : Bx (w.alloc (.cells #[.bool s, .slice p n nc] 24)) w.heap.size (.bool s) (.slice p n nc) := Bx.new _ _ _ rfl
  have hbw : Below w.heap.size w (w.alloc (.cells #[.bool s, .slice p n nc] 24)) := (Below.refl _ _).alloc (Nat.le_refl _) _
  have hz0' : w.heap.size < (w.alloc (.cells #[.bool s, .slice p n nc] 24)).heap.size := by simp
  generalize w.alloc (.cells #[.bool s, .slice p n nc] 24) = W0 at *
  refine (begun_any _).mono ?_
  rintro e w1 ⟨rfl, hb1⟩
  have hB1 := hB0.later hb1
  have hbw1 := bnext hbw (Nat.le_refl _) hb1
  have hs1 : w.heap.size < w1.heap.size := Nat.lt_of_lt_of_le hz0' hb1.size
  clear hB0 hbw hz0' hb1
  go_wp2_with fail
  refine (Of_any z _ hz0 hz1).mono ?_
  rintro e w2 ⟨s2, p2, n2, x2, rfl, hN2, hn2, hb2⟩
  have hB2 := hB1.later hb2
  have hbw2 := bnext hbw1 (Nat.le_refl _) hb2
  have hs2 : w.heap.size < w2.heap.size := Nat.lt_of_lt_of_le hs1 hb2.size
  go_wp2_with fail
  have hBb2 : Bx (w2.alloc (.cells #[.bool s2, .slice p2 n2 n2] 24)) w2.heap.size (.bool s2) (.slice p2 n2 n2) := Bx.new _ _ _ rfl
  have hBa2 := hB2.alloc (.cells #[.bool s2, .slice p2 n2 n2] 24)
  have hN2' := NI_al (o := .cells #[.bool s2, .slice p2 n2 n2] 24) hN2
  have hbw2' : Below w.heap.size w (w2.alloc (.cells #[.bool s2, .slice p2 n2 n2] 24)) := hbw2.alloc (by omega) _
  have hs2' : w.heap.size < (w2.alloc (.cells #[.bool s2, .slice p2 n2 n2] 24)).heap.size := by simp; omega
  generalize w2.alloc (.cells #[.bool s2, .slice p2 n2 n2] 24) = W2 at *
  clear hB1 hbw1 hs1 hN2 hB2 hbw2
  have hsm := Small_fit s2 p2 n2 n2 x2 W2 (hN2'.hai (by omega)) (by rw [hN2'.v]; exact hz0) (by rw [hN2'.v]; exact hz1)
  rw [hN2'.v] at hsm
  refine hsm.mono ?_
  rintro e w3 ⟨rfl, hb3⟩
  clear hsm
  have hBb3 := hBb2.later hb3
  have hBa3 := hBa2.later hb3
  have hN3 := hN2'.below hb3
  have hbw3 := bnext hbw2' (Nat.le_refl _) hb3
  have hs3 : w.heap.size < w3.heap.size := Nat.lt_of_lt_of_le hs2' hb3.size
  clear hBb2 hBa2 hN2' hbw2' hs2' hb3
  have k0 := hBb3.c0
  have k1 := hBb3.c1
  have a0 := hBa3.c0
  have a1 := hBa3.c1
  go_wp2_with fail
  go_region_held3 (fun w' => w'.cell? ⟨w2.heap.size, 0, none⟩ = some (.bool s2) ∧ w'.cell? ⟨w2.heap.size, 1, none⟩ = some (.slice p2 n2 n2)) (first | exact ⟨by assumption, by assumption⟩ | exact keepc2 (by assumption) (by assumption))
    (first
      | (go_at_call 32; refine (rOf_any z _ hz0 hz1).mono ?_; rintro e w4 ⟨s4, p4, n4, d4, rfl, hR4, hv4, hn4, hF4, hb4⟩; have HV4 : Hid (rval s4 d4 = z) := hv4; clear hv4)
      | (go_at_call 12; have h1 := hN3.below (undrew hb4); refine (rIs_rn h1 (by omega) hR4 (by omega) HV4.out).mono ?_; rintro e w5 ⟨rfl, hb5⟩))
  have hb45 := bnext' (undrew hb4) hb5
  have hBa5 := hBa3.later hb45
  have hbw5 := bnext hbw3 (Nat.le_refl _) hb45
  have hs5 : w.heap.size < w5.heap.size := Nat.lt_of_lt_of_le hs3 hb45.size
  clear k0 k1 a0 a1 hBb3 hBa3 hN3 hbw3 hs3 hb4 hb5 hb45 hR4 HV4 hn4 hF4 h1
  have k0 := hBa5.c0
  have k1 := hBa5.c1
  go_wp2_with fail
  refine (Cut_any s p n nc xs _ hl hnc hb (hX.below hbw5) hU hp).mono ?_
  rintro e w6 ⟨p', n', nc', rfl, hA, hn24, hF, hb6⟩
  have hBa6 := hBa5.later hb6
  have hbw6 := bnext hbw5 (Nat.le_refl _) hb6
  have c0 := hBa6.c0
  have c1 := hBa6.c1
  have f0 := hBa6.f0
  have f1 := hBa6.f1
  clear k0 k1 hBa5 hbw5
  have hA7 := hA.set2 hF (g := w.heap.size) (by omega) (.bool s) (.slice p' n' nc')
  have hB7 : Bx ((w6.setCell ⟨w.heap.size, 0, none⟩ (.bool s)).setCell ⟨w.heap.size, 1, none⟩ (.slice p' n' nc')) w.heap.size (.bool s) (.slice p' n' nc') := Bx_set hBa6
  have hbw7 : Below w.heap.size w ((w6.setCell ⟨w.heap.size, 0, none⟩ (.bool s)).setCell ⟨w.heap.size, 1, none⟩ (.slice p' n' nc')) := bset2 hbw6 (Nat.le_refl _) _ _
  have j0 := hB7.c0
  have j1 := hB7.c1
  clear hA hF hb6 hBa6 hbw6 hs5
  go_wp2_with fail
  clear c0 c1 f0 f1
  generalize ((w6.setCell ⟨w.heap.size, 0, none⟩ (.bool s)).setCell ⟨w.heap.size, 1, none⟩ (.slice p' n' nc')) = W7 at *
  refine (From_ans s p' n' nc' (xs.take 24) _ hA7).mono ?_
  rintro e w8 ⟨s8, p8, n8, d8, rfl, hR8, hv8, hn8, hb8⟩
  have HV8 : Hid (rval s8 d8 = ival s (xs.take 24)) := hv8
  clear hv8
  have hB8 := hB7.later hb8
  have hA8 := hA7.below hb8
  have hbw8 := bnext hbw7 (Nat.le_refl _) hb8
  clear j0 j1 hB7 hA7 hbw7 hb8
  have j0 := (hB8.alloc (.cells #[.bool s8, .slice p8 n8 n8] 29)).c0
  have j1 := (hB8.alloc (.cells #[.bool s8, .slice p8 n8 n8] 29)).c1
  go_wp2_with fail
  have hBx9 : Bx (w8.alloc (.cells #[.bool s8, .slice p8 n8 n8] 29)) w8.heap.size (.bool s8) (.slice p8 n8 n8) := Bx.new _ _ _ rfl
  have hR9 := hR8.alloc (.cells #[.bool s8, .slice p8 n8 n8] 29)
  have hA9 := hA8.alloc (.cells #[.bool s8, .slice p8 n8 n8] 29)
  have hbw9 : Below w.heap.size w (w8.alloc (.cells #[.bool s8, .slice p8 n8 n8] 29)) := hbw8.alloc hbw8.size _
  generalize w8.alloc (.cells #[.bool s8, .slice p8 n8 n8] 29) = W9 at *
  refine (Small_all s p' n' nc' (xs.take 24) _ hA9).mono ?_
  rintro e w10 ⟨kk, ff, rfl, HK, hb10⟩
  have hBx := hBx9.later hb10
  have hR := hR9.below hb10
  have hbw10 := bnext hbw9 (Nat.le_refl _) hb10
  clear j0 j1 hB8 hA8 hbw8 hR8 hBx9 hR9 hA9 hbw9 hb10
  generalize w8.heap.size = gx8 at *
  go_wp2_with fail
  refine (rOf_any (-9223372036854775808) _ (by decide) (by decide)).mono ?_
  rintro e w11 ⟨sl, pl, nl, dl, rfl, hRl, hvl, hnl, hFl, hb11⟩
  have HVl : Hid (rval sl dl = -9223372036854775808) := hvl
  clear hvl
  have hBx11 := hBx.later hb11
  have hR11 := hR.below hb11
  have hbw11 := bnext hbw10 (Nat.le_refl _) hb11
  clear hBx hR hbw10 hFl hb11
  go_wp2_with fail
  refine (rOf_any 9223372036854775807 _ (by decide) (by decide)).mono ?_
  rintro e w12 ⟨sm, pm, nm, dm, rfl, hRm, hvm, hnm, hFm, hb12⟩
  have HVm : Hid (rval sm dm = 9223372036854775807) := hvm
  clear hvm
  have hBx12 := hBx11.later hb12
  have hR12 := hR11.below hb12
  have hRl12 := hRl.below hb12
  have hbw12 := bnext hbw11 (Nat.le_refl _) hb12
  clear hBx11 hR11 hRl hbw11 hFm hb12
  have hBx13 := (hBx12.alloc (.cells #[.bool sl, .slice pl nl nl] 29)).alloc (.cells #[.bool sm, .slice pm nm nm] 29)
  have hBl13 : Bx ((w12.alloc (.cells #[.bool sl, .slice pl nl nl] 29)).alloc (.cells #[.bool sm, .slice pm nm nm] 29)) w12.heap.size (.bool sl) (.slice pl nl nl) := (Bx.new _ _ _ rfl).alloc _
  have hBm13 : Bx ((w12.alloc (.cells #[.bool sl, .slice pl nl nl] 29)).alloc (.cells #[.bool sm, .slice pm nm nm] 29)) (w12.heap.size + 1) (.bool sm) (.slice pm nm nm) := Bx.new _ _ _ (World.size_alloc ..).symm
  have k0 := hBx13.c0
  have k1 := hBx13.c1
  have k2 := hBl13.c0
  have k3 := hBl13.c1
  have k4 := hBm13.c0
  have k5 := hBm13.c1
  go_wp2_with fail
  have hR13 := (hR12.alloc (.cells #[.bool sl, .slice pl nl nl] 29)).alloc (.cells #[.bool sm, .slice pm nm nm] 29)
  have hRl13 := (hRl12.alloc (.cells #[.bool sl, .slice pl nl nl] 29)).alloc (.cells #[.bool sm, .slice pm nm nm] 29)
  have hRm13 := (hRm.alloc (.cells #[.bool sl, .slice pl nl nl] 29)).alloc (.cells #[.bool sm, .slice pm nm nm] 29)
  have hbw13 : Below w.heap.size w ((w12.alloc (.cells #[.bool sl, .slice pl nl nl] 29)).alloc (.cells #[.bool sm, .slice pm nm nm] 29)) := (hbw12.alloc hbw12.size _).alloc (by have := hbw12.size; simp; omega) _
  generalize ((w12.alloc (.cells #[.bool sl, .slice pl nl nl] 29)).alloc (.cells #[.bool sm, .slice pm nm nm] 29)) = W13 at *
  clear hBx12 hR12 hRl12 hRm hbw12
  have e1 := HV8.out
  have e2 := HVl.out
  have e3 := HVm.out
  cases ff
  · obtain ⟨hk0, hV⟩ := HK.out.2 rfl
    subst hk0
    rcases hV with hV | hV
    · have hc1 : icmp (rval s8 d8) (rval sl dl) = -1 := icmp_lt (by omega)
      clear e1 e2 e3
      refine (rCmp_rn hR13 hRl13).mono ?_
      rintro e w14 ⟨rfl, hb14⟩
      have hBx14 := hBx13.later hb14
      have hBm14 := hBm13.later hb14
      have hR14 := hR13.below hb14
      have hRm14 := hRm13.below hb14
      have hbw14 := bnext hbw13 (Nat.le_refl _) hb14
      clear k0 k1 k2 k3 k4 k5
      have k0 := hBx14.c0
      have k1 := hBx14.c1
      have k4 := hBm14.c0
      have k5 := hBm14.c1
      go_wp2_with fail
      go_quiet (fail)
      go_wp2
      go_ret
      exact ⟨rfl, below_drewN hbw14 _⟩
    · have hc1 : icmp (rval s8 d8) (rval sl dl) = 1 := icmp_gt (by omega)
      have hc2 : icmp (rval s8 d8) (rval sm dm) = 1 := icmp_gt (by omega)
      clear e1 e2 e3
      refine (rCmp_rn hR13 hRl13).mono ?_
      rintro e w14 ⟨rfl, hb14⟩
      have hBx14 := hBx13.later hb14
      have hBm14 := hBm13.later hb14
      have hR14 := hR13.below hb14
      have hRm14 := hRm13.below hb14
      have hbw14 := bnext hbw13 (Nat.le_refl _) hb14
      clear k0 k1 k2 k3 k4 k5
      have k0 := hBx14.c0
      have k1 := hBx14.c1
      have k4 := hBm14.c0
      have k5 := hBm14.c1
      go_wp2_with fail
      refine (rCmp_rn hR14 hRm14).mono ?_
      rintro e w15 ⟨rfl, hb15⟩
      have hBx15 := hBx14.later hb15
      have hR15 := hR14.below hb15
      have hbw15 := bnext hbw14 (Nat.le_refl _) hb15
      clear k0 k1 k4 k5
      have k0 := hBx15.c0
      have k1 := hBx15.c1
      go_wp2_with fail
      go_quiet (fail)
      go_wp2
      go_ret
      exact ⟨rfl, below_drewN hbw15 _⟩
  · obtain ⟨hkv, hV1, hV2⟩ := HK.out.1 rfl
    have hc1 : 0 ≤ icmp (rval s8 d8) (rval sl dl) := by
      rcases Int.lt_or_eq_of_le hV1 with h | h
      · rw [icmp_gt (by omega)]; decide
      · rw [e1, e2, ← h, icmp_eq]; decide
    have hc2 : icmp (rval s8 d8) (rval sm dm) ≤ 0 := by
      rcases Int.lt_or_eq_of_le hV2 with h | h
      · rw [icmp_lt (by omega)]; decide
      · rw [e1, e3, h, icmp_eq]; decide
    have hd1 : decide (0 ≤ icmp (rval s8 d8) (rval sl dl)) = true := decide_eq_true hc1
    have hd2 : decide (icmp (rval s8 d8) (rval sm dm) ≤ 0) = true := decide_eq_true hc2
    have hkk0 : -9223372036854775808 ≤ kk := by omega
    have hkk1 : kk ≤ 9223372036854775807 := by omega
    have HKV : Hid (kk = rval s8 d8) := hkv.trans e1.symm
    clear e1 e2 e3 hkv hV1 hV2
    refine (rCmp_rn hR13 hRl13).mono ?_
    rintro e w14 ⟨rfl, hb14⟩
    have hBx14 := hBx13.later hb14
    have hBm14 := hBm13.later hb14
    have hR14 := hR13.below hb14
    have hRm14 := hRm13.below hb14
    have hbw14 := bnext hbw13 (Nat.le_refl _) hb14
    clear k0 k1 k2 k3 k4 k5
    have k0 := hBx14.c0
    have k1 := hBx14.c1
    have k4 := hBm14.c0
    have k5 := hBm14.c1
    go_wp2_with fail
    refine (rCmp_rn hR14 hRm14).mono ?_
    rintro e w15 ⟨rfl, hb15⟩
    have hBx15 := hBx14.later hb15
    have hR15 := hR14.below hb15
    have hbw15 := bnext hbw14 (Nat.le_refl _) hb15
    clear k0 k1 k4 k5
    have k0 := hBx15.c0
    have k1 := hBx15.c1
    go_wp2_with fail
    refine wp_region_noPanic ?_
    refine wp_region_held_drew (S := fun w' => w'.cell? ⟨gx8, 0, none⟩ = some (.bool s8) ∧ w'.cell? ⟨gx8, 1, none⟩ = some (.slice p8 n8 n8)) (by kernel_rfl) ⟨k0, k1⟩ (fun hHeld => ?_)
    refine wpAnyH_take (i := 0) (oi := { dst := some 49, op := Op.move (Operand.tmp 12), type := 4, pos := "law.go:107", after := #[], guard := none }) (v := .bool true) rfl (by kernel_rfl) (by kernel_rfl) (by kernel_rfl) (fun _ _ _ h => h) (Or.inl ⟨by rfl, fun w hSw => ?_⟩) (by assumption) ?_
    · dsimp only at hSw
      go_simp
    try simp only [Act.put, List.setIfInBounds_toArray, List.set_cons_zero, List.set_cons_succ]
    refine wpAnyH_take (i := 1) (oi := { dst := some 50, op := Op.move (Operand.tmp 15), type := 4, pos := "law.go:107", after := #[], guard := none }) (v := .bool true) rfl (by kernel_rfl) (by kernel_rfl) (by kernel_rfl) (fun _ _ _ h => h) (Or.inl ⟨by rfl, fun w hSw => ?_⟩) (by assumption) ?_
    · dsimp only at hSw
      go_simp
    try simp only [Act.put, List.setIfInBounds_toArray, List.set_cons_zero, List.set_cons_succ]
    refine wpAnyH_take (i := 2) (oi := { dst := some 51, op := Op.binOp BinOp.neq 4 (Operand.tmp 49) (Operand.tmp 50) 4, type := 4, pos := "law.go:107", after := #[{ on := 0, ground := Ground.data }, { on := 1, ground := Ground.data }], guard := none }) (v := .bool false) rfl (by kernel_rfl) (by kernel_rfl) (by kernel_rfl) (fun _ _ _ h => h) (Or.inl ⟨by rfl, fun w hSw => ?_⟩) (by assumption) ?_
    · dsimp only at hSw
      go_simp
    try simp only [Act.put, List.setIfInBounds_toArray, List.set_cons_zero, List.set_cons_succ]
    refine wpAnyH_take (i := 3) (oi := { dst := some 52, op := Op.move (Operand.tmp 51), type := 4, pos := "law.go:107", after := #[{ on := 2, ground := Ground.data }], guard := none }) (v := .bool false) rfl (by kernel_rfl) (by kernel_rfl) (by kernel_rfl) (fun _ _ _ h => h) (Or.inl ⟨by rfl, fun w hSw => ?_⟩) (by assumption) ?_
    · dsimp only at hSw
      go_simp
    try simp only [Act.put, List.setIfInBounds_toArray, List.set_cons_zero, List.set_cons_succ]
    refine wpAnyH_take (i := 4) (oi := { dst := some 53, op := Op.move (Operand.tmp 15), type := 4, pos := "law.go:107", after := #[{ on := 3, ground := Ground.guard }], guard := some (3, false) }) (v := .bool true) rfl (by kernel_rfl) (by kernel_rfl) (by kernel_rfl) (fun _ _ _ h => h) (Or.inl ⟨by rfl, fun w hSw => ?_⟩) (by assumption) ?_
    · dsimp only at hSw
      go_simp
    try simp only [Act.put, List.setIfInBounds_toArray, List.set_cons_zero, List.set_cons_succ]
    refine wpAnyH_take (i := 5) (oi := { dst := some 54, op := Op.unOp UnOp.not 4 (Operand.tmp 53), type := 4, pos := "law.go:107", after := #[{ on := 4, ground := Ground.data }, { on := 3, ground := Ground.guard }], guard := some (3, false) }) (v := .bool false) rfl (by kernel_rfl) (by kernel_rfl) (by kernel_rfl) (fun _ _ _ h => h) (Or.inl ⟨by rfl, fun w hSw => ?_⟩) (by assumption) ?_
    · dsimp only at hSw
      go_simp
    try simp only [Act.put, List.setIfInBounds_toArray, List.set_cons_zero, List.set_cons_succ]
    refine wpAnyH_take (i := 6) (oi := { dst := some 55, op := Op.move (Operand.tmp 54), type := 4, pos := "law.go:107", after := #[{ on := 5, ground := Ground.data }, { on := 3, ground := Ground.chain }, { on := 3, ground := Ground.guard }], guard := some (3, false) }) (v := .bool false) rfl (by kernel_rfl) (by kernel_rfl) (by kernel_rfl) (fun _ _ _ h => h) (Or.inl ⟨by rfl, fun w hSw => ?_⟩) (by assumption) ?_
    · dsimp only at hSw
      go_simp
    try simp only [Act.put, List.setIfInBounds_toArray, List.set_cons_zero, List.set_cons_succ]
    refine wpAnyH_take (i := 7) (oi := { dst := some 56, op := Op.move (Operand.tmp 11), type := 2, pos := "law.go:107", after := #[{ on := 6, ground := Ground.guard }], guard := some (6, true) }) (v := undef) rfl (by kernel_rfl) (by kernel_rfl) (by kernel_rfl) (fun _ _ _ h => h) (Or.inr ⟨by rfl, rfl⟩) (by assumption) ?_
    try simp only [Act.put, List.setIfInBounds_toArray, List.set_cons_zero, List.set_cons_succ]
    refine wpAnyH_take (i := 8) (oi := { dst := some 57, op := Op.binOp BinOp.neq 2 (Operand.tmp 56) (Operand.const (Value.int IntKind.i64 0)) 2, type := 4, pos := "law.go:107", after := #[{ on := 7, ground := Ground.data }, { on := 6, ground := Ground.guard }], guard := some (6, true) }) (v := undef) rfl (by kernel_rfl) (by kernel_rfl) (by kernel_rfl) (fun _ _ _ h => h) (Or.inr ⟨by rfl, rfl⟩) (by assumption) ?_
    try simp only [Act.put, List.setIfInBounds_toArray, List.set_cons_zero, List.set_cons_succ]
    refine wpAnyH_take (i := 9) (oi := { dst := some 58, op := Op.pick (Operand.tmp 55) (Operand.tmp 57) (Operand.const (Value.bool false)), type := 4, pos := "law.go:107", after := #[{ on := 6, ground := Ground.data }, { on := 8, ground := Ground.data }, { on := 3, ground := Ground.guard }], guard := some (3, false) }) (v := .bool false) rfl (by kernel_rfl) (by kernel_rfl) (by kernel_rfl) (fun _ _ _ h => h) (Or.inl ⟨by rfl, fun w hSw => ?_⟩) (by assumption) ?_
    · dsimp only at hSw
      go_simp
    try simp only [Act.put, List.setIfInBounds_toArray, List.set_cons_zero, List.set_cons_succ]
    refine wpAnyH_take (i := 10) (oi := { dst := some 59, op := Op.pick (Operand.tmp 52) (Operand.const (Value.bool true)) (Operand.tmp 58), type := 4, pos := "law.go:107", after := #[{ on := 3, ground := Ground.data }, { on := 9, ground := Ground.data }], guard := none }) (v := .bool false) rfl (by kernel_rfl) (by kernel_rfl) (by kernel_rfl) (fun _ _ _ h => h) (Or.inl ⟨by rfl, fun w hSw => ?_⟩) (by assumption) ?_
    · dsimp only at hSw
      go_simp
    try simp only [Act.put, List.setIfInBounds_toArray, List.set_cons_zero, List.set_cons_succ]
    refine wpAnyH_take (i := 11) (oi := { dst := some 60, op := Op.move (Operand.tmp 59), type := 4, pos := "law.go:107", after := #[{ on := 10, ground := Ground.data }, { on := 6, ground := Ground.chain }], guard := none }) (v := .bool false) rfl (by kernel_rfl) (by kernel_rfl) (by kernel_rfl) (fun _ _ _ h => h) (Or.inl ⟨by rfl, fun w hSw => ?_⟩) (by assumption) ?_
    · dsimp only at hSw
      go_simp
    try simp only [Act.put, List.setIfInBounds_toArray, List.set_cons_zero, List.set_cons_succ]
    refine wpAnyH_take (i := 12) (oi := { dst := some 61, op := Op.move (Operand.tmp 15), type := 4, pos := "law.go:107", after := #[{ on := 11, ground := Ground.guard }], guard := some (11, false) }) (v := .bool true) rfl (by kernel_rfl) (by kernel_rfl) (by kernel_rfl) (fun _ _ _ h => h) (Or.inl ⟨by rfl, fun w hSw => ?_⟩) (by assumption) ?_
    · dsimp only at hSw
      go_simp
    try simp only [Act.put, List.setIfInBounds_toArray, List.set_cons_zero, List.set_cons_succ]
    refine wpAnyH_take (i := 13) (oi := { dst := some 62, op := Op.move (Operand.tmp 61), type := 4, pos := "law.go:107", after := #[{ on := 12, ground := Ground.data }, { on := 11, ground := Ground.chain }, { on := 11, ground := Ground.guard }], guard := some (11, false) }) (v := .bool true) rfl (by kernel_rfl) (by kernel_rfl) (by kernel_rfl) (fun _ _ _ h => h) (Or.inl ⟨by rfl, fun w hSw => ?_⟩) (by assumption) ?_
    · dsimp only at hSw
      go_simp
    try simp only [Act.put, List.setIfInBounds_toArray, List.set_cons_zero, List.set_cons_succ]
    refine wpAnyH_take (i := 14) (oi := { dst := some 63, op := Op.move (Operand.tmp 11), type := 2, pos := "law.go:107", after := #[{ on := 13, ground := Ground.guard }], guard := some (13, true) }) (v := .int .i64 kk) rfl (by kernel_rfl) (by kernel_rfl) (by kernel_rfl) (fun _ _ _ h => h) (Or.inl ⟨by rfl, fun w hSw => ?_⟩) (by assumption) ?_
    · dsimp only at hSw
      go_simp
    try simp only [Act.put, List.setIfInBounds_toArray, List.set_cons_zero, List.set_cons_succ]
    refine wpAnyH_take (i := 16) (oi := { dst := some 65, op := Op.load 29 (Operand.tmp 10), type := 29, pos := "law.go:107", after := #[{ on := 13, ground := Ground.guard }], guard := some (13, true) }) (v := .agg #[.bool s8, .slice p8 n8 n8]) rfl (by kernel_rfl) (by kernel_rfl) (by kernel_rfl) (fun _ _ _ h => h) (Or.inl ⟨by rfl, fun w hSw => ?_⟩) (by assumption) ?_
    · dsimp only at hSw
      go_simp
    try simp only [Act.put, List.setIfInBounds_toArray, List.set_cons_zero, List.set_cons_succ]
    refine wpAnyH_ready (rs := [15]) (by kernel_rfl) (by simp) ?_
    refine AllReadyH.cons (o := { dst := some 64, op := Op.call { callee := Callee.value (Operand.func 32), args := #[Operand.tmp 63], argTypes := #[2] }, type := 29, pos := "law.go:107", after := #[{ on := 14, ground := Ground.data }, { on := 13, ground := Ground.chain }, { on := 13, ground := Ground.guard }], guard := some (13, true) }) rfl (fun K hK => ?_) AllReadyH.nil
    go_simp
    refine (rOf_any kk _ hkk0 hkk1).mono ?_
    rintro e w16 ⟨sk, pk, nk, dk, rfl, hRk, hvk, hnk, hFk, hb16⟩
    have HVk : Hid (rval sk dk = kk) := hvk
    clear hvk
    go_wp2_with fail
    refine hK.out _ _ ?_ (fun hHeld2 => ?_)
    · exact ⟨cell_later (undrew hb16) k0, cell_later (undrew hb16) k1⟩
    clear hK K
    try simp only [Act.put, List.setIfInBounds_toArray, List.set_cons_zero, List.set_cons_succ]
    have h1 := hR15.below (undrew hb16)
    have hc3 : icmp (rval sk dk) (rval s8 d8) = 0 := by rw [HVk.out, HKV.out, icmp_eq]
    refine wpAnyH_ready (rs := [17]) (by kernel_rfl) (by simp) ?_
    refine AllReadyH.cons (o := { dst := some 66, op := Op.call { callee := Callee.value (Operand.func 22), args := #[Operand.tmp 64, Operand.tmp 65], argTypes := #[29, 29] }, type := 3, pos := "law.go:107", after := #[{ on := 15, ground := Ground.data }, { on := 16, ground := Ground.data }, { on := 15, ground := Ground.chain }, { on := 13, ground := Ground.guard }], guard := some (13, true) }) rfl (fun K hK => ?_) AllReadyH.nil
    go_simp
    refine (rCmp_rn hRk h1).mono ?_
    rintro e w17 ⟨rfl, hb17⟩
    skip
    go_wp2_with fail
    refine hK.out _ _ ?_ (fun hHeld2 => ?_)
    · exact ⟨cell_later hb17 hHeld2.1, cell_later hb17 hHeld2.2⟩
    clear hK K
    try simp only [Act.put, List.setIfInBounds_toArray, List.set_cons_zero, List.set_cons_succ]
    refine wpAnyH_take (i := 18) (oi := { dst := some 67, op := Op.binOp BinOp.neq 3 (Operand.tmp 66) (Operand.const (Value.int IntKind.i64 0)) 3, type := 4, pos := "law.go:107", after := #[{ on := 17, ground := Ground.data }, { on := 13, ground := Ground.guard }], guard := some (13, true) }) (v := .bool false) rfl (by kernel_rfl) (by kernel_rfl) (by kernel_rfl) (fun _ _ _ h => h) (Or.inl ⟨by rfl, fun w hSw => ?_⟩) (by assumption) ?_
    · dsimp only at hSw
      go_simp
    try simp only [Act.put, List.setIfInBounds_toArray, List.set_cons_zero, List.set_cons_succ]
    refine wpAnyH_take (i := 19) (oi := { dst := some 68, op := Op.pick (Operand.tmp 62) (Operand.tmp 67) (Operand.const (Value.bool false)), type := 4, pos := "law.go:107", after := #[{ on := 13, ground := Ground.data }, { on := 18, ground := Ground.data }, { on := 11, ground := Ground.guard }], guard := some (11, false) }) (v := .bool false) rfl (by kernel_rfl) (by kernel_rfl) (by kernel_rfl) (fun _ _ _ h => h) (Or.inl ⟨by rfl, fun w hSw => ?_⟩) (by assumption) ?_
    · dsimp only at hSw
      go_simp
    try simp only [Act.put, List.setIfInBounds_toArray, List.set_cons_zero, List.set_cons_succ]
    refine wpAnyH_take (i := 20) (oi := { dst := some 69, op := Op.pick (Operand.tmp 60) (Operand.const (Value.bool true)) (Operand.tmp 68), type := 4, pos := "law.go:107", after := #[{ on := 11, ground := Ground.data }, { on := 19, ground := Ground.data }], guard := none }) (v := .bool false) rfl (by kernel_rfl) (by kernel_rfl) (by kernel_rfl) (fun _ _ _ h => h) (Or.inl ⟨by rfl, fun w hSw => ?_⟩) (by assumption) ?_
    · dsimp only at hSw
      go_simp
    try simp only [Act.put, List.setIfInBounds_toArray, List.set_cons_zero, List.set_cons_succ]
    refine wpAnyH_done (by kernel_rfl) ?_ _
    refine NoPanic.normal ?_
    go_wp2
    go_ret
    exact ⟨rfl, bnext (bnext hbw15 (Nat.le_refl _) (undrew hb16)) (Nat.le_refl _) hb17⟩
end Go.Proofs.YtgjgdhihpdpmcaaDoor
