/-
  limbs.Add, Sub.
-/
import Derived.Test.YtejnhpjejcpekaaGreatDoorNiUa
namespace Go.Proofs.YtejnhpjejcpekaaGreatDoor
open Go.RowKit
set_option linter.unusedVariables false
set_option linter.unusedSimpArgs false
set_option maxHeartbeats 8000000
theorem Add_same (s : Bool) (p q : Option Addr) (n nc m mc : Nat) (xs ys : List Int) (w : World) (hA : AI w p n nc xs) (hB : AI w q m mc ys) :
    Calls Tryz.prog 148 #[.agg #[.bool s, .slice p n nc], .agg #[.bool s, .slice q m mc]] w fun e w' => ∃ s' p' n' zs, e = .returned (.agg #[.bool s', .slice p' n' n']) ∧ NI w.heap.size w' s' p' n' zs (ival s xs + ival s ys) ∧ n' ≤ n + m + 1 ∧ Below w.heap.size w w' := by
  have tx := tlen_le xs
  have ty := tlen_le ys
  have lx := hA.len
  have ly := hB.len
  have bx := hA.sml
  have by' := hB.sml
  have hss : (s == s) = true := by simp
  go_enter Tryz.func148, Tryz.ntmps148
  go_wp2
  go_quiet (first
    | (go_at_call_of 131 (Value.slice p n nc); exact Calls.quiet_of_same (flip_same (trim_any p n nc xs _ hA.len hA.cap hA.bnd (((hA.rd.alloc _).alloc _).alloc _))))
    | (go_at_call_of 131 (Value.slice q m mc); exact Calls.quiet_of_same (flip_same (trim_any q m mc ys _ hB.len hB.cap hB.bnd (((hB.rd.alloc _).alloc _).alloc _)))))
  go_wp2
  have hX := boxes3 w (.bool s) (.slice p n nc) (.bool s) (.slice q m mc) (.bool false) (.slice none 0 0) 26 26 26 nq
  generalize ((((w.alloc (Obj.cells #[Value.bool s, Value.slice p n nc] 26)).alloc (Obj.cells #[Value.bool s, Value.slice q m mc] 26)).alloc (Obj.cells #[Value.bool false, Value.slice none 0 0] 26)).drewN nq) = W at *
  have hA' := hA.below hX.below
  have hB' := hB.below hX.below
  have k0 := hX.ca0
  have k1 := hX.ca1
  go_region_held3 (fun w' => w'.cell? ⟨w.heap.size, 0, none⟩ = some (.bool s) ∧ w'.cell? ⟨w.heap.size, 1, none⟩ = some (.slice p n nc)) (first | (simp [go_sem, *]; done) | exact keepc2 (by assumption) (by assumption))
    (first
      | (go_at_call 217; refine (sum_any p q (tlen xs) nc (tlen ys) mc (tr xs) (tr ys) _ (length_tr xs) (length_tr ys) (by omega) (by omega) ?_ (u32_tr hA.u) ?_ (u32_tr hB.u)).mono ?_; exact hA'.tr.rd.drew; exact hB'.tr.rd.drew; rintro e w1 ⟨M, zs, rfl, m1, m2, m3, z1, z2, z3, z4, hb1⟩)
      | (go_at_call 196; refine (number_any s (some ⟨W.heap.size, 0, none⟩) M M zs _ z1 (Nat.le_refl _) (by unfold maxLen; omega) ?_).mono ?_; exact z4.rd_all; rintro e w2 ⟨rfl, hb2⟩; obtain ⟨c0, c1, f0, f1⟩ := resbox ((undrew hb1).trans (hb2.mono (undrew hb1).size)) hX.cr0 hX.cr1 hX.fr0 hX.fr1))
  go_wp2
  have hsz := hX.size
  have hend := end_number (z := ival s xs + ival s ys) (sg := s) (u := .bool (nsg s zs)) (v := .slice (nad (some ⟨W.heap.size, 0, none⟩) zs) (tlen zs) (tlen zs)) hX.below (r := w.heap.size + 1 + 1) (by omega) (by omega) z4 z2 (undrew hb1) hb2 (by rw [val_tr, val_tr] at z3; simp only [ival, z3]; split <;> omega)
  refine bodyPost_ret (v := .agg #[.bool (nsg s zs), .slice (nad (some ⟨W.heap.size, 0, none⟩) zs) (tlen zs) (tlen zs)]) (by simp [results, Tryz.results148, go_sem, c0, c1]) rfl ⟨_, _, _, tr zs, rfl, hend.1, ?_, hend.2⟩
  have := tlen_le zs
  omega
theorem Add_ge (s : Bool) (p q : Option Addr) (n nc m mc : Nat) (xs ys : List Int) (w : World) (hA : AI w p n nc xs) (hB : AI w q m mc ys) (hge : val ys ≤ val xs) :
    Calls Tryz.prog 148 #[.agg #[.bool s, .slice p n nc], .agg #[.bool (!s), .slice q m mc]] w fun e w' => ∃ s' p' n' zs, e = .returned (.agg #[.bool s', .slice p' n' n']) ∧ NI w.heap.size w' s' p' n' zs (ival s xs + ival (!s) ys) ∧ n' ≤ n + m + 1 ∧ Below w.heap.size w w' := by
  have tx := tlen_le xs
  have ty := tlen_le ys
  have lx := hA.len
  have ly := hB.len
  have bx := hA.sml
  have by' := hB.sml
  have hss : (s == !s) = false := by cases s <;> rfl
  have hic : 0 ≤ icmp (val (tr xs)) (val (tr ys)) := by
    rw [val_tr, val_tr, icmp, if_neg (by omega)]; split <;> decide
  go_enter Tryz.func148, Tryz.ntmps148
  go_wp2
  go_quiet (first
    | (go_at_call_of 131 (Value.slice p n nc); exact Calls.quiet_of_same (flip_same (trim_any p n nc xs _ hA.len hA.cap hA.bnd (((hA.rd.alloc _).alloc _).alloc _))))
    | (go_at_call_of 131 (Value.slice q m mc); exact Calls.quiet_of_same (flip_same (trim_any q m mc ys _ hB.len hB.cap hB.bnd (((hB.rd.alloc _).alloc _).alloc _)))))
  go_wp2_with fail
  have hX0 := boxes3 w (.bool s) (.slice p n nc) (.bool !s) (.slice q m mc) (.bool false) (.slice none 0 0) 26 26 26 nq
  generalize ((((w.alloc (Obj.cells #[Value.bool s, Value.slice p n nc] 26)).alloc (Obj.cells #[Value.bool !s, Value.slice q m mc] 26)).alloc (Obj.cells #[Value.bool false, Value.slice none 0 0] 26)).drewN nq) = W0 at *
  have hA0 := (hA.below hX0.below).tr
  have hB0 := (hB.below hX0.below).tr
  refine (compare_any p q (tlen xs) nc (tlen ys) mc (tr xs) (tr ys) _ (length_tr xs) (length_tr ys) hA0.cap hA0.bnd hB0.cap hB0.bnd hA0.rd hA0.u hB0.rd hB0.u).mono ?_
  rintro e W ⟨rfl, hb0⟩
  have hX := hX0.later hb0
  have hA' := hA.below hX.below
  have hB' := hB.below hX.below
  have k0 := hX.ca0
  have k1 := hX.ca1
  clear hX0 hA0 hB0 hb0 W0
  go_wp2
  go_region_held3 (fun w' => w'.cell? ⟨w.heap.size, 0, none⟩ = some (.bool s) ∧ w'.cell? ⟨w.heap.size, 1, none⟩ = some (.slice p n nc)) (first | (simp [go_sem, *]; done) | exact keepc2 (by assumption) (by assumption))
    (first
      | (go_at_call 219; refine (difference_any p q (tlen xs) nc (tlen ys) mc (tr xs) (tr ys) _ (length_tr xs) (length_tr ys) hB'.tr.cap hB'.bnd (by omega) ?_ (u32_tr hA.u) ?_ (u32_tr hB.u) (by rw [val_tr, val_tr]; exact hge)).mono ?_; exact hA'.tr.rd.drew; exact hB'.tr.rd.drew; rintro e w1 ⟨zs, rfl, z1, z2, z3, z4, hb1⟩)
      | (go_at_call 196; refine (number_any s (some ⟨W.heap.size, 0, none⟩) (tlen xs) (tlen xs) zs _ z1 (Nat.le_refl _) (by unfold maxLen; omega) ?_).mono ?_; exact z4.rd_all; rintro e w2 ⟨rfl, hb2⟩; obtain ⟨c0, c1, f0, f1⟩ := resbox ((undrew hb1).trans (hb2.mono (undrew hb1).size)) hX.cr0 hX.cr1 hX.fr0 hX.fr1))
  go_wp2
  have hsz := hX.size
  have hend := end_number (z := ival s xs + ival (!s) ys) (sg := s) (u := .bool (nsg s zs)) (v := .slice (nad (some ⟨W.heap.size, 0, none⟩) zs) (tlen zs) (tlen zs)) hX.below (r := w.heap.size + 1 + 1) (by omega) (by omega) z4 z2 (undrew hb1) hb2 (by rw [val_tr, val_tr] at z3; cases s <;> simp [ival, z3] <;> omega)
  refine bodyPost_ret (v := .agg #[.bool (nsg s zs), .slice (nad (some ⟨W.heap.size, 0, none⟩) zs) (tlen zs) (tlen zs)]) (by simp [results, Tryz.results148, go_sem, c0, c1]) rfl ⟨_, _, _, tr zs, rfl, hend.1, ?_, hend.2⟩
  have := tlen_le zs
  omega
theorem Add_lt (s : Bool) (p q : Option Addr) (n nc m mc : Nat) (xs ys : List Int) (w : World) (hA : AI w p n nc xs) (hB : AI w q m mc ys) (hge : val xs < val ys) :
    Calls Tryz.prog 148 #[.agg #[.bool s, .slice p n nc], .agg #[.bool (!s), .slice q m mc]] w fun e w' => ∃ s' p' n' zs, e = .returned (.agg #[.bool s', .slice p' n' n']) ∧ NI w.heap.size w' s' p' n' zs (ival s xs + ival (!s) ys) ∧ n' ≤ n + m + 1 ∧ Below w.heap.size w w' := by
  have tx := tlen_le xs
  have ty := tlen_le ys
  have lx := hA.len
  have ly := hB.len
  have bx := hA.sml
  have by' := hB.sml
  have hss : (s == !s) = false := by cases s <;> rfl
  have hic : ¬ 0 ≤ icmp (val (tr xs)) (val (tr ys)) := by
    rw [val_tr, val_tr, icmp_lt hge]; decide
  go_enter Tryz.func148, Tryz.ntmps148
  go_wp2
  go_quiet (first
    | (go_at_call_of 131 (Value.slice p n nc); exact Calls.quiet_of_same (flip_same (trim_any p n nc xs _ hA.len hA.cap hA.bnd (((hA.rd.alloc _).alloc _).alloc _))))
    | (go_at_call_of 131 (Value.slice q m mc); exact Calls.quiet_of_same (flip_same (trim_any q m mc ys _ hB.len hB.cap hB.bnd (((hB.rd.alloc _).alloc _).alloc _)))))
  go_wp2_with fail
  have hX0 := boxes3 w (.bool s) (.slice p n nc) (.bool !s) (.slice q m mc) (.bool false) (.slice none 0 0) 26 26 26 nq
  generalize ((((w.alloc (Obj.cells #[Value.bool s, Value.slice p n nc] 26)).alloc (Obj.cells #[Value.bool !s, Value.slice q m mc] 26)).alloc (Obj.cells #[Value.bool false, Value.slice none 0 0] 26)).drewN nq) = W0 at *
  have hA0 := (hA.below hX0.below).tr
  have hB0 := (hB.below hX0.below).tr
  refine (compare_any p q (tlen xs) nc (tlen ys) mc (tr xs) (tr ys) _ (length_tr xs) (length_tr ys) hA0.cap hA0.bnd hB0.cap hB0.bnd hA0.rd hA0.u hB0.rd hB0.u).mono ?_
  rintro e W ⟨rfl, hb0⟩
  have hX := hX0.later hb0
  have hA' := hA.below hX.below
  have hB' := hB.below hX.below
  have k0 := hX.cb0
  have k1 := hX.cb1
  clear hX0 hA0 hB0 hb0 W0
  go_wp2
  go_region_held3 (fun w' => w'.cell? ⟨w.heap.size + 1, 0, none⟩ = some (.bool !s) ∧ w'.cell? ⟨w.heap.size + 1, 1, none⟩ = some (.slice q m mc)) (first | (simp [go_sem, *]; done) | exact keepc2 (by assumption) (by assumption))
    (first
      | (go_at_call 219; refine (difference_any q p (tlen ys) mc (tlen xs) nc (tr ys) (tr xs) _ (length_tr ys) (length_tr xs) hA'.tr.cap hA'.bnd (by omega) ?_ (u32_tr hB.u) ?_ (u32_tr hA.u) (by rw [val_tr, val_tr]; omega)).mono ?_; exact hB'.tr.rd.drew; exact hA'.tr.rd.drew; rintro e w1 ⟨zs, rfl, z1, z2, z3, z4, hb1⟩)
      | (go_at_call 196; refine (number_any (!s) (some ⟨W.heap.size, 0, none⟩) (tlen ys) (tlen ys) zs _ z1 (Nat.le_refl _) (by unfold maxLen; omega) ?_).mono ?_; exact z4.rd_all; rintro e w2 ⟨rfl, hb2⟩; obtain ⟨c0, c1, f0, f1⟩ := resbox ((undrew hb1).trans (hb2.mono (undrew hb1).size)) hX.cr0 hX.cr1 hX.fr0 hX.fr1))
  go_wp2
  have hsz := hX.size
  have hend := end_number (z := ival s xs + ival (!s) ys) (sg := !s) (u := .bool (nsg (!s) zs)) (v := .slice (nad (some ⟨W.heap.size, 0, none⟩) zs) (tlen zs) (tlen zs)) hX.below (r := w.heap.size + 1 + 1) (by omega) (by omega) z4 z2 (undrew hb1) hb2 (by rw [val_tr, val_tr] at z3; cases s <;> simp [ival, z3] <;> omega)
  refine bodyPost_ret (v := .agg #[.bool (nsg (!s) zs), .slice (nad (some ⟨W.heap.size, 0, none⟩) zs) (tlen zs) (tlen zs)]) (by simp [results, Tryz.results148, go_sem, c0, c1]) rfl ⟨_, _, _, tr zs, rfl, hend.1, ?_, hend.2⟩
  have := tlen_le zs
  omega
theorem Add_any (s t : Bool) (p q : Option Addr) (n nc m mc : Nat) (xs ys : List Int) (w : World) (hA : AI w p n nc xs) (hB : AI w q m mc ys) :
    Calls Tryz.prog 148 #[.agg #[.bool s, .slice p n nc], .agg #[.bool t, .slice q m mc]] w fun e w' => ∃ s' p' n' zs, e = .returned (.agg #[.bool s', .slice p' n' n']) ∧ NI w.heap.size w' s' p' n' zs (ival s xs + ival t ys) ∧ n' ≤ n + m + 1 ∧ Below w.heap.size w w' := by
  by_cases h : s = t
  · subst h; exact Add_same s p q n nc m mc xs ys w hA hB
  · have : t = !s := by cases s <;> cases t <;> simp_all
    subst this
    rcases Int.lt_or_le (val xs) (val ys) with hv | hv
    · exact Add_lt s p q n nc m mc xs ys w hA hB hv
    · exact Add_ge s p q n nc m mc xs ys w hA hB hv
theorem Sub_any (s t : Bool) (p q : Option Addr) (n nc m mc : Nat) (xs ys : List Int) (w : World) (hA : AI w p n nc xs) (hB : AI w q m mc ys) :
    Calls Tryz.prog 114 #[.agg #[.bool s, .slice p n nc], .agg #[.bool t, .slice q m mc]] w fun e w' => ∃ s' p' n' zs, e = .returned (.agg #[.bool s', .slice p' n' n']) ∧ NI w.heap.size w' s' p' n' zs (ival s xs - ival t ys) ∧ n' ≤ n + m + 1 ∧ Below w.heap.size w w' := by
  go_enter Tryz.func114, Tryz.ntmps114
  go_wp2_with fail
  refine (Add_any s (!t) p q n nc m mc xs ys _ (((hA.alloc _).alloc _).alloc _) (((hB.alloc _).alloc _).alloc _)).mono ?_
  rintro e w1 ⟨s', p', n', zs, rfl, hN, hn, hb⟩
  have hX := boxes3 w (.bool s) (.slice p n nc) (.bool t) (.slice q m mc) (.bool false) (.slice none 0 0) 26 26 26 0
  obtain ⟨c0, c1, f0, f1⟩ := resbox hb hX.cr0 hX.cr1 hX.fr0 hX.fr1
  go_wp2
  have hsz := hX.size
  have hend := end_ni (u := .bool s') (v := .slice p' n' n') hX.below (r := w.heap.size + 1 + 1) (by omega) (by omega) hN hb
  refine bodyPost_ret (v := .agg #[.bool s', .slice p' n' n']) (by simp [results, Tryz.results114, go_sem, c0, c1]) rfl ⟨_, _, _, zs, rfl, ?_, hn, hend.2⟩
  have := hend.1
  rwa [ival_not, show ival s xs + - ival t ys = ival s xs - ival t ys by omega] at this
end Go.Proofs.YtejnhpjejcpekaaGreatDoor
