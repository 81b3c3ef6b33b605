/-
  rat.Norm, and what the functions of two rationals share.
-/
import Derived.Test.YtongkalfdgleaaaGreatDoorZc
import Derived.Test.YtongkalfdgleaaaGreatDoorNi
namespace Go.Proofs.YtongkalfdgleaaaGreatDoor
open Go.RowKit
set_option linter.unusedVariables false
set_option linter.unusedSimpArgs false

theorem Bq_set {w : World} {g : Nat} {a0 a1 a2 a3 u v x y : Value} (h : Bq w g a0 a1 a2 a3) : Bq ((((w.setCell ⟨g, 0, none⟩ u).setCell ⟨g, 1, none⟩ v).setCell ⟨g, 2, none⟩ x).setCell ⟨g, 3, none⟩ y) g u v x y := by
  obtain ⟨c0, c1, c2, c3, f0, f1, f2, f3⟩ := h
  have e0 := World.cell?_setCell_same w ⟨g, 0, none⟩ u c0
  have e1 : (w.setCell ⟨g, 0, none⟩ u).cell? ⟨g, 1, none⟩ = some a1 := by rw [World.cell?_setCell_other _ _ _ _ (by simp)]; exact c1
  have e2 : ((w.setCell ⟨g, 0, none⟩ u).setCell ⟨g, 1, none⟩ v).cell? ⟨g, 2, none⟩ = some a2 := by rw [World.cell?_setCell_other _ _ _ _ (by simp), World.cell?_setCell_other _ _ _ _ (by simp)]; exact c2
  have e3 : (((w.setCell ⟨g, 0, none⟩ u).setCell ⟨g, 1, none⟩ v).setCell ⟨g, 2, none⟩ x).cell? ⟨g, 3, none⟩ = some a3 := by rw [World.cell?_setCell_other _ _ _ _ (by simp), World.cell?_setCell_other _ _ _ _ (by simp), World.cell?_setCell_other _ _ _ _ (by simp)]; exact c3
  refine ⟨?_, ?_, ?_, World.cell?_setCell_same _ _ _ e3, ?_, ?_, ?_, ?_⟩
  · rw [World.cell?_setCell_other _ _ _ _ (by simp), World.cell?_setCell_other _ _ _ _ (by simp), World.cell?_setCell_other _ _ _ _ (by simp)]; exact e0
  · rw [World.cell?_setCell_other _ _ _ _ (by simp), World.cell?_setCell_other _ _ _ _ (by simp)]; exact World.cell?_setCell_same _ _ _ e1
  · rw [World.cell?_setCell_other _ _ _ _ (by simp)]; exact World.cell?_setCell_same _ _ _ e2
  all_goals (rw [World.frozen?_setCell, World.frozen?_setCell, World.frozen?_setCell, World.frozen?_setCell]; assumption)
theorem Bq_oth {w : World} {r g : Nat} {a0 a1 a2 a3 u v x y : Value} (h : Bq w r a0 a1 a2 a3) (hne : r ≠ g) : Bq ((((w.setCell ⟨g, 0, none⟩ u).setCell ⟨g, 1, none⟩ v).setCell ⟨g, 2, none⟩ x).setCell ⟨g, 3, none⟩ y) r a0 a1 a2 a3 := by
  have e : ((((w.setCell ⟨g, 0, none⟩ u).setCell ⟨g, 1, none⟩ v).setCell ⟨g, 2, none⟩ x).setCell ⟨g, 3, none⟩ y).heap[r]? = w.heap[r]? := (heap_setCell_other _ _ r y hne).trans ((heap_setCell_other _ _ r x hne).trans ((heap_setCell_other _ _ r v hne).trans (heap_setCell_other _ _ r u hne)))
  exact ⟨(World.cell?_of_block (a := ⟨r, 0, none⟩) e).trans h.c0, (World.cell?_of_block (a := ⟨r, 1, none⟩) e).trans h.c1, (World.cell?_of_block (a := ⟨r, 2, none⟩) e).trans h.c2, (World.cell?_of_block (a := ⟨r, 3, none⟩) e).trans h.c3, (World.frozen?_of_block (a := ⟨r, 0, none⟩) e).trans h.f0, (World.frozen?_of_block (a := ⟨r, 1, none⟩) e).trans h.f1, (World.frozen?_of_block (a := ⟨r, 2, none⟩) e).trans h.f2, (World.frozen?_of_block (a := ⟨r, 3, none⟩) e).trans h.f3⟩
/-- The end of a function that hands on a rational that a callee has answered. -/
theorem end_nr {w W w1 : World} {r : Nat} {s : Bool} {p : Option Addr} {n : Nat} {xs : List Int} {t : Bool} {q : Option Addr} {m : Nat} {ys : List Int} {z : Rat} {u v x y : Value} (hw : Below w.heap.size w W) (hr : w.heap.size ≤ r) (hr' : r < W.heap.size)
    (hN : NR W.heap.size w1 s p n xs t q m ys z) (hb : Below W.heap.size W w1) :
    NrPost z w (.returned (.agg #[.bool s, .slice p n n, .bool t, .slice q m m])) ((((w1.setCell ⟨r, 0, none⟩ u).setCell ⟨r, 1, none⟩ v).setCell ⟨r, 2, none⟩ x).setCell ⟨r, 3, none⟩ y) :=
  ⟨_, _, _, xs, _, _, _, ys, rfl, ⟨(hN.num.set4 hr' _ _ _ _).mono hw.size, (hN.den.set4 hr' _ _ _ _).mono hw.size⟩, bset4 (bnext' hw hb) hr _ _ _ _⟩
set_option maxRecDepth 100000 in
set_option maxHeartbeats 2000000 in
/-- rat.Norm. -/
theorem Norm_any (s t : Bool) (p q : Option Addr) (n nc m mc : Nat) (xs ys : List Int) (w : World) (hA : AI w p n nc xs) (hB : AI w q m mc ys) (hn : n < 150) (hm : m < 150) :
    Calls Tryz.prog 16 #[.agg #[.bool s, .slice p n nc, .bool t, .slice q m mc]] w (NrPost (Rat.divInt (ival s xs) (ival t ys)) w) := by
  generalize hQ : Rat.divInt (ival s xs) (ival t ys) = Q
  have HQ : Hid (Rat.divInt (ival s xs) (ival t ys) = Q) := hQ
  clear hQ
  go_enter Tryz.func16, Tryz.ntmps16
  go_wp2_with fail
  have hA0 : Bq ((w.alloc (.cells #[.bool s, .slice p n nc, .bool t, .slice q m mc] 26)).alloc (.cells #[.bool false, .slice none 0 0, .bool false, .slice none 0 0] 26)) w.heap.size (.bool s) (.slice p n nc) (.bool t) (.slice q m mc) := (Bq.new _ _ _ _ _ rfl).alloc _
  have hR : Bq ((w.alloc (.cells #[.bool s, .slice p n nc, .bool t, .slice q m mc] 26)).alloc (.cells #[.bool false, .slice none 0 0, .bool false, .slice none 0 0] 26)) (w.heap.size + 1) (.bool false) (.slice none 0 0) (.bool false) (.slice none 0 0) := Bq.new _ _ _ _ _ (by simp)
  have hW : Below w.heap.size w ((w.alloc (.cells #[.bool s, .slice p n nc, .bool t, .slice q m mc] 26)).alloc (.cells #[.bool false, .slice none 0 0, .bool false, .slice none 0 0] 26)) := ((Below.refl _ _).alloc (Nat.le_refl _) _).alloc (by simp) _
  generalize (w.alloc (.cells #[.bool s, .slice p n nc, .bool t, .slice q m mc] 26)).alloc (.cells #[.bool false, .slice none 0 0, .bool false, .slice none 0 0] 26) = W at *
  have hs := hR.lt
  refine (upright_any s t p q n nc m mc xs ys _ (hA.below hW) (hB.below hW) 149 (by omega) (by omega) (by omega)).mono ?_
  rintro e w1 ⟨s1, p1, n1, nc1, x1, t1, q1, m1, mc1, y1, rfl, hA1, hB1, hp, hv, hn1, hm1, hof, hb1⟩
  have ho := hof w.heap.size (by omega) (hA.off (Nat.le_refl _)) (hB.off (Nat.le_refl _))
  have hA2 := hA1.set4 ho.1 (.bool s1) (.slice p1 n1 nc1) (.bool t1) (.slice q1 m1 mc1)
  have hB2 := hB1.set4 ho.2 (.bool s1) (.slice p1 n1 nc1) (.bool t1) (.slice q1 m1 mc1)
  have hBa := Bq_set (u := .bool s1) (v := .slice p1 n1 nc1) (x := .bool t1) (y := .slice q1 m1 mc1) (hA0.later hb1)
  have hBr := Bq_oth (g := w.heap.size) (u := .bool s1) (v := .slice p1 n1 nc1) (x := .bool t1) (y := .slice q1 m1 mc1) (hR.later hb1) (by omega)
  have hW2 := bset4 (g := w.heap.size) (bnext' hW hb1) (Nat.le_refl _) (.bool s1) (.slice p1 n1 nc1) (.bool t1) (.slice q1 m1 mc1)
  obtain ⟨a0, a1, a2, a3, f0, f1, f2, f3⟩ := hA0.later hb1
  obtain ⟨c0, c1, c2, c3, -, -, -, -⟩ := hBa
  clear hof ho hA0 hR hA1 hB1 hW
  have HV : Hid (Rat.divInt (ival s1 x1) (ival t1 y1) = Q) := hv.trans HQ.out
  clear hv
  go_wp2_with fail
  generalize (((w1.setCell ⟨w.heap.size, 0, none⟩ (.bool s1)).setCell ⟨w.heap.size, 1, none⟩ (.slice p1 n1 nc1)).setCell ⟨w.heap.size, 2, none⟩ (.bool t1)).setCell ⟨w.heap.size, 3, none⟩ (.slice q1 m1 mc1) = W2 at *
  have h3 := lowest_any s1 t1 p1 q1 n1 nc1 m1 mc1 x1 y1 W2 hA2 hB2 (by omega) (by omega) (by omega)
  rw [HV.out] at h3
  refine h3.mono ?_
  rintro e w3 ⟨s3, p3, n3, x3, t3, q3, m3, y3, rfl, hN3, hb3⟩
  have hs2 := hBr.lt
  clear c0 c1 c2 c3 a0 a1 a2 a3 f0 f1 f2 f3
  obtain ⟨r0, r1, r2, r3, f0, f1, f2, f3⟩ := hBr.later hb3
  go_wp2
  exact bodyPost_ret (v := .agg #[.bool s3, .slice p3 n3 n3, .bool t3, .slice q3 m3 m3]) (by simp [results, Tryz.results16, go_sem, r0, r1, r2, r3]) rfl (end_nr hW2 (by omega) hs2 hN3 hb3)
end Go.Proofs.YtongkalfdgleaaaGreatDoor
/-
  limbs.Add, Sub.
-/
namespace Go.Proofs.YtongkalfdgleaaaGreatDoor
open Go.RowKit
set_option linter.unusedVariables false
set_option linter.unusedSimpArgs false

set_option maxHeartbeats 1000000 in
/-- limbs.Add: the signs are the same. -/
theorem Add_same (s : Bool) (p q : Option Addr) (n nc m mc : Nat) (xs ys : List Int) (w : World) (hA : AI w p n nc xs) (hB : AI w q m mc ys) :
    Calls Tryz.prog 40 #[.agg #[.bool s, .slice p n nc], .agg #[.bool s, .slice q m mc]] w fun e w' => ∃ s' p' n' zs, e = .returned (.agg #[.bool s', .slice p' n' n']) ∧ NI w.heap.size w' s' p' n' zs (ival s xs + ival s ys) ∧ n' ≤ n + m + 1 ∧ Below w.heap.size w w' := by
  have tx := tlen_le xs
  have ty := tlen_le ys
  have lx := hA.len
  have ly := hB.len
  have bx := hA.sml
  have by' := hB.sml
  have hss : (s == s) = true := by simp
  go_enter Tryz.func40, Tryz.ntmps40
  go_wp2
  go_quiet (first
    | (go_at_call_of 67 (Value.slice p n nc); exact Calls.quiet_of_same (flip_same (trim_any p n nc xs _ hA.len hA.cap hA.bnd (((hA.rd.alloc _).alloc _).alloc _))))
    | (go_at_call_of 67 (Value.slice q m mc); exact Calls.quiet_of_same (flip_same (trim_any q m mc ys _ hB.len hB.cap hB.bnd (((hB.rd.alloc _).alloc _).alloc _)))))
  go_wp2
  have hX := boxes3 w (.bool s) (.slice p n nc) (.bool s) (.slice q m mc) (.bool false) (.slice none 0 0) 24 24 24 nq
  generalize ((((w.alloc (Obj.cells #[Value.bool s, Value.slice p n nc] 24)).alloc (Obj.cells #[Value.bool s, Value.slice q m mc] 24)).alloc (Obj.cells #[Value.bool false, Value.slice none 0 0] 24)).drewN nq) = W at *
  have hA' := hA.below hX.below
  have hB' := hB.below hX.below
  have k0 := hX.ca0
  have k1 := hX.ca1
  go_region_held3 (fun w' => w'.cell? ⟨w.heap.size, 0, none⟩ = some (.bool s) ∧ w'.cell? ⟨w.heap.size, 1, none⟩ = some (.slice p n nc)) (first | (simp [go_sem, *]; done) | exact keepc2 (by assumption) (by assumption))
    (first
      | (go_at_call 69; refine (sum_any p q (tlen xs) nc (tlen ys) mc (tr xs) (tr ys) _ (length_tr xs) (length_tr ys) (by omega) (by omega) ?_ (u32_tr hA.u) ?_ (u32_tr hB.u)).mono ?_; exact hA'.tr.rd.drew; exact hB'.tr.rd.drew; rintro e w1 ⟨M, zs, rfl, m1, m2, m3, z1, z2, z3, z4, hb1⟩)
      | (go_at_call 68; refine (number_any s (some ⟨W.heap.size, 0, none⟩) M M zs _ z1 (Nat.le_refl _) (by unfold maxLen; omega) ?_).mono ?_; exact z4.rd_all; rintro e w2 ⟨rfl, hb2⟩; obtain ⟨c0, c1, f0, f1⟩ := resbox ((undrew hb1).trans (hb2.mono (undrew hb1).size)) hX.cr0 hX.cr1 hX.fr0 hX.fr1))
  go_wp2
  have hsz := hX.size
  have hend := end_number (z := ival s xs + ival s ys) (sg := s) (u := .bool (nsg s zs)) (v := .slice (nad (some ⟨W.heap.size, 0, none⟩) zs) (tlen zs) (tlen zs)) hX.below (r := w.heap.size + 1 + 1) (by omega) (by omega) z4 z2 (undrew hb1) hb2 (by rw [val_tr, val_tr] at z3; simp only [ival, z3]; split <;> omega)
  refine bodyPost_ret (v := .agg #[.bool (nsg s zs), .slice (nad (some ⟨W.heap.size, 0, none⟩) zs) (tlen zs) (tlen zs)]) (by simp [results, Tryz.results40, go_sem, c0, c1]) rfl ⟨_, _, _, tr zs, rfl, hend.1, ?_, hend.2⟩
  have := tlen_le zs
  omega

set_option maxHeartbeats 1000000 in
/-- limbs.Add: the signs differ, the first size is not below the second. -/
theorem Add_ge (s : Bool) (p q : Option Addr) (n nc m mc : Nat) (xs ys : List Int) (w : World) (hA : AI w p n nc xs) (hB : AI w q m mc ys) (hge : val ys ≤ val xs) :
    Calls Tryz.prog 40 #[.agg #[.bool s, .slice p n nc], .agg #[.bool (!s), .slice q m mc]] w fun e w' => ∃ s' p' n' zs, e = .returned (.agg #[.bool s', .slice p' n' n']) ∧ NI w.heap.size w' s' p' n' zs (ival s xs + ival (!s) ys) ∧ n' ≤ n + m + 1 ∧ Below w.heap.size w w' := by
  have tx := tlen_le xs
  have ty := tlen_le ys
  have lx := hA.len
  have ly := hB.len
  have bx := hA.sml
  have by' := hB.sml
  have hss : (s == !s) = false := by cases s <;> rfl
  have hic : 0 ≤ icmp (val (tr xs)) (val (tr ys)) := by
    rw [val_tr, val_tr, icmp, if_neg (by omega)]; split <;> decide
  go_enter Tryz.func40, Tryz.ntmps40
  go_wp2
  go_quiet (first
    | (go_at_call_of 67 (Value.slice p n nc); exact Calls.quiet_of_same (flip_same (trim_any p n nc xs _ hA.len hA.cap hA.bnd (((hA.rd.alloc _).alloc _).alloc _))))
    | (go_at_call_of 67 (Value.slice q m mc); exact Calls.quiet_of_same (flip_same (trim_any q m mc ys _ hB.len hB.cap hB.bnd (((hB.rd.alloc _).alloc _).alloc _)))))
  go_wp2_with fail
  have hX0 := boxes3 w (.bool s) (.slice p n nc) (.bool !s) (.slice q m mc) (.bool false) (.slice none 0 0) 24 24 24 nq
  generalize ((((w.alloc (Obj.cells #[Value.bool s, Value.slice p n nc] 24)).alloc (Obj.cells #[Value.bool !s, Value.slice q m mc] 24)).alloc (Obj.cells #[Value.bool false, Value.slice none 0 0] 24)).drewN nq) = W0 at *
  have hA0 := (hA.below hX0.below).tr
  have hB0 := (hB.below hX0.below).tr
  refine (compare_any p q (tlen xs) nc (tlen ys) mc (tr xs) (tr ys) _ (length_tr xs) (length_tr ys) hA0.cap hA0.bnd hB0.cap hB0.bnd hA0.rd hA0.u hB0.rd hB0.u).mono ?_
  rintro e W ⟨rfl, hb0⟩
  have hX := hX0.later hb0
  have hA' := hA.below hX.below
  have hB' := hB.below hX.below
  have k0 := hX.ca0
  have k1 := hX.ca1
  clear hX0 hA0 hB0 hb0 W0
  go_wp2
  go_region_held3 (fun w' => w'.cell? ⟨w.heap.size, 0, none⟩ = some (.bool s) ∧ w'.cell? ⟨w.heap.size, 1, none⟩ = some (.slice p n nc)) (first | (simp [go_sem, *]; done) | exact keepc2 (by assumption) (by assumption))
    (first
      | (go_at_call 71; refine (difference_any p q (tlen xs) nc (tlen ys) mc (tr xs) (tr ys) _ (length_tr xs) (length_tr ys) hB'.tr.cap hB'.bnd (by omega) ?_ (u32_tr hA.u) ?_ (u32_tr hB.u) (by rw [val_tr, val_tr]; exact hge)).mono ?_; exact hA'.tr.rd.drew; exact hB'.tr.rd.drew; rintro e w1 ⟨zs, rfl, z1, z2, z3, z4, hb1⟩)
      | (go_at_call 68; refine (number_any s (some ⟨W.heap.size, 0, none⟩) (tlen xs) (tlen xs) zs _ z1 (Nat.le_refl _) (by unfold maxLen; omega) ?_).mono ?_; exact z4.rd_all; rintro e w2 ⟨rfl, hb2⟩; obtain ⟨c0, c1, f0, f1⟩ := resbox ((undrew hb1).trans (hb2.mono (undrew hb1).size)) hX.cr0 hX.cr1 hX.fr0 hX.fr1))
  go_wp2
  have hsz := hX.size
  have hend := end_number (z := ival s xs + ival (!s) ys) (sg := s) (u := .bool (nsg s zs)) (v := .slice (nad (some ⟨W.heap.size, 0, none⟩) zs) (tlen zs) (tlen zs)) hX.below (r := w.heap.size + 1 + 1) (by omega) (by omega) z4 z2 (undrew hb1) hb2 (by rw [val_tr, val_tr] at z3; cases s <;> simp [ival, z3] <;> omega)
  refine bodyPost_ret (v := .agg #[.bool (nsg s zs), .slice (nad (some ⟨W.heap.size, 0, none⟩) zs) (tlen zs) (tlen zs)]) (by simp [results, Tryz.results40, go_sem, c0, c1]) rfl ⟨_, _, _, tr zs, rfl, hend.1, ?_, hend.2⟩
  have := tlen_le zs
  omega
set_option maxHeartbeats 1000000 in
/-- limbs.Add: the signs differ, the first size is below the second. -/
theorem Add_lt (s : Bool) (p q : Option Addr) (n nc m mc : Nat) (xs ys : List Int) (w : World) (hA : AI w p n nc xs) (hB : AI w q m mc ys) (hge : val xs < val ys) :
    Calls Tryz.prog 40 #[.agg #[.bool s, .slice p n nc], .agg #[.bool (!s), .slice q m mc]] w fun e w' => ∃ s' p' n' zs, e = .returned (.agg #[.bool s', .slice p' n' n']) ∧ NI w.heap.size w' s' p' n' zs (ival s xs + ival (!s) ys) ∧ n' ≤ n + m + 1 ∧ Below w.heap.size w w' := by
  have tx := tlen_le xs
  have ty := tlen_le ys
  have lx := hA.len
  have ly := hB.len
  have bx := hA.sml
  have by' := hB.sml
  have hss : (s == !s) = false := by cases s <;> rfl
  have hic : ¬ 0 ≤ icmp (val (tr xs)) (val (tr ys)) := by
    rw [val_tr, val_tr, icmp_lt hge]; decide
  go_enter Tryz.func40, Tryz.ntmps40
  go_wp2
  go_quiet (first
    | (go_at_call_of 67 (Value.slice p n nc); exact Calls.quiet_of_same (flip_same (trim_any p n nc xs _ hA.len hA.cap hA.bnd (((hA.rd.alloc _).alloc _).alloc _))))
    | (go_at_call_of 67 (Value.slice q m mc); exact Calls.quiet_of_same (flip_same (trim_any q m mc ys _ hB.len hB.cap hB.bnd (((hB.rd.alloc _).alloc _).alloc _)))))
  go_wp2_with fail
  have hX0 := boxes3 w (.bool s) (.slice p n nc) (.bool !s) (.slice q m mc) (.bool false) (.slice none 0 0) 24 24 24 nq
  generalize ((((w.alloc (Obj.cells #[Value.bool s, Value.slice p n nc] 24)).alloc (Obj.cells #[Value.bool !s, Value.slice q m mc] 24)).alloc (Obj.cells #[Value.bool false, Value.slice none 0 0] 24)).drewN nq) = W0 at *
  have hA0 := (hA.below hX0.below).tr
  have hB0 := (hB.below hX0.below).tr
  refine (compare_any p q (tlen xs) nc (tlen ys) mc (tr xs) (tr ys) _ (length_tr xs) (length_tr ys) hA0.cap hA0.bnd hB0.cap hB0.bnd hA0.rd hA0.u hB0.rd hB0.u).mono ?_
  rintro e W ⟨rfl, hb0⟩
  have hX := hX0.later hb0
  have hA' := hA.below hX.below
  have hB' := hB.below hX.below
  have k0 := hX.cb0
  have k1 := hX.cb1
  clear hX0 hA0 hB0 hb0 W0
  go_wp2
  go_region_held3 (fun w' => w'.cell? ⟨w.heap.size + 1, 0, none⟩ = some (.bool !s) ∧ w'.cell? ⟨w.heap.size + 1, 1, none⟩ = some (.slice q m mc)) (first | (simp [go_sem, *]; done) | exact keepc2 (by assumption) (by assumption))
    (first
      | (go_at_call 71; refine (difference_any q p (tlen ys) mc (tlen xs) nc (tr ys) (tr xs) _ (length_tr ys) (length_tr xs) hA'.tr.cap hA'.bnd (by omega) ?_ (u32_tr hB.u) ?_ (u32_tr hA.u) (by rw [val_tr, val_tr]; omega)).mono ?_; exact hB'.tr.rd.drew; exact hA'.tr.rd.drew; rintro e w1 ⟨zs, rfl, z1, z2, z3, z4, hb1⟩)
      | (go_at_call 68; refine (number_any (!s) (some ⟨W.heap.size, 0, none⟩) (tlen ys) (tlen ys) zs _ z1 (Nat.le_refl _) (by unfold maxLen; omega) ?_).mono ?_; exact z4.rd_all; rintro e w2 ⟨rfl, hb2⟩; obtain ⟨c0, c1, f0, f1⟩ := resbox ((undrew hb1).trans (hb2.mono (undrew hb1).size)) hX.cr0 hX.cr1 hX.fr0 hX.fr1))
  go_wp2
  have hsz := hX.size
  have hend := end_number (z := ival s xs + ival (!s) ys) (sg := !s) (u := .bool (nsg (!s) zs)) (v := .slice (nad (some ⟨W.heap.size, 0, none⟩) zs) (tlen zs) (tlen zs)) hX.below (r := w.heap.size + 1 + 1) (by omega) (by omega) z4 z2 (undrew hb1) hb2 (by rw [val_tr, val_tr] at z3; cases s <;> simp [ival, z3] <;> omega)
  refine bodyPost_ret (v := .agg #[.bool (nsg (!s) zs), .slice (nad (some ⟨W.heap.size, 0, none⟩) zs) (tlen zs) (tlen zs)]) (by simp [results, Tryz.results40, go_sem, c0, c1]) rfl ⟨_, _, _, tr zs, rfl, hend.1, ?_, hend.2⟩
  have := tlen_le zs
  omega

/-- limbs.Add. -/
theorem Add_any (s t : Bool) (p q : Option Addr) (n nc m mc : Nat) (xs ys : List Int) (w : World) (hA : AI w p n nc xs) (hB : AI w q m mc ys) :
    Calls Tryz.prog 40 #[.agg #[.bool s, .slice p n nc], .agg #[.bool t, .slice q m mc]] w fun e w' => ∃ s' p' n' zs, e = .returned (.agg #[.bool s', .slice p' n' n']) ∧ NI w.heap.size w' s' p' n' zs (ival s xs + ival t ys) ∧ n' ≤ n + m + 1 ∧ Below w.heap.size w w' := by
  by_cases h : s = t
  · subst h; exact Add_same s p q n nc m mc xs ys w hA hB
  · have : t = !s := by cases s <;> cases t <;> simp_all
    subst this
    rcases Int.lt_or_le (val xs) (val ys) with hv | hv
    · exact Add_lt s p q n nc m mc xs ys w hA hB hv
    · exact Add_ge s p q n nc m mc xs ys w hA hB hv

set_option maxHeartbeats 1000000 in
/-- limbs.Sub. -/
theorem Sub_any (s t : Bool) (p q : Option Addr) (n nc m mc : Nat) (xs ys : List Int) (w : World) (hA : AI w p n nc xs) (hB : AI w q m mc ys) :
    Calls Tryz.prog 43 #[.agg #[.bool s, .slice p n nc], .agg #[.bool t, .slice q m mc]] w fun e w' => ∃ s' p' n' zs, e = .returned (.agg #[.bool s', .slice p' n' n']) ∧ NI w.heap.size w' s' p' n' zs (ival s xs - ival t ys) ∧ n' ≤ n + m + 1 ∧ Below w.heap.size w w' := by
  go_enter Tryz.func43, Tryz.ntmps43
  go_wp2_with fail
  refine (Add_any s (!t) p q n nc m mc xs ys _ (((hA.alloc _).alloc _).alloc _) (((hB.alloc _).alloc _).alloc _)).mono ?_
  rintro e w1 ⟨s', p', n', zs, rfl, hN, hn, hb⟩
  have hX := boxes3 w (.bool s) (.slice p n nc) (.bool t) (.slice q m mc) (.bool false) (.slice none 0 0) 24 24 24 0
  obtain ⟨c0, c1, f0, f1⟩ := resbox hb hX.cr0 hX.cr1 hX.fr0 hX.fr1
  go_wp2
  have hsz := hX.size
  have hend := end_ni (u := .bool s') (v := .slice p' n' n') hX.below (r := w.heap.size + 1 + 1) (by omega) (by omega) hN hb
  refine bodyPost_ret (v := .agg #[.bool s', .slice p' n' n']) (by simp [results, Tryz.results43, go_sem, c0, c1]) rfl ⟨_, _, _, zs, rfl, ?_, hn, hend.2⟩
  have := hend.1
  rwa [ival_not, show ival s xs + - ival t ys = ival s xs - ival t ys by omega] at this
end Go.Proofs.YtongkalfdgleaaaGreatDoor
