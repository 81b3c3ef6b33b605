/-
  limbs.Mul, and where its answer lies.
-/
import Derived.Test.YtgjgdhihpdpmcabDoorWj
namespace Go.Proofs.YtgjgdhihpdpmcabDoor
open Go.RowKit
set_option linter.unusedVariables false
set_option linter.unusedSimpArgs false

set_option maxHeartbeats 1000000 in
/-- limbs.Mul, and where its answer lies. -/
theorem Mul_row (s t : Bool) (p q : Option Addr) (n nc m mc : Nat) (xs ys : List Int) (w : World) (hA : AI w p n nc xs) (hB : AI w q m mc ys) (h80 : n < 80 ∨ m < 80) :
    Calls Tryd.prog 15 #[.agg #[.bool s, .slice p n nc], .agg #[.bool t, .slice q m mc]] w fun e w' => ∃ s' p' n' zs, e = .returned (.agg #[.bool s', .slice p' n' n']) ∧ NI w.heap.size w' s' p' n' zs (ival s xs * ival t ys) ∧ n' ≤ n + m ∧ Below w.heap.size w w' ∧ Hid (∃ g Z, w.heap.size ≤ g ∧ Row w' g 44 .u32 Z ∧ n' ≤ Z.length ∧ (0 < n' → p' = some ⟨g, 0, none⟩)) := by
  have tx := tlen_le xs
  have ty := tlen_le ys
  have lx := hA.len
  have ly := hB.len
  have bx := hA.sml
  have by' := hB.sml
  go_enter Tryd.func15, Tryd.ntmps15
  go_wp2
  have hX := boxes3' w (.bool s) (.slice p n nc) (.bool t) (.slice q m mc) (.bool false) (.slice none 0 0) 24 24 24
  generalize ((w.alloc (Obj.cells #[Value.bool s, Value.slice p n nc] 24)).alloc (Obj.cells #[Value.bool t, Value.slice q m mc] 24)).alloc (Obj.cells #[Value.bool false, Value.slice none 0 0] 24) = W at *
  have hA' := hA.below hX.below
  have hB' := hB.below hX.below
  have k0 := hX.ca0
  have k1 := hX.ca1
  have k2 := hX.cb0
  have k3 := hX.cb1
  go_region_held3 (fun w' => w'.cell? ⟨w.heap.size, 0, none⟩ = some (.bool s) ∧ w'.cell? ⟨w.heap.size, 1, none⟩ = some (.slice p n nc) ∧ w'.cell? ⟨w.heap.size + 1, 0, none⟩ = some (.bool t) ∧ w'.cell? ⟨w.heap.size + 1, 1, none⟩ = some (.slice q m mc)) (first | (simp [go_sem, *]; done) | exact keepc4 (by assumption) (by assumption))
    (first
      | (go_at_call_of 26 (Value.slice p n nc); refine (trim_any p n nc xs _ hA.len hA.cap hA.bnd ?_).mono ?_; exact hA'.rd.drew; rintro e w' ⟨rfl, rfl⟩)
      | (go_at_call_of 26 (Value.slice q m mc); refine (trim_any q m mc ys _ hB.len hB.cap hB.bnd ?_).mono ?_; exact hB'.rd.drew; rintro e w' ⟨rfl, rfl⟩)
      | (go_at_call 38; refine (product_small p q (tlen xs) nc (tlen ys) mc (tr xs) (tr ys) _ (by omega) (by omega) (length_tr xs) (length_tr ys) ?_ (u32_tr hA.u) ?_ (u32_tr hB.u) (by omega)).mono ?_; exact hA'.tr.rd.drew; exact hB'.tr.rd.drew; rintro e w1 ⟨zs, rfl, z1, z2, z3, z4, hb1⟩)
      | (go_at_call 33; refine (number_any (s != t) (some ⟨W.heap.size, 0, none⟩) (tlen xs + tlen ys) (tlen xs + tlen ys) zs _ z1 (Nat.le_refl _) (by unfold maxLen; omega) ?_).mono ?_; exact z4.rd_all; rintro e w2 ⟨rfl, hb2⟩; obtain ⟨c0, c1, f0, f1⟩ := resbox ((undrew hb1).trans (hb2.mono (undrew hb1).size)) hX.cr0 hX.cr1 hX.fr0 hX.fr1))
  go_wp2
  have hsz := hX.size
  have hend := end_number (z := ival s xs * ival t ys) (sg := s != t) (u := .bool (nsg (s != t) zs)) (v := .slice (nad (some ⟨W.heap.size, 0, none⟩) zs) (tlen zs) (tlen zs)) hX.below (r := w.heap.size + 1 + 1) (by omega) (by omega) z4 z2 (undrew hb1) hb2 (by rw [val_tr, val_tr] at z3; exact ival_mul s t xs ys zs z3)
  refine bodyPost_ret (v := .agg #[.bool (nsg (s != t) zs), .slice (nad (some ⟨W.heap.size, 0, none⟩) zs) (tlen zs) (tlen zs)]) (by simp [results, Tryd.results15, go_sem, c0, c1]) rfl ⟨_, _, _, tr zs, rfl, hend.1, ?_, hend.2, ⟨W.heap.size, zs, hX.below.size, ?_, tlen_le zs, fun h0 => (by rw [nad, if_neg (by omega)])⟩⟩
  · have := tlen_le zs
    omega
  · have h3 : Row w2 W.heap.size 44 .u32 zs := z4.below hb2 z4.lt
    exact (h3.set_other ⟨w.heap.size + 1 + 1, 0, none⟩ _ (by simp; omega)).set_other ⟨w.heap.size + 1 + 1, 1, none⟩ _ (by simp; omega)
end Go.Proofs.YtgjgdhihpdpmcabDoor
