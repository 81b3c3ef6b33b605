import Derived.Test.YtongkalfdgleaaaDoorNi
namespace Go.Proofs.YtongkalfdgleaaaDoor
open Go.RowKit
set_option linter.unusedVariables false
set_option linter.unusedSimpArgs false

set_option maxHeartbeats 1000000 in
/-- limbs.Neg. -/
theorem Neg_any (s : Bool) (p : Option Addr) (n nc : Nat) (xs : List Int) (w : World) (hA : AI w p n nc xs) :
    Calls Tryd.prog 38 #[.agg #[.bool s, .slice p n nc]] w fun e w' => ∃ s' p' n' ys, e = .returned (.agg #[.bool s', .slice p' n' n']) ∧ NI w.heap.size w' s' p' n' ys (ival (!s) xs) ∧ n' ≤ n ∧ Below w.heap.size w w' := by
  have ht := tlen_le xs
  have hl := hA.len
  have hs := hA.sml
  go_enter Tryd.func38, Tryd.ntmps38
  go_wp2
  go_region_held3 (fun w' => w'.cell? ⟨w.heap.size, 0, none⟩ = some (.bool s) ∧ w'.cell? ⟨w.heap.size, 1, none⟩ = some (.slice p n nc)) (first | (simp [go_sem, *, World.cell?_alloc_past]; done) | exact keepc2 (by assumption) (by assumption))
    (first
      | (go_at_call 43; refine (trim_any p n nc xs _ hA.len hA.cap hA.bnd ?_).mono ?_; exact ((hA.rd.alloc _).alloc _).drew; rintro e w' ⟨rfl, rfl⟩)
      | (go_at_call 51; refine (clone_any p (tlen xs) nc (tr xs) _ (length_tr xs) (by omega) ?_).mono ?_; exact ((hA.rd.tr.alloc _).alloc _).drew; rintro e w' ⟨rfl, rfl⟩)
      | (go_at_call 41; refine (number_any (!s) (some ⟨w.heap.size + 1 + 1, 0, none⟩) (tlen xs) (tlen xs) (tr xs) _ (length_tr xs) (Nat.le_refl _) (by unfold maxLen; omega) ?_).mono ?_; exact (Row.new2 w _ _ _ _ _).drew.rd_all; rintro e w1 ⟨rfl, hb⟩; obtain ⟨c0, c1, f0, f1⟩ := resbox (r := w.heap.size + 1) (u := .bool false) (v := .slice none 0 0) hb (by simp [go_sem, World.cell?_alloc_past]) (by simp [go_sem, World.cell?_alloc_past]) (by simp [go_sem]) (by simp [go_sem])))
  go_wp2
  refine bodyPost_ret (v := .agg #[.bool (nsg (!s) (tr xs)), .slice (nad (some ⟨w.heap.size + 1 + 1, 0, none⟩) (tr xs)) (tlen (tr xs)) (tlen (tr xs))]) (by simp [results, Tryd.results38, go_sem, c0, c1]) rfl ⟨_, _, _, tr (tr xs), rfl, ?_, ?_, ?_⟩
  · rw [← ival_tr (!s) xs]
    exact ((((ni_number (B := w.heap.size + 1 + 1) (!s) (Row.new2 w _ _ _ _ _).drew.rd_all (u32_tr hA.u) (from_new (Nat.le_refl _))).below hb).set (by simp) _).set (by simp) _).mono (by omega)
  · rw [tlen_tr]; omega
  · exact ((((((Below.refl _ _).alloc (Nat.le_refl _) _).alloc (by simp) _).alloc (by simp; omega) _).drew.trans (hb.mono (by simp; omega))).setCell (by simp) _).setCell (by simp) _
end Go.Proofs.YtongkalfdgleaaaDoor
