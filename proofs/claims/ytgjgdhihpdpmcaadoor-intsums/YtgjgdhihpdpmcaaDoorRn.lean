/-
  ashlarref1.Neg, Sub.
-/
import Derived.Test.YtgjgdhihpdpmcaaDoorRk
namespace Go.Proofs.YtgjgdhihpdpmcaaDoor
open Go.RowKit
set_option linter.unusedVariables false
set_option linter.unusedSimpArgs false

set_option maxRecDepth 100000 in
set_option maxHeartbeats 1000000 in
/-- ashlarref1.Neg. -/
theorem rNeg_rn {w : World} {s : Bool} {p : Option Addr} {n : Nat} {xs : List Int} (h : RN w s p n xs) :
    Calls Tryd.prog 20 #[.agg #[.bool s, .slice p n n]] w fun e w' => ∃ s', e = .returned (.agg #[.bool s', .slice p n n]) ∧ RN w' s' p n xs ∧ Hid (rval s' xs = - rval s xs) ∧ Below w.heap.size w w' := by
  have hlt := h.lt
  have HL : Hid (0 < n → ∀ x, p = some x → x.block < w.heap.size) := hlt
  clear hlt
  have hsm := h.sml
  have htl := h.nrm
  have HT : Hid (tlen xs = n) := htl
  clear htl
  go_enter Tryd.func20, Tryd.ntmps20
  go_wp2_with fail
  have hb2 : Bx ((w.alloc (.cells #[.bool s, .slice p n n] 29)).alloc (.cells #[.bool false, .slice none 0 0] 29)) (w.heap.size + 1) (.bool false) (.slice none 0 0) := Bx.new _ _ _ (World.size_alloc ..).symm
  have hbw : Below w.heap.size w ((w.alloc (.cells #[.bool s, .slice p n n] 29)).alloc (.cells #[.bool false, .slice none 0 0] 29)) := ((Below.refl _ _).alloc (Nat.le_refl _) _).alloc (by simp) _
  generalize ((w.alloc (.cells #[.bool s, .slice p n n] 29)).alloc (.cells #[.bool false, .slice none 0 0] 29)) = W at *
  refine (rtrim_any (!s) p n n xs _ h.len (Nat.le_refl _) (by unfold maxLen; omega) (h.rd.below hbw)).mono ?_
  rw [HT.out]
  rintro e w4 ⟨rfl, hb4⟩
  obtain ⟨c0, c1, f0, f1⟩ := resbox hb4 hb2.c0 hb2.c1 hb2.f0 hb2.f1
  go_wp2
  refine bodyPost_ret (v := .agg #[.bool (nsg (!s) xs), .slice p n n]) (by simp [results, Tryd.results20, go_sem, c0, c1]) rfl ?_
  have hR : RN w4 (nsg (!s) xs) p n xs := ⟨h.len, (h.rd.below hbw).below hb4, h.u, h.nrm, fun h0 => by rw [nsg, if_pos (by rw [HT.out]; exact h0)], h.sml⟩
  refine ⟨_, rfl, (hR.set (fun hn x hx e => by have := HL.out hn x hx; simp at e; omega) _).set (fun hn x hx e => by have := HL.out hn x hx; simp at e; omega) _, ?_, ((bnext' hbw hb4).setCell (by simp) _).setCell (by simp) _⟩
  show rval _ xs = _
  have e := rval_nsg (!s) h.u
  rw [tr_self (by rw [HT.out, h.len]), rval_not] at e
  exact e

set_option maxRecDepth 100000 in
set_option maxHeartbeats 1000000 in
/-- ashlarref1.Sub. -/
theorem rSub_rn {w : World} {s t : Bool} {p q : Option Addr} {n m : Nat} {xs ys : List Int} (h : RN w s p n xs) (k : RN w t q m ys) (hn : n ≤ 1000000) (hm : m ≤ 1000000) :
    Calls Tryd.prog 16 #[.agg #[.bool s, .slice p n n], .agg #[.bool t, .slice q m m]] w (RAns (n + m + 1) (rval s xs - rval t ys) w) := by
  go_enter Tryd.func16, Tryd.ntmps16
  go_wp2_with fail
  have hX3 := boxes3' w (.bool s) (.slice p n n) (.bool t) (.slice q m m) (.bool false) (.slice none 0 0) 29 29 29
  generalize ((w.alloc (Obj.cells #[Value.bool s, Value.slice p n n] 29)).alloc (Obj.cells #[Value.bool t, Value.slice q m m] 29)).alloc (Obj.cells #[Value.bool false, Value.slice none 0 0] 29) = W at *
  have hhW := h.below hX3.below
  have hkW := k.below hX3.below
  have k0 := hX3.ca0
  have k1 := hX3.ca1
  have k2 := hX3.cb0
  have k3 := hX3.cb1
  go_region_held3 (fun w' => w'.cell? ⟨w.heap.size, 0, none⟩ = some (.bool s) ∧ w'.cell? ⟨w.heap.size, 1, none⟩ = some (.slice p n n) ∧ w'.cell? ⟨w.heap.size + 1, 0, none⟩ = some (.bool t) ∧ w'.cell? ⟨w.heap.size + 1, 1, none⟩ = some (.slice q m m)) (first | exact ⟨by assumption, by assumption, by assumption, by assumption⟩ | exact keepc4 (by assumption) (by assumption) | (simp [go_sem, *]; done))
    (first
      | (go_at_call 20; refine (rNeg_rn hkW.drew).mono ?_; rintro e w1 ⟨t1, rfl, hk1, HT1, hb1⟩)
      | (go_at_call 14; refine (rAdd_rn (hhW.below (undrew hb1)) hk1 hn hm).mono ?_; rintro e w2 ⟨s2, p2, n2, d2, rfl, hR2, hv2, hn2, hF2, hb2⟩; have HV2 : Hid (rval s2 d2 = rval s xs + rval t1 ys) := hv2; clear hv2; obtain ⟨c0', c1', f0, f1⟩ := resbox (bnext' (undrew hb1) hb2) hX3.cr0 hX3.cr1 hX3.fr0 hX3.fr1))
  go_wp2
  have hsz := hX3.size
  have hs1 := hb1.size
  have e1 : W.drew.heap.size = W.heap.size := rfl
  refine bodyPost_ret (v := .agg #[.bool s2, .slice p2 n2 n2]) (by simp [results, Tryd.results16, go_sem, c0', c1']) rfl ?_
  refine ⟨s2, p2, n2, d2, rfl, RN_st3 hF2 (by simp only; omega) (RN_st3 hF2 (by simp only; omega) hR2), ?_, hn2, hF2.mono (by omega), ?_⟩
  · rw [HV2.out, HT1.out]; omega
  · exact ((bnext (bnext hX3.below (Nat.le_refl _) (undrew hb1)) (Nat.le_refl _) hb2).setCell (by simp only; omega) _).setCell (by simp only; omega) _
end Go.Proofs.YtgjgdhihpdpmcaaDoor
