/-
  ashlarref1.Neg, Sub.
-/
import Derived.Test.YtongkalfdgleaaaGreatDoorRjRk
import Derived.Test.YtongkalfdgleaaaGreatDoorYa
import Derived.Test.YtongkalfdgleaaaGreatDoorTf
import Derived.Test.YtongkalfdgleaaaGreatDoorRoRi
import Derived.Test.YtongkalfdgleaaaGreatDoorRvRwTe
import Derived.Test.YtongkalfdgleaaaGreatDoorZcZdZj
namespace Go.Proofs.YtongkalfdgleaaaGreatDoor
open Go.RowKit
set_option linter.unusedVariables false
set_option linter.unusedSimpArgs false

set_option maxRecDepth 100000 in
set_option maxHeartbeats 1000000 in
/-- ashlarref1.Neg. -/
theorem rNeg_rn {w : World} {s : Bool} {p : Option Addr} {n : Nat} {xs : List Int} (h : RN w s p n xs) :
    Calls Tryz.prog 44 #[.agg #[.bool s, .slice p n n]] w fun e w' => ∃ s', e = .returned (.agg #[.bool s', .slice p n n]) ∧ RN w' s' p n xs ∧ Hid (rval s' xs = - rval s xs) ∧ Below w.heap.size w w' := by
  have hlt := h.lt
  have HL : Hid (0 < n → ∀ x, p = some x → x.block < w.heap.size) := hlt
  clear hlt
  have hsm := h.sml
  have htl := h.nrm
  have HT : Hid (tlen xs = n) := htl
  clear htl
  go_enter Tryz.func44, Tryz.ntmps44
  go_wp2_with fail
  have hb2 : Bx ((w.alloc (.cells #[.bool s, .slice p n n] 31)).alloc (.cells #[.bool false, .slice none 0 0] 31)) (w.heap.size + 1) (.bool false) (.slice none 0 0) := Bx.new _ _ _ (World.size_alloc ..).symm
  have hbw : Below w.heap.size w ((w.alloc (.cells #[.bool s, .slice p n n] 31)).alloc (.cells #[.bool false, .slice none 0 0] 31)) := ((Below.refl _ _).alloc (Nat.le_refl _) _).alloc (by simp) _
  generalize ((w.alloc (.cells #[.bool s, .slice p n n] 31)).alloc (.cells #[.bool false, .slice none 0 0] 31)) = W at *
  refine (rtrim_any (!s) p n n xs _ h.len (Nat.le_refl _) (by unfold maxLen; omega) (h.rd.below hbw)).mono ?_
  rw [HT.out]
  rintro e w4 ⟨rfl, hb4⟩
  obtain ⟨c0, c1, f0, f1⟩ := resbox hb4 hb2.c0 hb2.c1 hb2.f0 hb2.f1
  go_wp2
  refine bodyPost_ret (v := .agg #[.bool (nsg (!s) xs), .slice p n n]) (by simp [results, Tryz.results44, go_sem, c0, c1]) rfl ?_
  have hR : RN w4 (nsg (!s) xs) p n xs := ⟨h.len, (h.rd.below hbw).below hb4, h.u, h.nrm, fun h0 => by rw [nsg, if_pos (by rw [HT.out]; exact h0)], h.sml⟩
  refine ⟨_, rfl, (hR.set (fun hn x hx e => by have := HL.out hn x hx; simp at e; omega) _).set (fun hn x hx e => by have := HL.out hn x hx; simp at e; omega) _, ?_, ((bnext' hbw hb4).setCell (by simp) _).setCell (by simp) _⟩
  show rval _ xs = _
  have e := rval_nsg (!s) h.u
  rw [tr_self (by rw [HT.out, h.len]), rval_not] at e
  exact e

set_option maxRecDepth 100000 in
set_option maxHeartbeats 1000000 in
/-- ashlarref1.Sub. -/
theorem rSub_rn {w : World} {s t : Bool} {p q : Option Addr} {n m : Nat} {xs ys : List Int} (h : RN w s p n xs) (k : RN w t q m ys) (hn : n ≤ 1000000) (hm : m ≤ 1000000) :
    Calls Tryz.prog 83 #[.agg #[.bool s, .slice p n n], .agg #[.bool t, .slice q m m]] w (RAns (n + m + 1) (rval s xs - rval t ys) w) := by
  go_enter Tryz.func83, Tryz.ntmps83
  go_wp2_with fail
  have hX3 := boxes3' w (.bool s) (.slice p n n) (.bool t) (.slice q m m) (.bool false) (.slice none 0 0) 31 31 31
  generalize ((w.alloc (Obj.cells #[Value.bool s, Value.slice p n n] 31)).alloc (Obj.cells #[Value.bool t, Value.slice q m m] 31)).alloc (Obj.cells #[Value.bool false, Value.slice none 0 0] 31) = W at *
  have hhW := h.below hX3.below
  have hkW := k.below hX3.below
  have k0 := hX3.ca0
  have k1 := hX3.ca1
  have k2 := hX3.cb0
  have k3 := hX3.cb1
  go_region_held3 (fun w' => w'.cell? ⟨w.heap.size, 0, none⟩ = some (.bool s) ∧ w'.cell? ⟨w.heap.size, 1, none⟩ = some (.slice p n n) ∧ w'.cell? ⟨w.heap.size + 1, 0, none⟩ = some (.bool t) ∧ w'.cell? ⟨w.heap.size + 1, 1, none⟩ = some (.slice q m m)) (first | exact ⟨by assumption, by assumption, by assumption, by assumption⟩ | exact keepc4 (by assumption) (by assumption) | (simp [go_sem, *]; done))
    (first
      | (go_at_call 44; refine (rNeg_rn hkW.drew).mono ?_; rintro e w1 ⟨t1, rfl, hk1, HT1, hb1⟩)
      | (go_at_call 42; refine (rAdd_rn (hhW.below (undrew hb1)) hk1 hn hm).mono ?_; rintro e w2 ⟨s2, p2, n2, d2, rfl, hR2, hv2, hn2, hF2, hb2⟩; have HV2 : Hid (rval s2 d2 = rval s xs + rval t1 ys) := hv2; clear hv2; obtain ⟨c0', c1', f0, f1⟩ := resbox (bnext' (undrew hb1) hb2) hX3.cr0 hX3.cr1 hX3.fr0 hX3.fr1))
  go_wp2
  have hsz := hX3.size
  have hs1 := hb1.size
  have e1 : W.drew.heap.size = W.heap.size := rfl
  refine bodyPost_ret (v := .agg #[.bool s2, .slice p2 n2 n2]) (by simp [results, Tryz.results83, go_sem, c0', c1']) rfl ?_
  refine ⟨s2, p2, n2, d2, rfl, RN_st3 hF2 (by simp only; omega) (RN_st3 hF2 (by simp only; omega) hR2), ?_, hn2, hF2.mono (by omega), ?_⟩
  · rw [HV2.out, HT1.out]; omega
  · exact ((bnext (bnext hX3.below (Nat.le_refl _) (undrew hb1)) (Nat.le_refl _) hb2).setCell (by simp only; omega) _).setCell (by simp only; omega) _
end Go.Proofs.YtongkalfdgleaaaGreatDoor
/-
  ashlarref2.Make.
-/
namespace Go.Proofs.YtongkalfdgleaaaGreatDoor
open Go.RowKit
set_option linter.unusedVariables false
set_option linter.unusedSimpArgs false

/-- A rational of the reference. -/
structure RQ (w : World) (s : Bool) (p : Option Addr) (n : Nat) (ds : List Int) (t : Bool) (q : Option Addr) (m : Nat) (es : List Int) (r : Rat) : Prop where
  num : RN w s p n ds
  den : RN w t q m es
  nv : rval s ds = r.num
  dv : rval t es = (r.den : Int)
/-- What a function of the reference answers that gives a rational. -/
def MkPost (r : Rat) (w : World) (e : Ending) (w' : World) : Prop :=
  ∃ s p n ds t q m es, e = .returned (.agg #[.bool s, .slice p n n, .bool t, .slice q m m]) ∧ RQ w' s p n ds t q m es r ∧ Go.Proofs.YtongkalfdgleaaaGreatDoor.From w.heap.size p ∧ Go.Proofs.YtongkalfdgleaaaGreatDoor.From w.heap.size q ∧ Below w.heap.size w w'
theorem RN.set4 {w : World} {s : Bool} {p : Option Addr} {n : Nat} {ds : List Int} (h : RN w s p n ds) {g : Nat} (hg : 0 < n → Off g p) (u v x y : Value) : RN ((((w.setCell ⟨g, 0, none⟩ u).setCell ⟨g, 1, none⟩ v).setCell ⟨g, 2, none⟩ x).setCell ⟨g, 3, none⟩ y) s p n ds :=
  (((h.set (a := ⟨g, 0, none⟩) hg u).set (a := ⟨g, 1, none⟩) hg v).set (a := ⟨g, 2, none⟩) hg x).set (a := ⟨g, 3, none⟩) hg y
set_option maxRecDepth 100000 in
set_option maxHeartbeats 4000000 in
/-- ashlarref2.Make: of nothing below the line. -/
theorem Make_den (s t : Bool) (p q : Option Addr) (n m : Nat) (ds es : List Int) (w : World) (hA : RN w s p n ds) (hB : RN w t q m es) (h0 : rval t es = 0) :
    Calls Tryz.prog 27 #[.agg #[.bool s, .slice p n n], .agg #[.bool t, .slice q m m]] w (MkPost 0 w) := by
  have H0 := (show Hid _ from h0)
  clear h0
  go_enter Tryz.func27, Tryz.ntmps27
  go_wp2_with fail
  have hA0 : Bx (((w.alloc (.cells #[.bool s, .slice p n n] 31)).alloc (.cells #[.bool t, .slice q m m] 31)).alloc (.cells #[.bool false, .slice none 0 0, .bool false, .slice none 0 0] 33)) w.heap.size (.bool s) (.slice p n n) := ((Bx.new _ _ _ rfl).alloc _).alloc _
  have hB0 : Bx (((w.alloc (.cells #[.bool s, .slice p n n] 31)).alloc (.cells #[.bool t, .slice q m m] 31)).alloc (.cells #[.bool false, .slice none 0 0, .bool false, .slice none 0 0] 33)) (w.heap.size + 1) (.bool t) (.slice q m m) := (Bx.new _ _ _ (by simp)).alloc _
  have hR0 : Bq (((w.alloc (.cells #[.bool s, .slice p n n] 31)).alloc (.cells #[.bool t, .slice q m m] 31)).alloc (.cells #[.bool false, .slice none 0 0, .bool false, .slice none 0 0] 33)) (w.heap.size + 1 + 1) (.bool false) (.slice none 0 0) (.bool false) (.slice none 0 0) := Bq.new _ _ _ _ _ (by simp)
  have hW : Below w.heap.size w (((w.alloc (.cells #[.bool s, .slice p n n] 31)).alloc (.cells #[.bool t, .slice q m m] 31)).alloc (.cells #[.bool false, .slice none 0 0, .bool false, .slice none 0 0] 33)) := (((Below.refl _ _).alloc (Nat.le_refl _) _).alloc (by simp) _).alloc (by simp; omega) _
  generalize ((w.alloc (.cells #[.bool s, .slice p n n] 31)).alloc (.cells #[.bool t, .slice q m m] 31)).alloc (.cells #[.bool false, .slice none 0 0, .bool false, .slice none 0 0] 33) = W at *
  have hA1 := hA.below hW
  have hB1 := hB.below hW
  refine (rSign_any t q m m es _ hB1.u hB1.nrm).mono ?_
  rintro e w1 ⟨rfl, hb1⟩
  rw [H0.out, isgn_zero rfl]
  have hBX := hb1
  go_wp2_with fail
  refine (rOf_any 0 _ (by decide) (by decide)).mono ?_
  rintro e w2 ⟨s2, p2, n2, d2, rfl, hR2, hv2, hn2, hF2, hb2⟩
  go_wp2_with fail
  refine (rOf_any 1 _ (by decide) (by decide)).mono ?_
  rintro e w3 ⟨s3, p3, n3, d3, rfl, hR3, hv3, hn3, hF3, hb3⟩
  have hbx := bnext' hBX hb2
  have hby := bnext' hbx hb3
  obtain ⟨r0, r1, r2, r3, f0, f1, f2, f3⟩ := hR0.later hby
  have sR := hR0.lt
  have sX := hBX.size
  have sY := hbx.size
  have sW := hW.size
  go_wp2
  refine bodyPost_ret (v := .agg #[.bool s2, .slice p2 n2 n2, .bool s3, .slice p3 n3 n3]) (by simp [results, Tryz.results27, go_sem, r0, r1, r2, r3]) rfl ⟨s2, p2, n2, d2, s3, p3, n3, d3, rfl, ⟨?_, ?_, by rw [hv2]; rfl, by rw [hv3]; rfl⟩, fun a ha => ?_, fun a ha => ?_, ?_⟩
  · exact (hR2.below hb3).set4 (fun _ => off_from hF2 (by omega)) _ _ _ _
  · exact hR3.set4 (fun _ => off_from hF3 (by omega)) _ _ _ _
  · have := hF2 a ha; omega
  · have := hF3 a ha; omega
  · exact bset4 (bnext' hW hby) (by omega) _ _ _ _
set_option maxRecDepth 100000 in
set_option maxHeartbeats 4000000 in
/-- ashlarref2.Make: of nothing above the line. -/
theorem Make_num (s t : Bool) (p q : Option Addr) (n m : Nat) (ds es : List Int) (w : World) (hA : RN w s p n ds) (hB : RN w t q m es) (h0 : rval t es ≠ 0) (h1 : rval s ds = 0) :
    Calls Tryz.prog 27 #[.agg #[.bool s, .slice p n n], .agg #[.bool t, .slice q m m]] w (MkPost 0 w) := by
  obtain ⟨vt, hvt, hv0⟩ : ∃ v, isgn (rval t es) = v ∧ ¬ v = 0 := by
    rcases (show 0 < rval t es ∨ rval t es < 0 by omega) with h | h
    · exact ⟨1, isgn_pos h, by decide⟩
    · exact ⟨-1, isgn_neg h, by decide⟩
  have HV := (show Hid _ from hvt)
  have H1 := (show Hid _ from h1)
  clear h0 h1 hvt
  go_enter Tryz.func27, Tryz.ntmps27
  go_wp2_with fail
  have hA0 : Bx (((w.alloc (.cells #[.bool s, .slice p n n] 31)).alloc (.cells #[.bool t, .slice q m m] 31)).alloc (.cells #[.bool false, .slice none 0 0, .bool false, .slice none 0 0] 33)) w.heap.size (.bool s) (.slice p n n) := ((Bx.new _ _ _ rfl).alloc _).alloc _
  have hB0 : Bx (((w.alloc (.cells #[.bool s, .slice p n n] 31)).alloc (.cells #[.bool t, .slice q m m] 31)).alloc (.cells #[.bool false, .slice none 0 0, .bool false, .slice none 0 0] 33)) (w.heap.size + 1) (.bool t) (.slice q m m) := (Bx.new _ _ _ (by simp)).alloc _
  have hR0 : Bq (((w.alloc (.cells #[.bool s, .slice p n n] 31)).alloc (.cells #[.bool t, .slice q m m] 31)).alloc (.cells #[.bool false, .slice none 0 0, .bool false, .slice none 0 0] 33)) (w.heap.size + 1 + 1) (.bool false) (.slice none 0 0) (.bool false) (.slice none 0 0) := Bq.new _ _ _ _ _ (by simp)
  have hW : Below w.heap.size w (((w.alloc (.cells #[.bool s, .slice p n n] 31)).alloc (.cells #[.bool t, .slice q m m] 31)).alloc (.cells #[.bool false, .slice none 0 0, .bool false, .slice none 0 0] 33)) := (((Below.refl _ _).alloc (Nat.le_refl _) _).alloc (by simp) _).alloc (by simp; omega) _
  generalize ((w.alloc (.cells #[.bool s, .slice p n n] 31)).alloc (.cells #[.bool t, .slice q m m] 31)).alloc (.cells #[.bool false, .slice none 0 0, .bool false, .slice none 0 0] 33) = W at *
  have hA1 := hA.below hW
  have hB1 := hB.below hW
  refine (rSign_any t q m m es _ hB1.u hB1.nrm).mono ?_
  rintro e w1 ⟨rfl, hb1⟩
  rw [HV.out]
  have a0 := (hA0.later hb1).c0
  have a1 := (hA0.later hb1).c1
  go_wp2_with fail
  have hA2 := hA1.below hb1
  refine (rSign_any s p n n ds _ hA2.u hA2.nrm).mono ?_
  rintro e w1' ⟨rfl, hb1'⟩
  rw [H1.out, isgn_zero rfl]
  have hBX := bnext' hb1 hb1'
  clear a0 a1
  go_wp2_with fail
  refine (rOf_any 0 _ (by decide) (by decide)).mono ?_
  rintro e w2 ⟨s2, p2, n2, d2, rfl, hR2, hv2, hn2, hF2, hb2⟩
  go_wp2_with fail
  refine (rOf_any 1 _ (by decide) (by decide)).mono ?_
  rintro e w3 ⟨s3, p3, n3, d3, rfl, hR3, hv3, hn3, hF3, hb3⟩
  have hbx := bnext' hBX hb2
  have hby := bnext' hbx hb3
  obtain ⟨r0, r1, r2, r3, f0, f1, f2, f3⟩ := hR0.later hby
  have sR := hR0.lt
  have sX := hBX.size
  have sY := hbx.size
  have sW := hW.size
  go_wp2
  refine bodyPost_ret (v := .agg #[.bool s2, .slice p2 n2 n2, .bool s3, .slice p3 n3 n3]) (by simp [results, Tryz.results27, go_sem, r0, r1, r2, r3]) rfl ⟨s2, p2, n2, d2, s3, p3, n3, d3, rfl, ⟨?_, ?_, by rw [hv2]; rfl, by rw [hv3]; rfl⟩, fun a ha => ?_, fun a ha => ?_, ?_⟩
  · exact (hR2.below hb3).set4 (fun _ => off_from hF2 (by omega)) _ _ _ _
  · exact hR3.set4 (fun _ => off_from hF3 (by omega)) _ _ _ _
  · have := hF2 a ha; omega
  · have := hF3 a ha; omega
  · exact bset4 (bnext' hW hby) (by omega) _ _ _ _
end Go.Proofs.YtongkalfdgleaaaGreatDoor
