/-
  The set-up of layer 7's laws answers true, in whatever memory, and leaves what was there.
-/
import Derived.Test.YtlhgpejapmpcmaaGreatDoorG9
import Derived.Test.YtlhgpejapmpcmaaGreatDoorProg
import Derived.Test.YtlhgpejapmpcmaaGreatDoorOu
import Derived.Test.YtlhgpejapmpcmaaGreatDoorOt
namespace Go.Proofs.YtlhgpejapmpcmaaGreatDoor
open Go.RowKit
theorem nong7 : Ev.NoNG Tryz.prog := Ev.nong_of (by kernel_rfl)
theorem begun7_any (w : World) : Calls Tryz.prog 5 #[] w fun r w' => r = .returned (.bool true) ∧ Below w.heap.size w w' :=
  Ev.closed_call nong7 (by kernel_rfl) (n := 100000) (by kernel_rfl) w
end Go.Proofs.YtlhgpejapmpcmaaGreatDoor
/-
  MatCost's walk.
-/
namespace Go.Proofs.YtlhgpejapmpcmaaGreatDoor
open Go.RowKit
set_option linter.unusedVariables false
set_option linter.unusedSimpArgs false

theorem gt_map {α β : Type} [Inhabited α] [Inhabited β] (f : α → β) (l : List α) (j : Nat) (h : j < l.length) : gt (l.map f) j = f (gt l j) := by simp [gt, h]
theorem gt_over {α : Type} [Inhabited α] (l : List α) (j : Nat) (h : l.length ≤ j) : gt l j = default := by simp [gt, h]
theorem pbs_tr {w : World} {B T R C : Nat} {ts : List (List (List Int))} {h : Hdr} (H : HR R (HR C (EZ 1 3)) w B T ts h) (i j : Nat) : pb (gt (gt (ts.map (·.map tr)) i) j) ≤ 32 := by
  obtain ⟨hs, k⟩ := H
  rcases Nat.lt_or_ge i ts.length with hi | hi
  · rw [gt_map _ _ _ hi]
    obtain ⟨rs, k2⟩ := k.ev i (by rw [← k.tl]; exact hi)
    rcases Nat.lt_or_ge j (gt ts i).length with hj | hj
    · rw [gt_map _ _ _ hj, pb_trim]
      obtain ⟨fs, hP, -⟩ := k2.ev j (by rw [← k2.tl]; exact hj)
      have := pb_few hP
      omega
    · rw [gt_over _ _ (by rw [List.length_map]; exact hj)]
      exact Nat.zero_le _
  · have h1 : gt (ts.map (·.map tr)) i = default := gt_over _ _ (by rw [List.length_map]; exact hi)
    have h2 : gt (default : List (List Int)) j = default := gt_over _ _ (Nat.zero_le _)
    rw [h1, h2]
    exact Nat.zero_le _
theorem mtx_tr {ts : List (List (List Int))} (h : Mtx ts) : Mtx (ts.map (·.map tr)) := by
  refine ⟨by rw [List.length_map]; exact h.1, by rw [gt_map _ _ _ h.1, List.length_map]; exact h.2.1, fun j hj => ?_⟩
  rw [List.length_map] at hj
  rw [gt_map _ _ _ h.1, gt_map _ _ _ hj, List.length_map, List.length_map]
  exact h.2.2 j hj
set_option maxHeartbeats 4000000 in
set_option maxRecDepth 100000 in
theorem MatCost_walk {w : World} {p : Option Addr} {n nc : Nat} {hs0 : List Hdr} (h : MZ w p n nc hs0) :
    Calls Tryz.prog 3 #[.slice p n nc] w fun e w' => e = .returned (.bool true) ∧ Below w.heap.size w w' := by
  go_enter Tryz.func3, Tryz.ntmps3
  go_wp2_with fail
  refine (begun7_any w).mono ?_
  rintro e w1 ⟨rfl, hb1⟩
  have HZ : Hid (MZ w1 p n nc hs0) := h.below hb1
  have HB1 : Hid (Below w.heap.size w w1) := hb1
  clear h hb1
  go_wp2_with fail
  refine (cut7_any HZ.out 5 5 (by decide) (by decide)).mono ?_
  rintro e w2 ⟨hd, ts, rfl, hdn, hH, hb2⟩
  have HB2 : Hid (Below w.heap.size w w2) := bnext' HB1.out hb2
  obtain ⟨q, m, mc⟩ := hd
  have HH : Hid (HR 5 (HR 5 (EZ 1 3)) w2 w1.heap.size w2.heap.size ts ⟨q, m, mc⟩) := hH
  clear hdn hb2 hH HZ
  simp only [Hdr.val]
  go_wp2_with fail
  refine (read7_any HH.out (Nat.le_refl _) (by decide) (by decide)).mono ?_
  rintro e w3 ⟨hb3, hor⟩
  have HB3 : Hid (Below w.heap.size w w3) := bnext' HB2.out hb3
  have HH3 : Hid (HR 5 (HR 5 (EZ 1 3)) w3 w1.heap.size w2.heap.size ts ⟨q, m, mc⟩ ∧ w2.heap.size ≤ w3.heap.size) := ⟨(lasts_HR (lasts_HR (lasts_EZ 1 3))).below HH.out (Nat.le_refl _) hb3, hb3.size⟩
  rcases hor with ⟨hM, hd3, rfl, hY⟩ | ⟨hM, rfl⟩
  · obtain ⟨q3, m3, mc3⟩ := hd3
    have HY : Hid (HR 5 (HR 5 (EY 2 3)) w3 w2.heap.size w3.heap.size (ts.map (·.map tr)) ⟨q3, m3, mc3⟩ ∧ Mtx ts) := ⟨hY, hM⟩
    clear hY hM hb3
    simp only [Hdr.val]
    go_wp2_with fail
    refine (Cost_any HH3.out.1 HH3.out.2 (by decide) (by decide) HY.out.2).mono ?_
    rintro e w4 ⟨rfl, hb4⟩
    have HY4 : Hid (HR 5 (HR 5 (EY 2 3)) w4 w2.heap.size w3.heap.size (ts.map (·.map tr)) ⟨q3, m3, mc3⟩ ∧ w3.heap.size ≤ w4.heap.size) := ⟨(lasts_HR (lasts_HR (lasts_EY 2 3))).below HY.out.1 (Nat.le_refl _) hb4, hb4.size⟩
    have HB4 : Hid (Below w.heap.size w w4) := bnext' HB3.out hb4
    have hc := rcost_any HY4.out.1 HY4.out.2 (by decide) (by decide) (mtx_tr HY.out.2) (pbs_tr HH.out)
    rw [DM_tr, BM_tr, gt_map _ _ _ HY.out.2.1, List.length_map, List.length_map] at hc
    clear hb4
    generalize tms [(ts.length : Int) + 1, ((gt ts 0).length : Int) + 1, min (ts.length : Int) ((gt ts 0).length : Int) + 1, DM ts + 2, BM ts + 8] = v at *
    go_wp2_with fail
    refine hc.mono ?_
    rintro e w5 ⟨rfl, hb5⟩
    have HB5 : Hid (Below w.heap.size w w5) := bnext' HB4.out hb5
    clear hc hb5
    go_wp2
    go_ret
    refine ⟨by simp, HB5.out⟩
  · have HM : Hid (¬ Mtx ts) := hM
    clear hM hb3
    go_wp2_with fail
    refine (Cost_none HH3.out.1 (by decide) (by decide) HM.out).mono ?_
    rintro e w4 ⟨rfl, hb4⟩
    have HB4 : Hid (Below w.heap.size w w4) := bnext' HB3.out hb4
    have HH4 : Hid (HR 5 (HR 5 (EZ 1 3)) w4 w1.heap.size w2.heap.size ts ⟨q, m, mc⟩) := (lasts_HR (lasts_HR (lasts_EZ 1 3))).below HH3.out.1 HH3.out.2 hb4
    clear hb4
    go_wp2_with fail
    refine (Null_none HH4.out (by decide) (by decide) HM.out).mono ?_
    rintro e w5 ⟨rfl, hb5⟩
    have HB5 : Hid (Below w.heap.size w w5) := bnext' HB4.out hb5
    clear hb5
    go_wp2
    go_ret
    exact ⟨rfl, HB5.out⟩
end Go.Proofs.YtlhgpejapmpcmaaGreatDoor
