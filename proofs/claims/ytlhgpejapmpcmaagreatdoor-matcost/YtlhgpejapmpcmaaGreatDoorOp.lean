/-
  ashlarlaw7.cut.
-/
import Derived.Test.YtlhgpejapmpcmaaGreatDoorOmPn
import Derived.Test.YtlhgpejapmpcmaaGreatDoorBbCvDj
namespace Go.Proofs.YtlhgpejapmpcmaaGreatDoor
open Go.RowKit
set_option linter.unusedVariables false
set_option linter.unusedSimpArgs false

theorem info_apiP : (Tryz.prog.info? 37).map (fun i => (i.zero, i.size, i.bytes)) = some (some (.slice none 0 0), 1, 24) := by kernel_rfl
theorem info_apiPs : (Tryz.prog.info? 35).map (fun i => (i.zero, i.size, i.bytes)) = some (some (.slice none 0 0), 1, 24) := by kernel_rfl
theorem ez_of_cut {n E L : Nat} {w w' : World} {q : Option Addr} {m mc : Nat} {fs : List Ent} {zs : List Int} (h : PA w' L q m mc fs zs) (hm : m = min n E) (h1 : Go.Proofs.YtlhgpejapmpcmaaGreatDoor.From w.heap.size q) (h2 : ∀ j, j < m → 0 < (ge fs j).n → Go.Proofs.YtlhgpejapmpcmaaGreatDoor.From w.heap.size (ge fs j).p) : EZ L E w' w.heap.size w'.heap.size zs ⟨q, m, mc⟩ := by
  refine ⟨fs, h, by show m ≤ E; omega, fun a ha hn => ⟨h1 a ha, ?_⟩, fun j hj hn a ha => ⟨h2 j hj hn a ha, (lasts_EV L).lt (h.ev j hj) hn a ha⟩⟩
  obtain ⟨b, o, hp, hlt⟩ := h.pl.lt (by rw [h.el]; exact hn)
  simp only at ha
  rw [hp] at ha
  cases ha
  exact hlt
/-- What cut answers. -/
def CuP (n R C : Nat) (w : World) (e : Ending) (w' : World) : Prop :=
  ∃ h ts, e = .returned (Hdr.val h) ∧ h.n = min n R ∧ HR R (HR C (EZ 1 3)) w' w.heap.size w'.heap.size ts h ∧ Below w.heap.size w w'
set_option maxHeartbeats 4000000 in
set_option maxRecDepth 100000 in
theorem cut7_any {w : World} {p : Option Addr} {n nc : Nat} {hs0 : List Hdr} (h : MZ w p n nc hs0) (R C : Nat) (hR : R ≤ 1000) (hC : C ≤ 1000) :
    Calls Tryz.prog 6 #[.slice p n nc, .int .i64 R, .int .i64 C] w (CuP n R C w) := by
  obtain ⟨i0, hi, hzz⟩ := Option.map_eq_some_iff.1 info_apiP
  simp only [Prod.mk.injEq] at hzz
  obtain ⟨hz0, hz1, hz2⟩ := hzz
  have HI : Hid (Tryz.prog.info? 37 = some i0 ∧ i0.zero = some (.slice none 0 0) ∧ i0.size = 1 ∧ i0.bytes = 24) := ⟨hi, hz0, hz1, hz2⟩
  clear hi hz0 hz1 hz2
  obtain ⟨I1, hi, hzz⟩ := Option.map_eq_some_iff.1 info_apiPs
  simp only [Prod.mk.injEq] at hzz
  obtain ⟨hz0, hz1, hz2⟩ := hzz
  have HJ : Hid (Tryz.prog.info? 35 = some I1 ∧ I1.zero = some (.slice none 0 0) ∧ I1.size = 1 ∧ I1.bytes = 24) := ⟨hi, hz0, hz1, hz2⟩
  clear hi hz0 hz1 hz2
  have HX : Hid (MZ w p n nc hs0) := h
  have hnm : n ≤ 9223372036854775807 := by have h1 := h.cap; have h2 := h.bnd; unfold maxLen at h2; omega
  clear h
  go_enter Tryz.func6, Tryz.ntmps6
  go_wp2_with fail
  go_loopw [7, 8, 9, 10] (fun qv iv rv jv wr => ∃ (k : Nat) (hs : List Hdr) (ts : List (List (List Int))), k ≤ min n R ∧ iv = .int .i64 k ∧ Hid (hs.length = k ∧ LH w.heap.size 35 (HR C (EZ 1 3)) wr qv hs ts ∧ Below w.heap.size w wr)) (fun _ iv _ _ _ => min n R - (intOf iv).toNat)
  case atStart => exact ⟨0, [], [], Nat.zero_le _, by go_num, rfl, LH.nil _ _ _ _, Below.refl _ _⟩
  case round =>
    obtain ⟨k, hs, ts, hk, rfl, H⟩ := hrel
    rcases Nat.lt_or_ge k (min n R) with hlt | hge
    · obtain ⟨hel, hLH, hB⟩ := H.out
      have hM := HX.out.below hB
      obtain ⟨b, o, hp, hc⟩ := hM.hl (by rw [hM.el]; omega)
      subst hp
      have c0 := hc k (by rw [hM.el]; omega)
      obtain ⟨rs0, hZ⟩ := hM.ev k (by omega)
      have cg : Hid (∀ wq, Below wr.heap.size wr wq → wq.cell? ⟨b, o + k, none⟩ = wr.cell? ⟨b, o + k, none⟩) := fun wq hb => hb.cell (block_lt_of_cell c0)
      generalize gh hs0 k = hd at c0 hZ
      obtain ⟨p1, n1, nc1⟩ := hd
      simp only [Hdr.val] at c0 hZ
      have HZ : Hid (RZ wr p1 n1 nc1 rs0) := hZ
      have hn1 : n1 ≤ 9223372036854775807 := by have h1 := hZ.cap; have h2 := hZ.bnd; unfold maxLen at h2; omega
      have i1' : (k : Int) < (n : Int) := by omega
      have i2' : (k : Int) < (R : Int) := by omega
      clear hel hLH hB hc hM hZ
      have C0 : Hid (wr.cell? ⟨b, o + k, none⟩ = some (.slice p1 n1 nc1)) := c0
      clear c0
      go_wp2_with fail
      rename World => W
      go_loopw [9, 10] (fun rv jv wq => ∃ (j : Nat) (rs : List Hdr) (zss : List (List Int)), j ≤ min n1 C ∧ jv = .int .i64 j ∧ Hid (rs.length = j ∧ LH W.heap.size 37 (EZ 1 3) wq rv rs zss ∧ Below W.heap.size W wq)) (fun _ jv _ => min n1 C - (intOf jv).toNat)
      case atStart => exact ⟨0, [], [], Nat.zero_le _, by go_num, rfl, LH.nil _ _ _ _, Below.refl _ _⟩
      case round =>
        obtain ⟨j, rs, zss, hj, rfl, G⟩ := hrel
        have c0 := (cg.out wr G.out.2.2).trans C0.out
        rcases Nat.lt_or_ge j (min n1 C) with hlt1 | hge1
        · obtain ⟨gel, gLH, gB⟩ := G.out
          have hN := HZ.out.below gB
          obtain ⟨b1, o1, hp1, hc1⟩ := hN.hl (by rw [hN.el]; omega)
          subst hp1
          have c1 := hc1 j (by rw [hN.el]; omega)
          obtain ⟨es2, hP2⟩ := hN.ev j (by omega)
          generalize gh rs0 j = hd2 at c1 hP2
          obtain ⟨p2, n2, nc2⟩ := hd2
          simp only [Hdr.val] at c1 hP2
          have j1 : (j : Int) < (n1 : Int) := by omega
          have j2 : (j : Int) < (C : Int) := by omega
          clear gel gLH gB hc1 hN
          go_wp2_with fail
          refine (Cut3_any hP2 3 1 (by decide) (by decide)).mono ?_
          rintro e w1 ⟨q, m, mc, fs, zs, rfl, hPA, hm, hF1, hF2, hb1⟩
          have HE : Hid (EZ 1 3 w1 wr.heap.size w1.heap.size zs ⟨q, m, mc⟩) := ez_of_cut hPA hm hF1 hF2
          have hown0 := own_below G.out.2.1.own hb1
          rw [G.out.1] at hown0
          have HO : Hid (w1.ownsRow W.heap.size 37 1 u9 j (rs.map Hdr.val)) := hown0
          have hsz : W.heap.size ≤ w1.heap.size := Nat.le_trans G.out.2.2.size hb1.size
          obtain ⟨hi, hz0, hz1, hz2⟩ := HI.out
          clear hown0 hPA hm hF1 hF2 c0 c1 hP2
          go_wp2_with (refine wpList_append_lies _ rfl _ _ 35 rfl W.heap.size 37 i0 (.slice none 0 0) 1 24 Tryz.underlying35 hi hz0 hz1 hz2 rfl (by decide) u9 j (rs.map Hdr.val) rfl (HO.out.alloc _) ⟨w1.heap.size, 0, none⟩ 1 1 [.slice q m mc] rfl rfl ?_ (fun x hx => by simp at hx; subst hx; rfl) (by decide) (by unfold maxLen; omega) (by omega) (by simp; omega) _ rfl ?_; exact World.news_of_block (heap_alloc_new w1 _); intro g cap w3 hown3 hgrow3 hat3 hlt3; have hB3 : Below W.heap.size W w3 := ((bnext' G.out.2.2 hb1).alloc hsz _).grown hgrow3 (by simp; omega) (fun q hq => (HO.out.lt q hq).1); have HA : Hid (LH W.heap.size 37 (EZ 1 3) w3 (.slice (some ⟨g, 0, none⟩) (j + 1) cap) (rs ++ [⟨q, m, mc⟩]) (zss ++ [zs])) := LH.app (lasts_EZ 1 3) G.out.1 G.out.2.1 hb1 HE.out (Nat.le_refl _) (Nat.le_refl _) G.out.2.2.size hown3 hgrow3 hat3; clear hown3 hgrow3 hat3)
          refine ⟨⟨j + 1, rs ++ [⟨q, m, mc⟩], zss ++ [zs], by omega, by go_num, by have := G.out.1; simp; omega, HA.out, hB3⟩, by simp [intOf]; omega⟩
        · obtain ⟨gel, gLH, gB⟩ := G.out
          obtain ⟨q, cap, hv, hRow⟩ := gLH.row (lasts_EZ 1 3) (D := C) (by omega)
          subst hv
          have HE : Hid (HR C (EZ 1 3) wr W.heap.size wr.heap.size zss ⟨q, j, cap⟩) := ⟨rs, by rw [← gel]; exact hRow⟩
          have hown0 := own_below H.out.2.1.own gB
          rw [H.out.1] at hown0
          have HO : Hid (wr.ownsRow w.heap.size 35 1 u7 k (hs.map Hdr.val)) := hown0
          have hsz : w.heap.size ≤ wr.heap.size := Nat.le_trans H.out.2.2.size gB.size
          have GB : Hid (Below W.heap.size W wr) := gB
          obtain ⟨hi, hz0, hz1, hz2⟩ := HJ.out
          rw [gel]
          have hcs : Hid (¬ j < n1 ∨ (j < n1 ∧ ¬ j < C)) := by show _ ∨ _; omega
          clear hown0 gLH gB hRow G gel
          rcases hcs.out with h1 | ⟨h1, h2⟩
          · have i1 : ¬ (j : Int) < (n1 : Int) := by omega
            clear h1
            go_wp2_with (refine wpList_append_lies _ rfl _ _ 22 rfl w.heap.size 35 I1 (.slice none 0 0) 1 24 Tryz.underlying22 hi hz0 hz1 hz2 rfl (by decide) u7 k (hs.map Hdr.val) rfl (HO.out.alloc _) ⟨wr.heap.size, 0, none⟩ 1 1 [.slice q j cap] rfl rfl ?_ (fun x hx => by simp at hx; subst hx; rfl) (by decide) (by unfold maxLen; omega) (by omega) (by simp; omega) _ rfl ?_; exact World.news_of_block (heap_alloc_new wr _); intro g cap' w3 hown3 hgrow3 hat3 hlt3; have hB3 : Below w.heap.size w w3 := ((bnext' H.out.2.2 GB.out).alloc hsz _).grown hgrow3 (by simp; omega) (fun q hq => (HO.out.lt q hq).1); have HA : Hid (LH w.heap.size 35 (HR C (EZ 1 3)) w3 (.slice (some ⟨g, 0, none⟩) (k + 1) cap') (hs ++ [⟨q, j, cap⟩]) (ts ++ [zss])) := LH.app (lasts_HR (lasts_EZ 1 3)) H.out.1 H.out.2.1 GB.out HE.out (Nat.le_refl _) (Nat.le_refl _) H.out.2.2.size hown3 hgrow3 hat3; clear hown3 hgrow3 hat3)
            refine ⟨⟨k + 1, hs ++ [⟨q, j, cap⟩], ts ++ [zss], by omega, by go_num, by have := H.out.1; simp; omega, HA.out, hB3⟩, by simp [intOf]; omega⟩
          · have i1 : (j : Int) < (n1 : Int) := by omega
            have i2 : ¬ (j : Int) < (C : Int) := by omega
            clear h1 h2
            go_wp2_with (refine wpList_append_lies _ rfl _ _ 22 rfl w.heap.size 35 I1 (.slice none 0 0) 1 24 Tryz.underlying22 hi hz0 hz1 hz2 rfl (by decide) u7 k (hs.map Hdr.val) rfl (HO.out.alloc _) ⟨wr.heap.size, 0, none⟩ 1 1 [.slice q j cap] rfl rfl ?_ (fun x hx => by simp at hx; subst hx; rfl) (by decide) (by unfold maxLen; omega) (by omega) (by simp; omega) _ rfl ?_; exact World.news_of_block (heap_alloc_new wr _); intro g cap' w3 hown3 hgrow3 hat3 hlt3; have hB3 : Below w.heap.size w w3 := ((bnext' H.out.2.2 GB.out).alloc hsz _).grown hgrow3 (by simp; omega) (fun q hq => (HO.out.lt q hq).1); have HA : Hid (LH w.heap.size 35 (HR C (EZ 1 3)) w3 (.slice (some ⟨g, 0, none⟩) (k + 1) cap') (hs ++ [⟨q, j, cap⟩]) (ts ++ [zss])) := LH.app (lasts_HR (lasts_EZ 1 3)) H.out.1 H.out.2.1 GB.out HE.out (Nat.le_refl _) (Nat.le_refl _) H.out.2.2.size hown3 hgrow3 hat3; clear hown3 hgrow3 hat3)
            refine ⟨⟨k + 1, hs ++ [⟨q, j, cap⟩], ts ++ [zss], by omega, by go_num, by have := H.out.1; simp; omega, HA.out, hB3⟩, by simp [intOf]; omega⟩
    · obtain rfl : k = min n R := by omega
      obtain ⟨hel, hLH, hB⟩ := H.out
      obtain ⟨q, cap, hv, hRow⟩ := hLH.row (lasts_HR (lasts_EZ 1 3)) (D := R) (by omega)
      subst hv
      rw [hel] at hRow ⊢
      have HR' : Hid (CuP n R C w (.returned (.slice q (min n R : Nat) cap)) wr) := ⟨⟨q, _, cap⟩, ts, rfl, rfl, ⟨hs, hRow⟩, hB⟩
      have hcs : Hid (¬ (min n R : Nat) < n ∨ ((min n R : Nat) < n ∧ ¬ (min n R : Nat) < R)) := by show _ ∨ _; omega
      generalize min n R = m at *
      clear H hLH hRow hB hge
      rcases hcs.out with h1 | ⟨h1, h2⟩
      · have i1 : ¬ (m : Int) < (n : Int) := by omega
        clear h1
        go_wp2
        go_ret
        exact HR'.out
      · have i1 : (m : Int) < (n : Int) := by omega
        have i2 : ¬ (m : Int) < (R : Int) := by omega
        clear h1 h2
        go_wp2
        go_ret
        exact HR'.out
end Go.Proofs.YtlhgpejapmpcmaaGreatDoor
