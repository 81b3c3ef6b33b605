/-
  ashlarlaw7.cut.
-/
import Derived.Test.YtlhgpejapmpcmaaGreatDoorOnOmPn
import Derived.Test.YtlhgpejapmpcmaaGreatDoorBbCvDj
import Derived.Test.YtlhgpejapmpcmaaGreatDoorWkWlBxOw
import Derived.Test.YtlhgpejapmpcmaaGreatDoorNiOaUa
namespace Go.Proofs.YtlhgpejapmpcmaaGreatDoor
open Go.RowKit
set_option linter.unusedVariables false
set_option linter.unusedSimpArgs false

theorem info_apiP : (Tryz.prog.info? 37).map (fun i => (i.zero, i.size, i.bytes)) = some (some (.slice none 0 0), 1, 24) := by kernel_rfl
theorem info_apiPs : (Tryz.prog.info? 35).map (fun i => (i.zero, i.size, i.bytes)) = some (some (.slice none 0 0), 1, 24) := by kernel_rfl
theorem ez_of_cut {n E L : Nat} {w w' : World} {q : Option Addr} {m mc : Nat} {fs : List Ent} {zs : List Int} (h : PA w' L q m mc fs zs) (hm : m = min n E) (h1 : Go.Proofs.YtlhgpejapmpcmaaGreatDoor.From w.heap.size q) (h2 : ∀ j, j < m → 0 < (ge fs j).n → Go.Proofs.YtlhgpejapmpcmaaGreatDoor.From w.heap.size (ge fs j).p) : EZ L E w' w.heap.size w'.heap.size zs ⟨q, m, mc⟩ := by
  refine ⟨fs, h, by show m ≤ E; omega, fun a ha hn => ⟨h1 a ha, ?_⟩, fun j hj hn a ha => ⟨h2 j hj hn a ha, (lasts_EV L).lt (h.ev j hj) hn a ha⟩⟩
  obtain ⟨b, o, hp, hlt⟩ := h.pl.lt (by rw [h.el]; exact hn)
  simp only at ha
  rw [hp] at ha
  cases ha
  exact hlt
/-- What cut answers. -/
def CuP (n R C : Nat) (w : World) (e : Ending) (w' : World) : Prop :=
  ∃ h ts, e = .returned (Hdr.val h) ∧ h.n = min n R ∧ HR R (HR C (EZ 1 3)) w' w.heap.size w'.heap.size ts h ∧ Below w.heap.size w w'
set_option maxHeartbeats 4000000 in
set_option maxRecDepth 100000 in
theorem cut7_any {w : World} {p : Option Addr} {n nc : Nat} {hs0 : List Hdr} (h : MZ w p n nc hs0) (R C : Nat) (hR : R ≤ 1000) (hC : C ≤ 1000) :
    Calls Tryz.prog 6 #[.slice p n nc, .int .i64 R, .int .i64 C] w (CuP n R C w) := by
  obtain ⟨i0, hi, hzz⟩ := Option.map_eq_some_iff.1 info_apiP
  simp only [Prod.mk.injEq] at hzz
  obtain ⟨hz0, hz1, hz2⟩ := hzz
  have HI : Hid (Tryz.prog.info? 37 = some i0 ∧ i0.zero = some (.slice none 0 0) ∧ i0.size = 1 ∧ i0.bytes = 24) := ⟨hi, hz0, hz1, hz2⟩
  clear hi hz0 hz1 hz2
  obtain ⟨I1, hi, hzz⟩ := Option.map_eq_some_iff.1 info_apiPs
  simp only [Prod.mk.injEq] at hzz
  obtain ⟨hz0, hz1, hz2⟩ := hzz
  have HJ : Hid (Tryz.prog.info? 35 = some I1 ∧ I1.zero = some (.slice none 0 0) ∧ I1.size = 1 ∧ I1.bytes = 24) := ⟨hi, hz0, hz1, hz2⟩
  clear hi hz0 hz1 hz2
  have HX : Hid (MZ w p n nc hs0) := h
  have hnm : n ≤ 9223372036854775807 := by have h1 := h.cap; have h2 := h.bnd; unfold maxLen at h2; omega
  clear h
  go_enter Tryz.func6, Tryz.ntmps6
  go_wp2_with fail
  go_loopw [7, 8, 9, 10] (fun qv iv rv jv wr => ∃ (k : Nat) (hs : List Hdr) (ts : List (List (List Int))), k ≤ min n R ∧ iv = .int .i64 k ∧ Hid (hs.length = k ∧ LH w.heap.size 35 (HR C (EZ 1 3)) wr qv hs ts ∧ Below w.heap.size w wr)) (fun _ iv _ _ _ => min n R - (intOf iv).toNat)
  case atStart => exact ⟨0, [], [], Nat.zero_le _, by go_num, rfl, LH.nil _ _ _ _, Below.refl _ _⟩
  case round =>
    obtain ⟨k, hs, ts, hk, rfl, H⟩ := hrel
    rcases Nat.lt_or_ge k (min n R) with hlt | hge
    · obtain ⟨hel, hLH, hB⟩ := H.out
      have hM := HX.out.below hB
      obtain ⟨b, o, hp, hc⟩ := hM.hl (by rw [hM.el]; omega)
      subst hp
      have c0 := hc k (by rw [hM.el]; omega)
      obtain ⟨rs0, hZ⟩ := hM.ev k (by omega)
      have cg : Hid (∀ wq, Below wr.heap.size wr wq → wq.cell? ⟨b, o + k, none⟩ = wr.cell? ⟨b, o + k, none⟩) := fun wq hb => hb.cell (block_lt_of_cell c0)
      generalize gh hs0 k = hd at c0 hZ
      obtain ⟨p1, n1, nc1⟩ := hd
      simp only [Hdr.val] at c0 hZ
      have HZ : Hid (RZ wr p1 n1 nc1 rs0) := hZ
      have hn1 : n1 ≤ 9223372036854775807 := by have h1 := hZ.cap; have h2 := hZ.bnd; unfold maxLen at h2; omega
      have i1' : (k : Int) < (n : Int) := by omega
      have i2' : (k : Int) < (R : Int) := by omega
      clear hel hLH hB hc hM hZ
      have C0 : Hid (wr.cell? ⟨b, o + k, none⟩ = some (.slice p1 n1 nc1)) := c0
      clear c0
      go_wp2_with fail
      rename World => W
      go_loopw [9, 10] (fun rv jv wq => ∃ (j : Nat) (rs : List Hdr) (zss : List (List Int)), j ≤ min n1 C ∧ jv = .int .i64 j ∧ Hid (rs.length = j ∧ LH W.heap.size 37 (EZ 1 3) wq rv rs zss ∧ Below W.heap.size W wq)) (fun _ jv _ => min n1 C - (intOf jv).toNat)
      case atStart => exact ⟨0, [], [], Nat.zero_le _, by go_num, rfl, LH.nil _ _ _ _, Below.refl _ _⟩
      case round =>
        obtain ⟨j, rs, zss, hj, rfl, G⟩ := hrel
        have c0 := (cg.out wr G.out.2.2).trans C0.out
        rcases Nat.lt_or_ge j (min n1 C) with hlt1 | hge1
        · obtain ⟨gel, gLH, gB⟩ := G.out
          have hN := HZ.out.below gB
          obtain ⟨b1, o1, hp1, hc1⟩ := hN.hl (by rw [hN.el]; omega)
          subst hp1
          have c1 := hc1 j (by rw [hN.el]; omega)
          obtain ⟨es2, hP2⟩ := hN.ev j (by omega)
          generalize gh rs0 j = hd2 at c1 hP2
          obtain ⟨p2, n2, nc2⟩ := hd2
          simp only [Hdr.val] at c1 hP2
          have j1 : (j : Int) < (n1 : Int) := by omega
          have j2 : (j : Int) < (C : Int) := by omega
          clear gel gLH gB hc1 hN
          go_wp2_with fail
          refine (Cut3_any hP2 3 1 (by decide) (by decide)).mono ?_
          rintro e w1 ⟨q, m, mc, fs, zs, rfl, hPA, hm, hF1, hF2, hb1⟩
          have HE : Hid (EZ 1 3 w1 wr.heap.size w1.heap.size zs ⟨q, m, mc⟩) := ez_of_cut hPA hm hF1 hF2
          have hown0 := own_below G.out.2.1.own hb1
          rw [G.out.1] at hown0
          have HO : Hid (w1.ownsRow W.heap.size 37 1 u9 j (rs.map Hdr.val)) := hown0
          have hsz : W.heap.size ≤ w1.heap.size := Nat.le_trans G.out.2.2.size hb1.size
          obtain ⟨hi, hz0, hz1, hz2⟩ := HI.out
          clear hown0 hPA hm hF1 hF2 c0 c1 hP2
          go_wp2_with (refine wpList_append_lies _ rfl _ _ 35 rfl W.heap.size 37 i0 (.slice none 0 0) 1 24 Tryz.underlying35 hi hz0 hz1 hz2 rfl (by decide) u9 j (rs.map Hdr.val) rfl (HO.out.alloc _) ⟨w1.heap.size, 0, none⟩ 1 1 [.slice q m mc] rfl rfl ?_ (fun x hx => by simp at hx; subst hx; rfl) (by decide) (by unfold maxLen; omega) (by omega) (by simp; omega) _ rfl ?_; exact World.news_of_block (heap_alloc_new w1 _); intro g cap w3 hown3 hgrow3 hat3 hlt3; have hB3 : Below W.heap.size W w3 := ((bnext' G.out.2.2 hb1).alloc hsz _).grown hgrow3 (by simp; omega) (fun q hq => (HO.out.lt q hq).1); have HA : Hid (LH W.heap.size 37 (EZ 1 3) w3 (.slice (some ⟨g, 0, none⟩) (j + 1) cap) (rs ++ [⟨q, m, mc⟩]) (zss ++ [zs])) := LH.app (lasts_EZ 1 3) G.out.1 G.out.2.1 hb1 HE.out (Nat.le_refl _) (Nat.le_refl _) G.out.2.2.size hown3 hgrow3 hat3; clear hown3 hgrow3 hat3)
          refine ⟨⟨j + 1, rs ++ [⟨q, m, mc⟩], zss ++ [zs], by omega, by go_num, by have := G.out.1; simp; omega, HA.out, hB3⟩, by simp [intOf]; omega⟩
        · obtain ⟨gel, gLH, gB⟩ := G.out
          obtain ⟨q, cap, hv, hRow⟩ := gLH.row (lasts_EZ 1 3) (D := C) (by omega)
          subst hv
          have HE : Hid (HR C (EZ 1 3) wr W.heap.size wr.heap.size zss ⟨q, j, cap⟩) := ⟨rs, by rw [← gel]; exact hRow⟩
          have hown0 := own_below H.out.2.1.own gB
          rw [H.out.1] at hown0
          have HO : Hid (wr.ownsRow w.heap.size 35 1 u7 k (hs.map Hdr.val)) := hown0
          have hsz : w.heap.size ≤ wr.heap.size := Nat.le_trans H.out.2.2.size gB.size
          have GB : Hid (Below W.heap.size W wr) := gB
          obtain ⟨hi, hz0, hz1, hz2⟩ := HJ.out
          rw [gel]
          have hcs : Hid (¬ j < n1 ∨ (j < n1 ∧ ¬ j < C)) := by show _ ∨ _; omega
          clear hown0 gLH gB hRow G gel
          rcases hcs.out with h1 | ⟨h1, h2⟩
          · have i1 : ¬ (j : Int) < (n1 : Int) := by omega
            clear h1
            go_wp2_with (refine wpList_append_lies _ rfl _ _ 22 rfl w.heap.size 35 I1 (.slice none 0 0) 1 24 Tryz.underlying22 hi hz0 hz1 hz2 rfl (by decide) u7 k (hs.map Hdr.val) rfl (HO.out.alloc _) ⟨wr.heap.size, 0, none⟩ 1 1 [.slice q j cap] rfl rfl ?_ (fun x hx => by simp at hx; subst hx; rfl) (by decide) (by unfold maxLen; omega) (by omega) (by simp; omega) _ rfl ?_; exact World.news_of_block (heap_alloc_new wr _); intro g cap' w3 hown3 hgrow3 hat3 hlt3; have hB3 : Below w.heap.size w w3 := ((bnext' H.out.2.2 GB.out).alloc hsz _).grown hgrow3 (by simp; omega) (fun q hq => (HO.out.lt q hq).1); have HA : Hid (LH w.heap.size 35 (HR C (EZ 1 3)) w3 (.slice (some ⟨g, 0, none⟩) (k + 1) cap') (hs ++ [⟨q, j, cap⟩]) (ts ++ [zss])) := LH.app (lasts_HR (lasts_EZ 1 3)) H.out.1 H.out.2.1 GB.out HE.out (Nat.le_refl _) (Nat.le_refl _) H.out.2.2.size hown3 hgrow3 hat3; clear hown3 hgrow3 hat3)
            refine ⟨⟨k + 1, hs ++ [⟨q, j, cap⟩], ts ++ [zss], by omega, by go_num, by have := H.out.1; simp; omega, HA.out, hB3⟩, by simp [intOf]; omega⟩
          · have i1 : (j : Int) < (n1 : Int) := by omega
            have i2 : ¬ (j : Int) < (C : Int) := by omega
            clear h1 h2
            go_wp2_with (refine wpList_append_lies _ rfl _ _ 22 rfl w.heap.size 35 I1 (.slice none 0 0) 1 24 Tryz.underlying22 hi hz0 hz1 hz2 rfl (by decide) u7 k (hs.map Hdr.val) rfl (HO.out.alloc _) ⟨wr.heap.size, 0, none⟩ 1 1 [.slice q j cap] rfl rfl ?_ (fun x hx => by simp at hx; subst hx; rfl) (by decide) (by unfold maxLen; omega) (by omega) (by simp; omega) _ rfl ?_; exact World.news_of_block (heap_alloc_new wr _); intro g cap' w3 hown3 hgrow3 hat3 hlt3; have hB3 : Below w.heap.size w w3 := ((bnext' H.out.2.2 GB.out).alloc hsz _).grown hgrow3 (by simp; omega) (fun q hq => (HO.out.lt q hq).1); have HA : Hid (LH w.heap.size 35 (HR C (EZ 1 3)) w3 (.slice (some ⟨g, 0, none⟩) (k + 1) cap') (hs ++ [⟨q, j, cap⟩]) (ts ++ [zss])) := LH.app (lasts_HR (lasts_EZ 1 3)) H.out.1 H.out.2.1 GB.out HE.out (Nat.le_refl _) (Nat.le_refl _) H.out.2.2.size hown3 hgrow3 hat3; clear hown3 hgrow3 hat3)
            refine ⟨⟨k + 1, hs ++ [⟨q, j, cap⟩], ts ++ [zss], by omega, by go_num, by have := H.out.1; simp; omega, HA.out, hB3⟩, by simp [intOf]; omega⟩
    · obtain rfl : k = min n R := by omega
      obtain ⟨hel, hLH, hB⟩ := H.out
      obtain ⟨q, cap, hv, hRow⟩ := hLH.row (lasts_HR (lasts_EZ 1 3)) (D := R) (by omega)
      subst hv
      rw [hel] at hRow ⊢
      have HR' : Hid (CuP n R C w (.returned (.slice q (min n R : Nat) cap)) wr) := ⟨⟨q, _, cap⟩, ts, rfl, rfl, ⟨hs, hRow⟩, hB⟩
      have hcs : Hid (¬ (min n R : Nat) < n ∨ ((min n R : Nat) < n ∧ ¬ (min n R : Nat) < R)) := by show _ ∨ _; omega
      generalize min n R = m at *
      clear H hLH hRow hB hge
      rcases hcs.out with h1 | ⟨h1, h2⟩
      · have i1 : ¬ (m : Int) < (n : Int) := by omega
        clear h1
        go_wp2
        go_ret
        exact HR'.out
      · have i1 : (m : Int) < (n : Int) := by omega
        have i2 : ¬ (m : Int) < (R : Int) := by omega
        clear h1 h2
        go_wp2
        go_ret
        exact HR'.out
end Go.Proofs.YtlhgpejapmpcmaaGreatDoor
/-
  The reference numbers: digits to the base 65536; ashlarref1.trim.
-/
namespace Go.Proofs.YtlhgpejapmpcmaaGreatDoor
open Go.RowKit
set_option linter.unusedVariables false
set_option linter.unusedSimpArgs false

/-- The number of digits to the base 65536, the lowest first. -/
def vd : List Int → Int
  | [] => 0
  | x :: r => x + 65536 * vd r
/-- Each entry is such a digit. -/
def U16 (xs : List Int) : Prop := ∀ j, 0 ≤ gx xs j ∧ gx xs j < 65536
/-- Limbs as digits. -/
def spl : List Int → List Int
  | [] => []
  | x :: r => x % 65536 :: x / 65536 :: spl r
theorem vd_spl (xs : List Int) : vd (spl xs) = val xs := by
  induction xs with
  | nil => rfl
  | cons x r ih => simp only [spl, vd, val, ih]; omega
theorem length_spl (xs : List Int) : (spl xs).length = 2 * xs.length := by
  induction xs with
  | nil => rfl
  | cons x r ih => simp only [spl, List.length_cons, ih]; omega
theorem u16_cons {x : Int} {r : List Int} (h0 : 0 ≤ x ∧ x < 65536) (h : U16 r) : U16 (x :: r) := fun j => by
  cases j with
  | zero => rw [gx_zero]; exact h0
  | succ j => rw [gx_succ]; exact h j
theorem u16_spl {xs : List Int} (h : U32 xs) : U16 (spl xs) := by
  induction xs with
  | nil => intro j; rw [spl, gx_nil]; decide
  | cons x r ih =>
    obtain ⟨h1, h2⟩ := u32_cons h
    exact u16_cons (by omega) (u16_cons (by omega) (ih h2))
theorem spl_append (a b : List Int) : spl (a ++ b) = spl a ++ spl b := by
  induction a with
  | nil => rfl
  | cons x r ih => simp only [List.cons_append, spl, ih]
theorem vd_append_zeros (a b : List Int) (h : ∀ j, gx b j = 0) : vd (a ++ b) = vd a := by
  induction a with
  | nil =>
    rw [List.nil_append]
    induction b with
    | nil => rfl
    | cons x r ih =>
      have h0 := h 0
      rw [gx_zero] at h0
      simp only [vd, h0, ih (fun j => by have := h (j + 1); rwa [gx_succ] at this)]
      rfl
  | cons x r ih => simp only [List.cons_append, vd, ih]
theorem vd_tr (xs : List Int) : vd (tr xs) = vd xs := by
  have h := vd_append_zeros (tr xs) (xs.drop (tlen xs)) (fun j => by rw [gx_drop]; exact tlen_zero xs _ (by omega))
  rw [tr, List.take_append_drop] at h
  exact h.symm
theorem u16_tr {xs : List Int} (h : U16 xs) : U16 (tr xs) := fun j => by rw [gx_tr]; exact h j

/-- A reference number that is handed about. -/
structure RN (w : World) (s : Bool) (p : Option Addr) (n : Nat) (ds : List Int) : Prop where
  len : ds.length = n
  rd : Rd w p .i64 ds
  u : U16 ds
  nrm : tlen ds = n
  sg : n = 0 → s = false
  sml : n ≤ 1000000000
theorem RN.below {w w' : World} {s : Bool} {p : Option Addr} {n : Nat} {ds : List Int} (h : RN w s p n ds) (hb : Below w.heap.size w w') : RN w' s p n ds := ⟨h.len, h.rd.below hb, h.u, h.nrm, h.sg, h.sml⟩
/-- The number of a sign and digits. -/
def rval (s : Bool) (ds : List Int) : Int := if s then - vd ds else vd ds

set_option maxHeartbeats 1000000 in
/-- ashlarref1.trim. -/
theorem rtrim_any (neg : Bool) (p : Option Addr) (len cap : Nat) (xs : List Int) (w : World) (hl : xs.length = len) (hc : len ≤ cap) (hm : cap ≤ maxLen) (hx : Rd w p .i64 xs) :
    Calls Tryz.prog 56 #[.bool neg, .slice p len cap] w fun e w' => e = .returned (.agg #[.bool (nsg neg xs), .slice p (tlen xs) (tlen xs)]) ∧ Below w.heap.size w w' := by
  unfold maxLen at hm
  have ht := tlen_le xs
  go_enter Tryz.func56, Tryz.ntmps56
  go_wp2
  have hx' := hx.alloc (.cells #[.bool false, .slice none 0 0] 62)
  have hBx : Bx (w.alloc (.cells #[.bool false, .slice none 0 0] 62)) w.heap.size (.bool false) (.slice none 0 0) := Bx.new _ _ _ rfl
  have hbw : Below w.heap.size w (w.alloc (.cells #[.bool false, .slice none 0 0] 62)) := (Below.refl _ _).alloc (Nat.le_refl _) _
  generalize w.alloc (.cells #[.bool false, .slice none 0 0] 62) = W at *
  have c0 := hBx.c0
  have c1 := hBx.c1
  have f0 := hBx.f0
  have f1 := hBx.f1
  go_loop [5] (fun n => ∃ k : Nat, k ≤ len ∧ n = .int .i64 k ∧ Hid (∀ j, k ≤ j → gx xs j = 0)) (fun n => (intOf n).toNat)
  case atStart => exact ⟨len, Nat.le_refl _, rfl, gx_past xs len (by omega)⟩
  case round =>
    obtain ⟨k, hk, rfl, hz⟩ := hrel
    by_cases h0 : k = 0
    · subst h0
      have ht0 := tlen_eq xs 0 hz.out (.inl rfl)
      have hns : nsg neg xs = false := by rw [nsg, if_pos ht0]
      have HN : Hid (nsg neg xs = false ∧ tlen xs = 0) := ⟨hns, ht0⟩
      clear hns ht0
      cases neg
      all_goals
        go_wp2
        refine bodyPost_ret (v := .agg #[.bool false, .slice p 0 0]) (by simp [results, Tryz.results56, go_sem, c0, c1]) rfl ⟨by rw [HN.out.1, HN.out.2], ?_⟩
        exact (hbw.setCell (by simp) _).setCell (by simp) _
    · obtain ⟨m, rfl⟩ : ∃ m, k = m + 1 := ⟨k - 1, by omega⟩
      obtain ⟨b, off, rfl, hcell⟩ := hx' (by omega)
      have hcm := hcell m (by omega)
      clear hcell
      by_cases h1 : gx xs m = 0
      · have h2 : (gx xs m == 0) = true := by simp only [h1]; rfl
        go_wp2
        go_round
        case rel => exact ⟨m, by omega, by go_num, fun j hj => by
          rcases Nat.lt_or_ge m j with h | h
          · exact hz.out j h
          · have : j = m := by omega
            subst this; exact h1⟩
        case measure => simp [intOf]
      · have h2 : (gx xs m == 0) = false := by simpa using h1
        have ht1 := tlen_eq xs (m + 1) hz.out (.inr h1)
        have hns : nsg neg xs = neg := by rw [nsg, if_neg (by omega)]
        have HN : Hid (nsg neg xs = neg ∧ tlen xs = m + 1) := ⟨hns, ht1⟩
        clear hns ht1
        cases neg
        · go_wp2
          refine bodyPost_ret (v := .agg #[.bool false, .slice (some ⟨b, off, none⟩) (m + 1) (m + 1)]) (by simp [results, Tryz.results56, go_sem, c0, c1]) rfl ⟨by rw [HN.out.1, HN.out.2], ?_⟩
          exact (hbw.setCell (by simp) _).setCell (by simp) _
        · go_wp2
          refine bodyPost_ret (v := .agg #[.bool true, .slice (some ⟨b, off, none⟩) (m + 1) (m + 1)]) (by simp [results, Tryz.results56, go_sem, c0, c1]) rfl ⟨by rw [HN.out.1, HN.out.2], ?_⟩
          exact (hbw.setCell (by simp) _).setCell (by simp) _
end Go.Proofs.YtlhgpejapmpcmaaGreatDoor
/-
  limbs.Sign.
-/
namespace Go.Proofs.YtlhgpejapmpcmaaGreatDoor
open Go.RowKit
set_option linter.unusedVariables false
set_option linter.unusedSimpArgs false

/-- The sign of an integer. -/
def isgn (z : Int) : Int := if z = 0 then 0 else if z < 0 then -1 else 1

theorem isgn_ival_zero {s : Bool} {xs : List Int} (hU : U32 xs) (h : tlen xs = 0) : isgn (ival s xs) = 0 := by
  have := (tlen_zero_iff hU).1 h
  cases s <;> simp [ival, isgn, this]
theorem isgn_ival {s : Bool} {xs : List Int} (hU : U32 xs) (h : tlen xs ≠ 0) : isgn (ival s xs) = if s then -1 else 1 := by
  have h1 : val xs ≠ 0 := fun e => h ((tlen_zero_iff hU).2 e)
  have h2 := val_nonneg hU
  cases s
  · simp only [ival, isgn, Bool.false_eq_true, if_false]; rw [if_neg h1, if_neg (by omega)]
  · simp only [ival, isgn, if_true]; rw [if_neg (by omega), if_pos (by omega)]

set_option maxHeartbeats 400000 in
/-- limbs.Sign. -/
theorem Sign_any (s : Bool) (p : Option Addr) (n nc : Nat) (xs : List Int) (w : World) (hA : AI w p n nc xs) :
    Calls Tryz.prog 66 #[.agg #[.bool s, .slice p n nc]] w fun e w' => e = .returned (.int .i64 (isgn (ival s xs))) ∧ Below w.heap.size w w' := by
  have tx := tlen_le xs
  by_cases h0 : tlen xs = 0
  · rw [isgn_ival_zero hA.u h0]
    go_enter Tryz.func66, Tryz.ntmps66
    go_wp2_with (go_at_call 68; refine (trim_any p n nc xs _ hA.len hA.cap hA.bnd (hA.rd.alloc _)).mono ?_; rintro e w' ⟨rfl, rfl⟩)
    go_ret
    exact ⟨rfl, (Below.refl _ _).alloc (Nat.le_refl _) _⟩
  · rw [isgn_ival hA.u h0]
    have h1 : (((tlen xs : Nat) : Int) == 0) = false := beq_eq_false_iff_ne.2 (by omega)
    cases s
    all_goals
      go_enter Tryz.func66, Tryz.ntmps66
      go_wp2_with (go_at_call 68; refine (trim_any p n nc xs _ hA.len hA.cap hA.bnd (hA.rd.alloc _)).mono ?_; rintro e w' ⟨rfl, rfl⟩)
      go_ret
      exact ⟨rfl, (Below.refl _ _).alloc (Nat.le_refl _) _⟩

theorem isgn_cases (z : Int) : (z = 0 ∧ isgn z = 0) ∨ (z < 0 ∧ isgn z = -1) ∨ (0 < z ∧ isgn z = 1) := by
  rcases Int.lt_trichotomy z 0 with h | h | h
  · exact .inr (.inl ⟨h, by rw [isgn, if_neg (by omega), if_pos h]⟩)
  · exact .inl ⟨h, by rw [isgn, if_pos h]⟩
  · exact .inr (.inr ⟨h, by rw [isgn, if_neg (by omega), if_neg (by omega)]⟩)
theorem icmp_isgn {a b : Int} (h : isgn a ≠ isgn b) : icmp (isgn a) (isgn b) = icmp a b := by
  rcases isgn_cases a with ⟨h1, h2⟩ | ⟨h1, h2⟩ | ⟨h1, h2⟩ <;> rcases isgn_cases b with ⟨h3, h4⟩ | ⟨h3, h4⟩ | ⟨h3, h4⟩ <;> rw [h2, h4] at h ⊢ <;>
    first
      | exact absurd rfl h
      | (rw [icmp_lt (by omega), icmp_lt (by omega)])
      | (rw [icmp_gt (by omega), icmp_gt (by omega)])
theorem icmp_same {s t : Bool} {xs ys : List Int} (hX : U32 xs) (hY : U32 ys) (h : isgn (ival s xs) = isgn (ival t ys)) : isgn (ival s xs) * icmp (val xs) (val ys) = icmp (ival s xs) (ival t ys) := by
  have h1 := val_nonneg hX
  have h2 := val_nonneg hY
  rcases isgn_cases (ival s xs) with ⟨a1, a2⟩ | ⟨a1, a2⟩ | ⟨a1, a2⟩ <;> rcases isgn_cases (ival t ys) with ⟨b1, b2⟩ | ⟨b1, b2⟩ | ⟨b1, b2⟩ <;> rw [a2, b2] at h <;> (try (exact absurd h (by decide))) <;> rw [a2]
  · rw [a1, b1, icmp_eq, Int.zero_mul]
  · have e1 : s = true := by cases s <;> simp_all [ival] <;> omega
    have e2 : t = true := by cases t <;> simp_all [ival] <;> omega
    subst e1 e2
    simp only [ival, if_true]
    rcases Int.lt_trichotomy (val xs) (val ys) with g | g | g
    · rw [icmp_lt g, icmp_gt (by omega)]; rfl
    · rw [g, icmp_eq, icmp_eq]; rfl
    · rw [icmp_gt g, icmp_lt (by omega)]; rfl
  · have e1 : s = false := by cases s <;> simp_all [ival] <;> omega
    have e2 : t = false := by cases t <;> simp_all [ival] <;> omega
    subst e1 e2
    simp only [ival, Bool.false_eq_true, if_false, Int.one_mul]
end Go.Proofs.YtlhgpejapmpcmaaGreatDoor
