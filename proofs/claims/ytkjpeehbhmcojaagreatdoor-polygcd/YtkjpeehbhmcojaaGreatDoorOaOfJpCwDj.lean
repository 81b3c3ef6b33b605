/-
  Arguments, read as data: what every card wants.
-/
import Derived.Test.YtkjpeehbhmcojaaGreatDoorPlS1Mm
import Derived.Test.YtkjpeehbhmcojaaGreatDoorProg
import Derived.ProofKit
import Derived.OpenShut
import Derived.Lib.SmallJoins
import Derived.Lay
import Derived.LaidOnce
import Derived.SevenTiedAt
import Derived.Test.YtkjpeehbhmcojaaGreatDoorUaVgOnWhPn
import Derived.Deep.SlicePairs
import Derived.Test.YtkjpeehbhmcojaaGreatDoorHeVvCu
import Derived.Test.YtkjpeehbhmcojaaGreatDoorRkUiVq
import Derived.Test.YtkjpeehbhmcojaaGreatDoorDcUjLeUk
import Derived.Test.YtkjpeehbhmcojaaGreatDoorCyViDsAeVuWxUpUq
import Derived.Test.YtkjpeehbhmcojaaGreatDoorUoDmVtAfBpBnBoAhAdBsDtAgWvUhAiRzVd
import Derived.Test.YtkjpeehbhmcojaaGreatDoorBbCvNjUbUcUdOwRaWmBe
namespace Go.Proofs.YtkjpeehbhmcojaaGreatDoor
open Go.ChangeShapes Go.WideShapes Go.ChangeAt Go.RowKit Go.Joins
set_option linter.unusedVariables false
set_option linter.unusedSimpArgs false
set_option maxHeartbeats 8000000
theorem own : ownKnob Tryz.prog.godebug = none := by kernel_rfl
theorem laidOut : laidOutB Tryz.prog = true := by kernel_rfl
def RawE (w : World) (e : Ent) : Prop := ∃ xs, xs.length = e.n ∧ e.n ≤ e.c ∧ e.c ≤ maxLen ∧ Rd w e.p .u32 xs ∧ U32 xs ∧ (e.p = none → e.c = 0)
structure PZ (w : World) (p : Option Addr) (n nc : Nat) (es : List Ent) : Prop where
  el : es.length = n
  cap : n ≤ nc
  bnd : nc ≤ maxLen
  pn : p = none → nc = 0
  pl : PL w p es
  ev : ∀ j, j < n → RawE w (ge es j)
theorem RawE.below {w w' : World} {e : Ent} (h : RawE w e) (hb : Below w.heap.size w w') : RawE w' e := by
  obtain ⟨xs, h1, h2, h3, h4, h5, h6⟩ := h
  exact ⟨xs, h1, h2, h3, h4.below hb, h5, h6⟩
theorem PZ.below {w w' : World} {p : Option Addr} {n nc : Nat} {es : List Ent} (h : PZ w p n nc es) (hb : Below w.heap.size w w') : PZ w' p n nc es :=
  ⟨h.el, h.cap, h.bnd, h.pn, h.pl.below hb, fun j hj => (h.ev j hj).below hb⟩
theorem cellsI2 : Tryz.prog.cellsOf 47 = 2 := by kernel_rfl
theorem cellsU : Tryz.prog.cellsOf 78 = 1 := by kernel_rfl
theorem cellsUs : Tryz.prog.cellsOf 45 = 1 := by kernel_rfl
theorem cellsB : Tryz.prog.cellsOf 4 = 1 := by kernel_rfl
def entOf : Value → Value → Ent
  | .bool s, .slice p n c => ⟨s, p, n, c⟩
  | _, _ => ez
set_option maxRecDepth 100000 in
theorem rawCells {H : Type} {enc : TypeId × Value → H} {W : World} {fuel : Nat} {v0 v1 : Value} {y0 y1 : DataW H × List MemPlace}
    (hy0 : DataW.trod enc Tryz.prog W 0 (fun _ => true) true fuel 4 [v0] = some y0) (hy1 : DataW.trod enc Tryz.prog W 0 (fun _ => true) true fuel 45 [v1] = some y1) :
    v0 = .bool (entOf v0 v1).s ∧ v1 = .slice (entOf v0 v1).p (entOf v0 v1).n (entOf v0 v1).c ∧ RawE W (entOf v0 v1) := by
  obtain ⟨s, e0, -⟩ := DataW.trod_bool Tryz.underlying4 hy0
  simp only [List.cons.injEq, and_true] at e0
  subst e0
  rcases open_ints Tryz.underlying45 Tryz.underlying78 cellsU hy1 with ⟨hcs, -⟩ | ⟨a, len, cap, zs, hcs, -, hl, hm, hz, -, hcell, hwz⟩
  · simp only [List.cons.injEq, and_true] at hcs
    subst hcs
    exact ⟨rfl, rfl, [], rfl, Nat.le_refl _, Nat.zero_le _, Rd.nil, u32_nil, fun _ => rfl⟩
  · simp only [List.cons.injEq, and_true] at hcs
    subst hcs
    simp only [if_true] at hz
    refine ⟨rfl, rfl, zs.take len, by show (zs.take len).length = len; simp; omega, hl, hm, ?_, ?_, fun h => by cases h⟩
    · intro hp
      have hp' : 0 < zs.length := by simp at hp; omega
      obtain ⟨b, off, rfl, hc⟩ := ints_at hcell hp'
      refine ⟨b, off, rfl, fun j hj => ?_⟩
      have hj' : j < len ∧ j < zs.length := by simp at hj; omega
      rw [gx_take _ _ _ hj'.1]
      exact hc j hj'.2
    · refine u32_take (fun j => ?_) len
      by_cases hj : j < zs.length
      · have := hwz zs[j] (List.getElem_mem hj)
        rw [gx_mem zs j hj]
        have h4 : 0 ≤ zs[j] ∧ zs[j] ≤ 4294967295 := by
          simpa [Lit.wf, IntKind.min, IntKind.max, IntKind.signed, IntKind.bits] using this
        exact ⟨h4.1, by omega⟩
      · rw [gx_past zs _ (Nat.le_refl _) j (by omega)]; decide
set_option maxRecDepth 100000 in
theorem openPoly {H : Type} {enc : TypeId × Value → H} {W : World} {base : Nat} {v0 : Value} {d0 : DataW H} {p0 : List MemPlace} (hv : Value.okWide Tryz.prog W .any base 23 v0)
    (h0 : DataW.Trod enc Tryz.prog W 0 (fun _ => true) true 23 v0 d0 p0) : ∃ (p : Option Addr) (n nc : Nat) (es : List Ent), v0 = .slice p n nc ∧ PZ W p n nc es := by
  obtain ⟨a0, len, cap, rfl⟩ := okWide_slice Tryz.underlying23 hv
  obtain ⟨fuel, hf⟩ := h0
  rcases Go.Deep.open_slice_pairs Tryz.underlying23 Tryz.underlying47 cellsI2 rfl rfl cellsB cellsUs hf with ⟨hcs, -⟩ | ⟨a, len', cap', m, k, V0, V1, D0, D1, P0, P1, hcs, -, hl, hm, hmm, -, hcell⟩
  · simp [Value.cells] at hcs
    obtain ⟨rfl, rfl, rfl⟩ := hcs
    exact ⟨none, 0, 0, [], rfl, ⟨rfl, Nat.le_refl _, Nat.zero_le _, fun _ => rfl, PL.nil, fun j hj => absurd hj (by omega)⟩⟩
  · simp [Value.cells] at hcs
    obtain ⟨rfl, rfl, rfl⟩ := hcs
    simp only [if_true] at hmm
    have hr : ∀ i, i < len → V0 i = .bool (entOf (V0 i) (V1 i)).s ∧ V1 i = .slice (entOf (V0 i) (V1 i)).p (entOf (V0 i) (V1 i)).n (entOf (V0 i) (V1 i)).c ∧ RawE W (entOf (V0 i) (V1 i)) := fun i hi => by
      obtain ⟨-, -, g0, g1⟩ := hcell i (by omega)
      exact rawCells g0 g1
    have hge : ∀ i, i < len → ge ((List.range len).map fun i => entOf (V0 i) (V1 i)) i = entOf (V0 i) (V1 i) := fun i hi => by simp [ge, hi]
    refine ⟨some a, len, cap, (List.range len).map fun i => entOf (V0 i) (V1 i), rfl, ⟨by simp, hl, hm, nofun, ?_, fun j hj => by rw [hge j hj]; exact (hr j hj).2.2⟩⟩
    intro hp
    have hp' : 0 < len := by simpa using hp
    obtain ⟨b, off, spot⟩ := a
    have hspot : spot = none := by simpa [Addr.add] using World.cell?_spot (hcell 0 (by omega)).1
    subst hspot
    refine ⟨b, off, rfl, fun j hj => ?_⟩
    have hj' : j < len := by simpa using hj
    obtain ⟨c0, c1, -, -⟩ := hcell j (by omega)
    obtain ⟨e0, e1, -⟩ := hr j hj'
    rw [hge j hj', ← e0, ← e1]
    rw [add_plain] at c0 c1
    exact ⟨c0, c1⟩
open Go.RowKit
theorem zb_zero : zb 0 = 0 := rfl
set_option maxRecDepth 100000 in
theorem rpAt_neg {w : World} (p : Option Addr) (n nc : Nat) :
    Calls Tryz.prog 74 #[.slice p n nc, .int .i64 (-1)] w fun r w' => ∃ u : Ent, r = .returned (.agg #[.bool u.s, .slice u.p u.n u.c]) ∧ RE w' 4 0 u ∧ Go.Proofs.YtkjpeehbhmcojaaGreatDoor.From (w.heap.size + 1) u.p ∧ Below w.heap.size w w' := by
  have hal := bel_al (o := .cells #[.bool false, .slice none 0 0] 50) (Below.refl w.heap.size w)
  have hX : Bx (w.alloc (.cells #[.bool false, .slice none 0 0] 50)) w.heap.size (.bool false) (.slice none 0 0) := Bx.new _ _ _ rfl
  go_enter Tryz.func74, Tryz.ntmps74
  go_upto_region 1 with fail
  generalize w.alloc (.cells #[.bool false, .slice none 0 0] 50) = W at *
  go_wp2_with fail
  refine (rOf_e 0 _ (by decide) (by decide)).mono ?_
  rintro e w1 ⟨u, rfl, hO, hF, hb1⟩
  obtain ⟨r0, r1, f0, f1⟩ := hX.later hb1
  have hlt : w.heap.size < W.heap.size := block_lt_of_cell hX.c0
  have hB := bnext' hal hb1
  go_wp2
  refine bodyPost_ret (v := .agg #[.bool u.s, .slice u.p u.n u.c]) (by simp [results, Tryz.results74, go_sem, r0, r1]) rfl ⟨u, rfl, ?_, fun a ha => Nat.le_trans hlt (hF a ha), bset2 hB (Nat.le_refl _) _ _⟩
  exact hO.set2 (fun _ a ha => by have := hF a ha; omega)
set_option maxRecDepth 100000 in
theorem rpLead_none {w : World} (p : Option Addr) (nc : Nat) :
    Calls Tryz.prog 33 #[.slice p 0 nc] w fun r w' => ∃ u : Ent, r = .returned (.agg #[.bool u.s, .slice u.p u.n u.c]) ∧ RE w' 4 0 u ∧ Below w.heap.size w w' := by
  have hal := bel_al (o := .cells #[.bool false, .slice none 0 0] 50) (Below.refl w.heap.size w)
  have hX : Bx (w.alloc (.cells #[.bool false, .slice none 0 0] 50)) w.heap.size (.bool false) (.slice none 0 0) := Bx.new _ _ _ rfl
  have ha := rpAt_neg (w := w.alloc (.cells #[.bool false, .slice none 0 0] 50)) p 0 nc
  go_enter Tryz.func33, Tryz.ntmps33
  go_upto_region 1 with fail
  generalize w.alloc (.cells #[.bool false, .slice none 0 0] 50) = W at *
  go_wp2_with fail
  refine ha.mono ?_
  rintro r w1 ⟨u, rfl, hO, hF, hb1⟩
  obtain ⟨r0, r1, f0, f1⟩ := hX.later hb1
  have hlt : w.heap.size < W.heap.size := block_lt_of_cell hX.c0
  clear ha
  go_wp2
  refine bodyPost_ret (v := .agg #[.bool u.s, .slice u.p u.n u.c]) (by simp [results, Tryz.results33, go_sem, r0, r1]) rfl ⟨u, rfl, ?_, bset2 (bnext' hal hb1) (Nat.le_refl _) _ _⟩
  exact hO.set2 (fun _ a ha => by have := hF a ha; omega)
theorem rpLead_any {w : World} {N : Nat} {p : Option Addr} {n nc : Nat} {es : List Ent} {zs : List Int} (h : PR w N p n nc es zs) (hn : n ≤ 1000000) (hN : 4 ≤ N) :
    Calls Tryz.prog 33 #[.slice p n nc] w fun r w' => ∃ u : Ent, r = .returned (.agg #[.bool u.s, .slice u.p u.n u.c]) ∧ RE w' N (gx zs (n - 1)) u ∧ Below w.heap.size w w' := by
  rcases Nat.eq_zero_or_pos n with h0 | h0
  · subst h0
    refine (rpLead_none p nc).mono ?_
    rintro r w1 ⟨u, rfl, hu, hb⟩
    rw [gx_past zs 0 (by rw [h.zl]; exact Nat.le_refl _) _ (Nat.zero_le _)]
    exact ⟨u, rfl, hu.wide hN, hb⟩
  · refine (rpLead_in h h0 hn).mono ?_
    rintro r w1 ⟨rfl, hb⟩
    exact ⟨_, rfl, (h.ev _ (by omega)).below hb, hb⟩
theorem PA.lt {w : World} {K : Nat} {p : Option Addr} {n nc : Nat} {es : List Ent} {zs : List Int} (h : PA w K p n nc es zs) (i : Nat) : ((gx zs i).natAbs : Int) < pw K := by
  rcases Nat.lt_or_ge i n with hi | hi
  · obtain ⟨xs, h1, h2, h3⟩ := h.ev i hi
    rw [← h2]
    exact Int.lt_of_lt_of_le (h1.lt _) (pw_mono h3)
  · rw [gx_past zs n (by rw [h.zl]; exact Nat.le_refl _) i hi]
    exact pw_pos K
theorem info_apiI : (Tryz.prog.info? 47).map (fun i => (i.zero, i.size, i.bytes)) = some (some (.agg #[.bool false, .slice none 0 0]), 2, 32) := by kernel_rfl
def CutP (n E L : Nat) (w : World) (e : Ending) (w' : World) : Prop :=
  ∃ q m mc fs zs, e = .returned (.slice q m mc) ∧ PA w' L q m mc fs zs ∧ m = min n E ∧ Go.Proofs.YtkjpeehbhmcojaaGreatDoor.From w.heap.size q ∧ (∀ j, j < m → 0 < (ge fs j).n → Go.Proofs.YtkjpeehbhmcojaaGreatDoor.From w.heap.size (ge fs j).p) ∧ Below w.heap.size w w'
theorem ai_take {w : World} {p : Option Addr} {n nc : Nat} {xs : List Int} (h : AI w p n nc xs) (m : Nat) (hm : m ≤ n) : AI w p m nc (xs.take m) :=
  ⟨by have := h.len; simp; omega, by have := h.cap; omega, h.bnd, by have := h.sml; omega, h.rd.take m, u32_take h.u m⟩
set_option maxRecDepth 100000 in
theorem Cut3_any {w : World} {p : Option Addr} {n nc : Nat} {es0 : List Ent} (h : PZ w p n nc es0) (E L : Nat) (hE : E ≤ 1000) (hL : L ≤ 24) :
    Calls Tryz.prog 13 #[.slice p n nc, .int .i64 E, .int .i64 L] w (CutP n E L w) := by
  obtain ⟨i0, hi, hzz⟩ := Option.map_eq_some_iff.1 info_apiI
  simp only [Prod.mk.injEq] at hzz
  obtain ⟨hz0, hz1, hz2⟩ := hzz
  have HI : Hid (Tryz.prog.info? 47 = some i0 ∧ i0.zero = some (.agg #[.bool false, .slice none 0 0]) ∧ i0.size = 2 ∧ i0.bytes = 32) := ⟨hi, hz0, hz1, hz2⟩
  have HX : Hid (PZ w p n nc es0) := h
  have hnm : n ≤ 9223372036854775807 := by have h1 := h.cap; have h2 := h.bnd; unfold maxLen at h2; omega
  clear h hi hz0 hz1 hz2
  go_enter Tryz.func13, Tryz.ntmps13
  go_wp2_with fail
  go_loopw [7, 8, 9] (fun qv iv av wr => ∃ (k : Nat) (es : List Ent) (zs : List Int), k ≤ min n E ∧ iv = .int .i64 k ∧ Hid (es.length = k ∧ LG w.heap.size 47 (fun w z e => EV w L z e) wr qv es zs ∧ (∀ j, j < k → 0 < (ge es j).n → Go.Proofs.YtkjpeehbhmcojaaGreatDoor.From w.heap.size (ge es j).p) ∧ Below w.heap.size w wr)) (fun _ iv _ _ => min n E - (intOf iv).toNat)
  case atStart => exact ⟨0, [], [], Nat.zero_le _, by go_num, rfl, LG.nil _ _ _ _, fun j hj => absurd hj (by omega), Below.refl _ _⟩
  case round =>
    obtain ⟨k, es, zs, hk, rfl, H⟩ := hrel
    rcases Nat.lt_or_ge k (min n E) with hlt | hge
    · obtain ⟨hel, hLR, hfr, hB⟩ := H.out
      have hPA := HX.out.below hB
      obtain ⟨b, o, hp, hc⟩ := hPA.pl (by rw [hPA.el]; omega)
      subst hp
      obtain ⟨c0, c1⟩ := hc k (by rw [hPA.el]; omega)
      obtain ⟨xs, r1, r2, r3, r4, r5, r6⟩ := hPA.ev k (by omega)
      have i1 : (k : Int) < (n : Int) := by omega
      have i2 : (k : Int) < (E : Int) := by omega
      clear hel hLR hB hc hPA hfr
      go_wp2_with fail
      refine (Cut_any (ge es0 k).s (ge es0 k).p (ge es0 k).n (ge es0 k).c xs wr r1 r2 r3 r4 r5 r6).mono ?_
      rintro e w1 ⟨p1, n1, c1', rfl, hA1, hn1, hF1, hb1⟩
      generalize (ge es0 k).s = s1
      clear c0 c1 r1 r2 r3 r4 r5 r6
      have hcap1 := hA1.cap
      have hbnd1 := hA1.bnd
      unfold maxLen at hbnd1
      obtain ⟨hi, hz0, hz1, hz2⟩ := HI.out
      rcases Nat.lt_or_ge L n1 with hgt | hle
      · have j1 : (L : Int) < (n1 : Int) := by omega
        have j2 : (L : Int) ≤ (c1' : Int) := by omega
        have HA1 : Hid (AI w1 p1 L c1' ((xs.take 24).take L)) := ai_take hA1 L (by omega)
        clear hA1
        go_upto_region 8 with fail
        have hX2 : Bx (w1.alloc (.cells #[.bool s1, .slice p1 L c1'] 47)) w1.heap.size (.bool s1) (.slice p1 L c1') := Bx.new _ _ _ rfl
        have hal := bel_al (o := .cells #[.bool s1, .slice p1 L c1'] 47) (Below.refl w1.heap.size w1)
        have hb2 := bnext' hb1 hal
        have hA2 := HA1.out.below hal
        clear HA1 hal
        generalize w1.alloc (.cells #[.bool s1, .slice p1 L c1'] 47) = W2 at *
        obtain ⟨q0, q1, -, -⟩ := hX2
        have HE : Hid (EV W2 L (ival s1 ((xs.take 24).take L)) ⟨s1, p1, L, c1'⟩) := ⟨((xs.take 24).take L), hA2, rfl, by show L ≤ L; omega⟩
        have hown0 := own_below H.out.2.1.own hb2
        rw [H.out.1] at hown0
        have HO : Hid (W2.ownsRow w.heap.size 47 2 u7 k (fl es)) := hown0
        have hsz : w.heap.size ≤ W2.heap.size := Nat.le_trans H.out.2.2.2.size hb2.size
        have HF : Hid (Go.Proofs.YtkjpeehbhmcojaaGreatDoor.From wr.heap.size p1) := hF1
        clear hown0 hA2 hF1 hb1
        go_wp2_with (refine wpList_append_lies _ rfl _ _ 23 rfl w.heap.size 47 i0 (.agg #[.bool false, .slice none 0 0]) 2 32 Tryz.underlying23 hi hz0 hz1 hz2 rfl (by decide) u7 k (fl es) rfl (HO.out.alloc _) ⟨W2.heap.size, 0, none⟩ 1 1 [.bool s1, .slice p1 L c1'] rfl rfl ?_ (fun x hx => by simp at hx; rcases hx with rfl | rfl <;> rfl) (by decide) (by unfold maxLen; omega) (by omega) (by simp; omega) _ rfl ?_; exact World.news_of_block (heap_alloc_new W2 _); intro g cap w3 hown3 hgrow3 hat3 hlt3; have hB3 : Below w.heap.size w w3 := ((bnext' H.out.2.2.2 hb2).alloc hsz _).grown hgrow3 (by simp; omega) (fun q hq => (HO.out.lt q hq).1); have HA : Hid (LG w.heap.size 47 (fun w z e => EV w L z e) w3 (.slice (some ⟨g, 0, none⟩) (k + 1) cap) (es ++ [⟨s1, p1, L, c1'⟩]) (zs ++ [ival s1 ((xs.take 24).take L)])) := lg_app (lasts_EV _) H.out.1 H.out.2.1 hb2 HE.out HF.out hown3 hgrow3 hat3; clear hown3 hgrow3 hat3)
        refine ⟨⟨k + 1, es ++ [⟨s1, p1, L, c1'⟩], zs ++ [ival s1 ((xs.take 24).take L)], by omega, by go_num, by have := H.out.1; simp; omega, HA.out, fun j hj h0 => ?_, hB3⟩, by simp [intOf]; omega⟩
        have hel := H.out.1
        rcases Nat.lt_or_ge j k with h | h
        · rw [ge_append_left _ _ _ (by omega)] at h0 ⊢
          exact H.out.2.2.1 j h h0
        · obtain rfl : j = es.length := by omega
          rw [ge_snoc]
          exact fun a ha => Nat.le_trans H.out.2.2.2.size (HF.out a ha)
      · have j1 : ¬ (L : Int) < (n1 : Int) := by omega
        have HA1 : Hid (AI w1 p1 n1 c1' (xs.take 24)) := hA1
        clear hA1
        go_upto_region 8 with fail
        have hX2 : Bx (w1.alloc (.cells #[.bool s1, .slice p1 n1 c1'] 47)) w1.heap.size (.bool s1) (.slice p1 n1 c1') := Bx.new _ _ _ rfl
        have hal := bel_al (o := .cells #[.bool s1, .slice p1 n1 c1'] 47) (Below.refl w1.heap.size w1)
        have hb2 := bnext' hb1 hal
        have hA2 := HA1.out.below hal
        clear HA1 hal
        generalize w1.alloc (.cells #[.bool s1, .slice p1 n1 c1'] 47) = W2 at *
        obtain ⟨q0, q1, -, -⟩ := hX2
        have HE : Hid (EV W2 L (ival s1 (xs.take 24)) ⟨s1, p1, n1, c1'⟩) := ⟨(xs.take 24), hA2, rfl, by show n1 ≤ L; omega⟩
        have hown0 := own_below H.out.2.1.own hb2
        rw [H.out.1] at hown0
        have HO : Hid (W2.ownsRow w.heap.size 47 2 u7 k (fl es)) := hown0
        have hsz : w.heap.size ≤ W2.heap.size := Nat.le_trans H.out.2.2.2.size hb2.size
        have HF : Hid (Go.Proofs.YtkjpeehbhmcojaaGreatDoor.From wr.heap.size p1) := hF1
        clear hown0 hA2 hF1 hb1
        go_wp2_with (refine wpList_append_lies _ rfl _ _ 23 rfl w.heap.size 47 i0 (.agg #[.bool false, .slice none 0 0]) 2 32 Tryz.underlying23 hi hz0 hz1 hz2 rfl (by decide) u7 k (fl es) rfl (HO.out.alloc _) ⟨W2.heap.size, 0, none⟩ 1 1 [.bool s1, .slice p1 n1 c1'] rfl rfl ?_ (fun x hx => by simp at hx; rcases hx with rfl | rfl <;> rfl) (by decide) (by unfold maxLen; omega) (by omega) (by simp; omega) _ rfl ?_; exact World.news_of_block (heap_alloc_new W2 _); intro g cap w3 hown3 hgrow3 hat3 hlt3; have hB3 : Below w.heap.size w w3 := ((bnext' H.out.2.2.2 hb2).alloc hsz _).grown hgrow3 (by simp; omega) (fun q hq => (HO.out.lt q hq).1); have HA : Hid (LG w.heap.size 47 (fun w z e => EV w L z e) w3 (.slice (some ⟨g, 0, none⟩) (k + 1) cap) (es ++ [⟨s1, p1, n1, c1'⟩]) (zs ++ [ival s1 (xs.take 24)])) := lg_app (lasts_EV _) H.out.1 H.out.2.1 hb2 HE.out HF.out hown3 hgrow3 hat3; clear hown3 hgrow3 hat3)
        refine ⟨⟨k + 1, es ++ [⟨s1, p1, n1, c1'⟩], zs ++ [ival s1 (xs.take 24)], by omega, by go_num, by have := H.out.1; simp; omega, HA.out, fun j hj h0 => ?_, hB3⟩, by simp [intOf]; omega⟩
        have hel := H.out.1
        rcases Nat.lt_or_ge j k with h | h
        · rw [ge_append_left _ _ _ (by omega)] at h0 ⊢
          exact H.out.2.2.1 j h h0
        · obtain rfl : j = es.length := by omega
          rw [ge_snoc]
          exact fun a ha => Nat.le_trans H.out.2.2.2.size (HF.out a ha)
    · obtain rfl : k = min n E := by omega
      obtain ⟨hel, hLR, hfr, hB⟩ := H.out
      have hzl := hLR.zl
      obtain ⟨q, cap, hv, hc1, hc2, hPL, hF, hpn⟩ := hLR.pl
      have hev := hLR.ev
      subst hv
      rw [hel] at hev hc1 hzl ⊢
      have HR : Hid (CutP n E L w (.returned (.slice q (min n E : Nat) cap)) wr) := ⟨q, _, cap, es, zs, rfl, ⟨hel, hzl, hc1, hc2, hpn, hPL, hev⟩, rfl, hF, hfr, hB⟩
      have hcs : Hid (¬ (min n E : Nat) < n ∨ ((min n E : Nat) < n ∧ ¬ (min n E : Nat) < E)) := by show _ ∨ _; omega
      generalize min n E = m at *
      clear H hLR hev hPL hF hfr hB hge
      rcases hcs.out with h1 | ⟨h1, h2⟩
      · have i1 : ¬ (m : Int) < (n : Int) := by omega
        clear h1
        go_wp2
        go_ret
        exact HR.out
      · have i1 : (m : Int) < (n : Int) := by omega
        have i2 : ¬ (m : Int) < (E : Int) := by omega
        clear h1 h2
        go_wp2
        go_ret
        exact HR.out
end Go.Proofs.YtkjpeehbhmcojaaGreatDoor
