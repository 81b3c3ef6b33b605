/-
  Arguments, read as data: what every card wants.
-/
import Derived.Test.YtejnhpjejcpekaaGreatDoorMmNaWaWbWc
import Derived.Test.YtejnhpjejcpekaaGreatDoorProg
import Derived.ProofKit
import Derived.OpenShut
import Derived.Lib.SmallJoins
import Derived.Lay
import Derived.LaidOnce
import Derived.SevenTiedAt
import Derived.Test.YtejnhpjejcpekaaGreatDoorUaWhPnWk
import Derived.Deep.SlicePairs
import Derived.Test.YtejnhpjejcpekaaGreatDoorByDqUxUtUvUwUyUzUrUsHaHbHcWvUhHeVvCu
import Derived.Test.YtejnhpjejcpekaaGreatDoorCyViVuWxUpUqRmRpDkDlDbRiRjRgRkVqDcUmUoDmDvPmHuVsVtVy
import Derived.Test.YtejnhpjejcpekaaGreatDoorFyUjBsLeUk
import Derived.Test.YtejnhpjejcpekaaGreatDoorUlDdReRxRf
import Derived.Test.YtejnhpjejcpekaaGreatDoorRhCqRrRwVaVg
import Derived.Test.YtejnhpjejcpekaaGreatDoorWlBxBbCvNjUbUcUdOwRaWmBeRd
import Derived.Test.YtejnhpjejcpekaaGreatDoorUeUfUgHdNb
namespace Go.Proofs.YtejnhpjejcpekaaGreatDoor
open Go.ChangeShapes Go.WideShapes Go.ChangeAt Go.RowKit Go.Joins
set_option linter.unusedVariables false
set_option linter.unusedSimpArgs false
set_option maxHeartbeats 8000000
theorem own : ownKnob Tryz.prog.godebug = none := by kernel_rfl
theorem laidOut : laidOutB Tryz.prog = true := by kernel_rfl
def RawE (w : World) (e : Ent) : Prop := ∃ xs, xs.length = e.n ∧ e.n ≤ e.c ∧ e.c ≤ maxLen ∧ Rd w e.p .u32 xs ∧ U32 xs ∧ (e.p = none → e.c = 0)
structure PZ (w : World) (p : Option Addr) (n nc : Nat) (es : List Ent) : Prop where
  el : es.length = n
  cap : n ≤ nc
  bnd : nc ≤ maxLen
  pn : p = none → nc = 0
  pl : PL w p es
  ev : ∀ j, j < n → RawE w (ge es j)
theorem RawE.below {w w' : World} {e : Ent} (h : RawE w e) (hb : Below w.heap.size w w') : RawE w' e := by
  obtain ⟨xs, h1, h2, h3, h4, h5, h6⟩ := h
  exact ⟨xs, h1, h2, h3, h4.below hb, h5, h6⟩
theorem PZ.below {w w' : World} {p : Option Addr} {n nc : Nat} {es : List Ent} (h : PZ w p n nc es) (hb : Below w.heap.size w w') : PZ w' p n nc es :=
  ⟨h.el, h.cap, h.bnd, h.pn, h.pl.below hb, fun j hj => (h.ev j hj).below hb⟩
theorem cellsI2 : Tryz.prog.cellsOf 26 = 2 := by kernel_rfl
theorem cellsU : Tryz.prog.cellsOf 88 = 1 := by kernel_rfl
theorem cellsUs : Tryz.prog.cellsOf 24 = 1 := by kernel_rfl
theorem cellsB : Tryz.prog.cellsOf 4 = 1 := by kernel_rfl
def entOf : Value → Value → Ent
  | .bool s, .slice p n c => ⟨s, p, n, c⟩
  | _, _ => ez
set_option maxRecDepth 100000 in
theorem rawCells {H : Type} {enc : TypeId × Value → H} {W : World} {fuel : Nat} {v0 v1 : Value} {y0 y1 : DataW H × List MemPlace}
    (hy0 : DataW.trod enc Tryz.prog W 0 (fun _ => true) true fuel 4 [v0] = some y0) (hy1 : DataW.trod enc Tryz.prog W 0 (fun _ => true) true fuel 24 [v1] = some y1) :
    v0 = .bool (entOf v0 v1).s ∧ v1 = .slice (entOf v0 v1).p (entOf v0 v1).n (entOf v0 v1).c ∧ RawE W (entOf v0 v1) := by
  obtain ⟨s, e0, -⟩ := DataW.trod_bool Tryz.underlying4 hy0
  simp only [List.cons.injEq, and_true] at e0
  subst e0
  rcases open_ints Tryz.underlying24 Tryz.underlying88 cellsU hy1 with ⟨hcs, -⟩ | ⟨a, len, cap, zs, hcs, -, hl, hm, hz, -, hcell, hwz⟩
  · simp only [List.cons.injEq, and_true] at hcs
    subst hcs
    exact ⟨rfl, rfl, [], rfl, Nat.le_refl _, Nat.zero_le _, Rd.nil, u32_nil, fun _ => rfl⟩
  · simp only [List.cons.injEq, and_true] at hcs
    subst hcs
    simp only [if_true] at hz
    refine ⟨rfl, rfl, zs.take len, by show (zs.take len).length = len; simp; omega, hl, hm, ?_, ?_, fun h => by cases h⟩
    · intro hp
      have hp' : 0 < zs.length := by simp at hp; omega
      obtain ⟨b, off, rfl, hc⟩ := ints_at hcell hp'
      refine ⟨b, off, rfl, fun j hj => ?_⟩
      have hj' : j < len ∧ j < zs.length := by simp at hj; omega
      rw [gx_take _ _ _ hj'.1]
      exact hc j hj'.2
    · refine u32_take (fun j => ?_) len
      by_cases hj : j < zs.length
      · have := hwz zs[j] (List.getElem_mem hj)
        rw [gx_mem zs j hj]
        have h4 : 0 ≤ zs[j] ∧ zs[j] ≤ 4294967295 := by
          simpa [Lit.wf, IntKind.min, IntKind.max, IntKind.signed, IntKind.bits] using this
        exact ⟨h4.1, by omega⟩
      · rw [gx_past zs _ (Nat.le_refl _) j (by omega)]; decide
set_option maxRecDepth 100000 in
theorem openPoly {H : Type} {enc : TypeId × Value → H} {W : World} {base : Nat} {v0 : Value} {d0 : DataW H} {p0 : List MemPlace} (hv : Value.okWide Tryz.prog W .any base 23 v0)
    (h0 : DataW.Trod enc Tryz.prog W 0 (fun _ => true) true 23 v0 d0 p0) : ∃ (p : Option Addr) (n nc : Nat) (es : List Ent), v0 = .slice p n nc ∧ PZ W p n nc es := by
  obtain ⟨a0, len, cap, rfl⟩ := okWide_slice Tryz.underlying23 hv
  obtain ⟨fuel, hf⟩ := h0
  rcases Go.Deep.open_slice_pairs Tryz.underlying23 Tryz.underlying26 cellsI2 rfl rfl cellsB cellsUs hf with ⟨hcs, -⟩ | ⟨a, len', cap', m, k, V0, V1, D0, D1, P0, P1, hcs, -, hl, hm, hmm, -, hcell⟩
  · simp [Value.cells] at hcs
    obtain ⟨rfl, rfl, rfl⟩ := hcs
    exact ⟨none, 0, 0, [], rfl, ⟨rfl, Nat.le_refl _, Nat.zero_le _, fun _ => rfl, PL.nil, fun j hj => absurd hj (by omega)⟩⟩
  · simp [Value.cells] at hcs
    obtain ⟨rfl, rfl, rfl⟩ := hcs
    simp only [if_true] at hmm
    have hr : ∀ i, i < len → V0 i = .bool (entOf (V0 i) (V1 i)).s ∧ V1 i = .slice (entOf (V0 i) (V1 i)).p (entOf (V0 i) (V1 i)).n (entOf (V0 i) (V1 i)).c ∧ RawE W (entOf (V0 i) (V1 i)) := fun i hi => by
      obtain ⟨-, -, g0, g1⟩ := hcell i (by omega)
      exact rawCells g0 g1
    have hge : ∀ i, i < len → ge ((List.range len).map fun i => entOf (V0 i) (V1 i)) i = entOf (V0 i) (V1 i) := fun i hi => by simp [ge, hi]
    refine ⟨some a, len, cap, (List.range len).map fun i => entOf (V0 i) (V1 i), rfl, ⟨by simp, hl, hm, nofun, ?_, fun j hj => by rw [hge j hj]; exact (hr j hj).2.2⟩⟩
    intro hp
    have hp' : 0 < len := by simpa using hp
    obtain ⟨b, off, spot⟩ := a
    have hspot : spot = none := by simpa [Addr.add] using World.cell?_spot (hcell 0 (by omega)).1
    subst hspot
    refine ⟨b, off, rfl, fun j hj => ?_⟩
    have hj' : j < len := by simpa using hj
    obtain ⟨c0, c1, -, -⟩ := hcell j (by omega)
    obtain ⟨e0, e1, -⟩ := hr j hj'
    rw [hge j hj', ← e0, ← e1]
    rw [add_plain] at c0 c1
    exact ⟨c0, c1⟩
open Go.RowKit
theorem no_int {w : World} {g : Nat} {s : Bool} {q : Option Addr} {n c : Nat} {ty : TypeId} (hg : w.heap[g]? = some (.cells #[.bool s, .slice q n c] ty)) (o : Nat) (k : IntKind) (z : Int) : w.cell? ⟨g, o, none⟩ ≠ some (.int k z) := by
  intro h
  match o, h with
  | 0, h => simp [World.cell?, hg, go_sem] at h
  | 1, h => simp [World.cell?, hg, go_sem] at h
  | (o + 2), h => simp [World.cell?, hg, go_sem] at h
set_option maxRecDepth 100000 in
theorem rIs_any {B : Nat} {w : World} {s t : Bool} {p q : Option Addr} {n m mc : Nat} {xs ds : List Int} {z : Int} (h : NI B w s p n xs z) (hn : n ≤ 1000) (hl : ds.length = m) (hm : m ≤ 1000) (hX : Rd w q .i64 ds) (hU : U16 ds) (hnr : tlen ds = m) (hs : m = 0 → t = false) (hv : rval t ds = z) :
    Calls Tryz.prog 52 #[.agg #[.bool s, .slice p n n], .agg #[.bool t, .slice q m mc]] w fun e w' => e = .returned (.bool true) ∧ Below w.heap.size w w' := by
  go_enter Tryz.func52, Tryz.ntmps52
  go_wp2_with fail
  have hX2 := boxes2 w (.bool s) (.slice p n n) (.bool t) (.slice q m mc) 26 34
  generalize ((w.alloc (Obj.cells #[Value.bool s, Value.slice p n n] 26)).alloc (Obj.cells #[Value.bool t, Value.slice q m mc] 34)) = W at *
  have k0 := hX2.ca0
  have k1 := hX2.ca1
  have k2 := hX2.cb0
  have k3 := hX2.cb1
  go_region_held3 (fun w' => w'.cell? ⟨w.heap.size, 0, none⟩ = some (.bool s) ∧ w'.cell? ⟨w.heap.size, 1, none⟩ = some (.slice p n n) ∧ w'.cell? ⟨w.heap.size + 1, 0, none⟩ = some (.bool t) ∧ w'.cell? ⟨w.heap.size + 1, 1, none⟩ = some (.slice q m mc)) (first | exact ⟨by assumption, by assumption, by assumption, by assumption⟩ | exact keepc4 (by assumption) (by assumption))
    (first
      | (go_at_call 40; refine (rTo_any t q m mc ds _ hl hm (hX.below hX2.below).drew hU).mono ?_; rintro e w1 ⟨p', m', cap, rfl, hA1, hm', hb1⟩)
      | (go_at_call 113; have h1 := h.below (bnext' hX2.below (undrew hb1)); have h2 : NN t (jn ds m') z := nn_jn hU (by omega) (fun e => hs (by omega)) hv (by have := hm'.out; omega); refine (rEq_nn h1 hA1 h2 hn).mono ?_; rintro e w2 ⟨rfl, hb2⟩))
  go_wp2
  go_ret
  exact ⟨rfl, bnext' (bnext' hX2.below (undrew hb1)) hb2⟩
theorem info_apiI : (Tryz.prog.info? 26).map (fun i => (i.zero, i.size, i.bytes)) = some (some (.agg #[.bool false, .slice none 0 0]), 2, 32) := by kernel_rfl
def CutP (n E L : Nat) (w : World) (e : Ending) (w' : World) : Prop :=
  ∃ q m mc fs zs, e = .returned (.slice q m mc) ∧ PA w' L q m mc fs zs ∧ m = min n E ∧ Go.Proofs.YtejnhpjejcpekaaGreatDoor.From w.heap.size q ∧ (∀ j, j < m → 0 < (ge fs j).n → Go.Proofs.YtejnhpjejcpekaaGreatDoor.From w.heap.size (ge fs j).p) ∧ Below w.heap.size w w'
theorem ai_take {w : World} {p : Option Addr} {n nc : Nat} {xs : List Int} (h : AI w p n nc xs) (m : Nat) (hm : m ≤ n) : AI w p m nc (xs.take m) :=
  ⟨by have := h.len; simp; omega, by have := h.cap; omega, h.bnd, by have := h.sml; omega, h.rd.take m, u32_take h.u m⟩
set_option maxRecDepth 100000 in
theorem Cut3_any {w : World} {p : Option Addr} {n nc : Nat} {es0 : List Ent} (h : PZ w p n nc es0) (E L : Nat) (hE : E ≤ 1000) (hL : L ≤ 24) :
    Calls Tryz.prog 11 #[.slice p n nc, .int .i64 E, .int .i64 L] w (CutP n E L w) := by
  obtain ⟨i0, hi, hzz⟩ := Option.map_eq_some_iff.1 info_apiI
  simp only [Prod.mk.injEq] at hzz
  obtain ⟨hz0, hz1, hz2⟩ := hzz
  have HI : Hid (Tryz.prog.info? 26 = some i0 ∧ i0.zero = some (.agg #[.bool false, .slice none 0 0]) ∧ i0.size = 2 ∧ i0.bytes = 32) := ⟨hi, hz0, hz1, hz2⟩
  have HX : Hid (PZ w p n nc es0) := h
  have hnm : n ≤ 9223372036854775807 := by have h1 := h.cap; have h2 := h.bnd; unfold maxLen at h2; omega
  clear h hi hz0 hz1 hz2
  go_enter Tryz.func11, Tryz.ntmps11
  go_wp2_with fail
  go_loopw [7, 8, 9] (fun qv iv av wr => ∃ (k : Nat) (es : List Ent) (zs : List Int), k ≤ min n E ∧ iv = .int .i64 k ∧ Hid (es.length = k ∧ LG w.heap.size 26 (fun w z e => EV w L z e) wr qv es zs ∧ (∀ j, j < k → 0 < (ge es j).n → Go.Proofs.YtejnhpjejcpekaaGreatDoor.From w.heap.size (ge es j).p) ∧ Below w.heap.size w wr)) (fun _ iv _ _ => min n E - (intOf iv).toNat)
  case atStart => exact ⟨0, [], [], Nat.zero_le _, by go_num, rfl, LG.nil _ _ _ _, fun j hj => absurd hj (by omega), Below.refl _ _⟩
  case round =>
    obtain ⟨k, es, zs, hk, rfl, H⟩ := hrel
    rcases Nat.lt_or_ge k (min n E) with hlt | hge
    · obtain ⟨hel, hLR, hfr, hB⟩ := H.out
      have hPA := HX.out.below hB
      obtain ⟨b, o, hp, hc⟩ := hPA.pl (by rw [hPA.el]; omega)
      subst hp
      obtain ⟨c0, c1⟩ := hc k (by rw [hPA.el]; omega)
      obtain ⟨xs, r1, r2, r3, r4, r5, r6⟩ := hPA.ev k (by omega)
      have i1 : (k : Int) < (n : Int) := by omega
      have i2 : (k : Int) < (E : Int) := by omega
      clear hel hLR hB hc hPA hfr
      go_wp2_with fail
      refine (Cut_any (ge es0 k).s (ge es0 k).p (ge es0 k).n (ge es0 k).c xs wr r1 r2 r3 r4 r5 r6).mono ?_
      rintro e w1 ⟨p1, n1, c1', rfl, hA1, hn1, hF1, hb1⟩
      generalize (ge es0 k).s = s1
      clear c0 c1 r1 r2 r3 r4 r5 r6
      have hcap1 := hA1.cap
      have hbnd1 := hA1.bnd
      unfold maxLen at hbnd1
      obtain ⟨hi, hz0, hz1, hz2⟩ := HI.out
      rcases Nat.lt_or_ge L n1 with hgt | hle
      · have j1 : (L : Int) < (n1 : Int) := by omega
        have j2 : (L : Int) ≤ (c1' : Int) := by omega
        have HA1 : Hid (AI w1 p1 L c1' ((xs.take 24).take L)) := ai_take hA1 L (by omega)
        clear hA1
        go_upto_region 8 with fail
        have hX2 : Bx (w1.alloc (.cells #[.bool s1, .slice p1 L c1'] 26)) w1.heap.size (.bool s1) (.slice p1 L c1') := Bx.new _ _ _ rfl
        have hal := bel_al (o := .cells #[.bool s1, .slice p1 L c1'] 26) (Below.refl w1.heap.size w1)
        have hb2 := bnext' hb1 hal
        have hA2 := HA1.out.below hal
        clear HA1 hal
        generalize w1.alloc (.cells #[.bool s1, .slice p1 L c1'] 26) = W2 at *
        obtain ⟨q0, q1, -, -⟩ := hX2
        have HE : Hid (EV W2 L (ival s1 ((xs.take 24).take L)) ⟨s1, p1, L, c1'⟩) := ⟨((xs.take 24).take L), hA2, rfl, by show L ≤ L; omega⟩
        have hown0 := own_below H.out.2.1.own hb2
        rw [H.out.1] at hown0
        have HO : Hid (W2.ownsRow w.heap.size 26 2 u7 k (fl es)) := hown0
        have hsz : w.heap.size ≤ W2.heap.size := Nat.le_trans H.out.2.2.2.size hb2.size
        have HF : Hid (Go.Proofs.YtejnhpjejcpekaaGreatDoor.From wr.heap.size p1) := hF1
        clear hown0 hA2 hF1 hb1
        go_wp2_with (refine wpList_append_lies _ rfl _ _ 23 rfl w.heap.size 26 i0 (.agg #[.bool false, .slice none 0 0]) 2 32 Tryz.underlying23 hi hz0 hz1 hz2 rfl (by decide) u7 k (fl es) rfl (HO.out.alloc _) ⟨W2.heap.size, 0, none⟩ 1 1 [.bool s1, .slice p1 L c1'] rfl rfl ?_ (fun x hx => by simp at hx; rcases hx with rfl | rfl <;> rfl) (by decide) (by unfold maxLen; omega) (by omega) (by simp; omega) _ rfl ?_; exact World.news_of_block (heap_alloc_new W2 _); intro g cap w3 hown3 hgrow3 hat3 hlt3; have hB3 : Below w.heap.size w w3 := ((bnext' H.out.2.2.2 hb2).alloc hsz _).grown hgrow3 (by simp; omega) (fun q hq => (HO.out.lt q hq).1); have HA : Hid (LG w.heap.size 26 (fun w z e => EV w L z e) w3 (.slice (some ⟨g, 0, none⟩) (k + 1) cap) (es ++ [⟨s1, p1, L, c1'⟩]) (zs ++ [ival s1 ((xs.take 24).take L)])) := lg_app (lasts_EV _) H.out.1 H.out.2.1 hb2 HE.out HF.out hown3 hgrow3 hat3; clear hown3 hgrow3 hat3)
        refine ⟨⟨k + 1, es ++ [⟨s1, p1, L, c1'⟩], zs ++ [ival s1 ((xs.take 24).take L)], by omega, by go_num, by have := H.out.1; simp; omega, HA.out, fun j hj h0 => ?_, hB3⟩, by simp [intOf]; omega⟩
        have hel := H.out.1
        rcases Nat.lt_or_ge j k with h | h
        · rw [ge_append_left _ _ _ (by omega)] at h0 ⊢
          exact H.out.2.2.1 j h h0
        · obtain rfl : j = es.length := by omega
          rw [ge_snoc]
          exact fun a ha => Nat.le_trans H.out.2.2.2.size (HF.out a ha)
      · have j1 : ¬ (L : Int) < (n1 : Int) := by omega
        have HA1 : Hid (AI w1 p1 n1 c1' (xs.take 24)) := hA1
        clear hA1
        go_upto_region 8 with fail
        have hX2 : Bx (w1.alloc (.cells #[.bool s1, .slice p1 n1 c1'] 26)) w1.heap.size (.bool s1) (.slice p1 n1 c1') := Bx.new _ _ _ rfl
        have hal := bel_al (o := .cells #[.bool s1, .slice p1 n1 c1'] 26) (Below.refl w1.heap.size w1)
        have hb2 := bnext' hb1 hal
        have hA2 := HA1.out.below hal
        clear HA1 hal
        generalize w1.alloc (.cells #[.bool s1, .slice p1 n1 c1'] 26) = W2 at *
        obtain ⟨q0, q1, -, -⟩ := hX2
        have HE : Hid (EV W2 L (ival s1 (xs.take 24)) ⟨s1, p1, n1, c1'⟩) := ⟨(xs.take 24), hA2, rfl, by show n1 ≤ L; omega⟩
        have hown0 := own_below H.out.2.1.own hb2
        rw [H.out.1] at hown0
        have HO : Hid (W2.ownsRow w.heap.size 26 2 u7 k (fl es)) := hown0
        have hsz : w.heap.size ≤ W2.heap.size := Nat.le_trans H.out.2.2.2.size hb2.size
        have HF : Hid (Go.Proofs.YtejnhpjejcpekaaGreatDoor.From wr.heap.size p1) := hF1
        clear hown0 hA2 hF1 hb1
        go_wp2_with (refine wpList_append_lies _ rfl _ _ 23 rfl w.heap.size 26 i0 (.agg #[.bool false, .slice none 0 0]) 2 32 Tryz.underlying23 hi hz0 hz1 hz2 rfl (by decide) u7 k (fl es) rfl (HO.out.alloc _) ⟨W2.heap.size, 0, none⟩ 1 1 [.bool s1, .slice p1 n1 c1'] rfl rfl ?_ (fun x hx => by simp at hx; rcases hx with rfl | rfl <;> rfl) (by decide) (by unfold maxLen; omega) (by omega) (by simp; omega) _ rfl ?_; exact World.news_of_block (heap_alloc_new W2 _); intro g cap w3 hown3 hgrow3 hat3 hlt3; have hB3 : Below w.heap.size w w3 := ((bnext' H.out.2.2.2 hb2).alloc hsz _).grown hgrow3 (by simp; omega) (fun q hq => (HO.out.lt q hq).1); have HA : Hid (LG w.heap.size 26 (fun w z e => EV w L z e) w3 (.slice (some ⟨g, 0, none⟩) (k + 1) cap) (es ++ [⟨s1, p1, n1, c1'⟩]) (zs ++ [ival s1 (xs.take 24)])) := lg_app (lasts_EV _) H.out.1 H.out.2.1 hb2 HE.out HF.out hown3 hgrow3 hat3; clear hown3 hgrow3 hat3)
        refine ⟨⟨k + 1, es ++ [⟨s1, p1, n1, c1'⟩], zs ++ [ival s1 (xs.take 24)], by omega, by go_num, by have := H.out.1; simp; omega, HA.out, fun j hj h0 => ?_, hB3⟩, by simp [intOf]; omega⟩
        have hel := H.out.1
        rcases Nat.lt_or_ge j k with h | h
        · rw [ge_append_left _ _ _ (by omega)] at h0 ⊢
          exact H.out.2.2.1 j h h0
        · obtain rfl : j = es.length := by omega
          rw [ge_snoc]
          exact fun a ha => Nat.le_trans H.out.2.2.2.size (HF.out a ha)
    · obtain rfl : k = min n E := by omega
      obtain ⟨hel, hLR, hfr, hB⟩ := H.out
      have hzl := hLR.zl
      obtain ⟨q, cap, hv, hc1, hc2, hPL, hF, hpn⟩ := hLR.pl
      have hev := hLR.ev
      subst hv
      rw [hel] at hev hc1 hzl ⊢
      have HR : Hid (CutP n E L w (.returned (.slice q (min n E : Nat) cap)) wr) := ⟨q, _, cap, es, zs, rfl, ⟨hel, hzl, hc1, hc2, hpn, hPL, hev⟩, rfl, hF, hfr, hB⟩
      have hcs : Hid (¬ (min n E : Nat) < n ∨ ((min n E : Nat) < n ∧ ¬ (min n E : Nat) < E)) := by show _ ∨ _; omega
      generalize min n E = m at *
      clear H hLR hev hPL hF hfr hB hge
      rcases hcs.out with h1 | ⟨h1, h2⟩
      · have i1 : ¬ (m : Int) < (n : Int) := by omega
        clear h1
        go_wp2
        go_ret
        exact HR.out
      · have i1 : (m : Int) < (n : Int) := by omega
        have i2 : ¬ (m : Int) < (E : Int) := by omega
        clear h1 h2
        go_wp2
        go_ret
        exact HR.out
theorem pz_lit {W : World} {g : Nat} {e : Ent} (h0 : W.cell? ⟨g, 0, none⟩ = some (.bool e.s)) (h1 : W.cell? ⟨g, 1, none⟩ = some (.slice e.p e.n e.c)) (hr : RawE W e) : PZ W (some ⟨g, 0, none⟩) 1 1 [e] :=
  ⟨rfl, Nat.le_refl _, by decide, nofun, fun _ => ⟨g, 0, rfl, fun j hj => by
    obtain rfl : j = 0 := by simp at hj; omega
    exact ⟨h0, h1⟩⟩, fun j hj => by
    obtain rfl : j = 0 := by omega
    exact hr⟩
theorem cells_lit (w : World) (x y : Value) (t : Nat) : (w.alloc (.cells #[x, y] t)).cell? ⟨w.heap.size, 0, none⟩ = some x ∧ (w.alloc (.cells #[x, y] t)).cell? ⟨w.heap.size, 1, none⟩ = some y := ⟨by simp [go_sem], by simp [go_sem]⟩
theorem rFrom_e {w : World} {K : Nat} {z : Int} {e : Ent} (h : EV w K z e) :
    Calls Tryz.prog 12 #[.agg #[.bool e.s, .slice e.p e.n e.c]] w fun r w' => ∃ u : Ent, r = .returned (.agg #[.bool u.s, .slice u.p u.n u.c]) ∧ RE w' (2 * K) z u ∧ Go.Proofs.YtejnhpjejcpekaaGreatDoor.From w.heap.size u.p ∧ Below w.heap.size w w' := by
  obtain ⟨xs, h1, h2, h3⟩ := h
  refine (From_ansF e.s e.p e.n e.c xs w h1).mono ?_
  rintro r w1 ⟨s, p, n, d, rfl, h4, h5, h6, h7, h8⟩
  exact ⟨⟨s, p, n, n⟩, rfl, ⟨⟨d, h4, by rw [h5, h2], by show n ≤ _; omega⟩, rfl⟩, h7, h8⟩
open Go.RowKit Go.Shelf
theorem idx_mem (zs : List Int) (k i : Nat) : i ∈ idx zs k ↔ i < k ∧ ¬ gx zs i = 0 := by simp [idx]
def Behind (zs : List Int) (j : Nat) : Prop := j = 0 ∨ ∃ i, j = i + 1 ∧ ¬ gx zs i = 0
theorem Behind.le {zs : List Int} {j m : Nat} (h : Behind zs j) (e : idx zs j = idx zs m) : j ≤ m := by
  rcases h with rfl | ⟨i, rfl, hi⟩
  · exact Nat.zero_le _
  · have : i ∈ idx zs (i + 1) := (idx_mem ..).2 ⟨by omega, hi⟩
    rw [e, idx_mem] at this
    omega
structure Hdr where
  p : Option Addr
  n : Nat
  c : Nat
instance : Inhabited Hdr := ⟨⟨none, 0, 0⟩⟩
def Hdr.val (h : Hdr) : Value := .slice h.p h.n h.c
def hdrOf : Value → Hdr
  | .slice p n c => ⟨p, n, c⟩
  | _ => default
def gh (hs : List Hdr) (j : Nat) : Hdr := hs.getD j default
def HL (w : World) (p : Option Addr) (hs : List Hdr) : Prop := 0 < hs.length → ∃ b o, p = some ⟨b, o, none⟩ ∧ ∀ j, j < hs.length → w.cell? ⟨b, o + j, none⟩ = some (gh hs j).val
theorem HL.below {w w' : World} {p : Option Addr} {hs : List Hdr} (h : HL w p hs) (hb : Below w.heap.size w w') : HL w' p hs := fun hp => by
  obtain ⟨b, o, e, hc⟩ := h hp
  refine ⟨b, o, e, fun j hj => ?_⟩
  have h1 := hc j hj
  rw [hb.cell (by
    rcases Nat.lt_or_ge b w.heap.size with h2 | h2
    · exact h2
    · simp [World.cell?, Array.getElem?_eq_none h2] at h1)]
  exact h1
theorem gh_append_left (a b : List Hdr) (i : Nat) (h : i < a.length) : gh (a ++ b) i = gh a i := by simp [gh, List.getElem?_append, h]
theorem gh_snoc (a : List Hdr) (e : Hdr) : gh (a ++ [e]) a.length = e := by simp [gh]
def gt {α : Type} [Inhabited α] (ts : List α) (j : Nat) : α := ts.getD j default
theorem gt_append_left {α : Type} [Inhabited α] (a b : List α) (i : Nat) (h : i < a.length) : gt (a ++ b) i = gt a i := by simp [gt, List.getElem?_append, h]
theorem gt_snoc {α : Type} [Inhabited α] (a : List α) (e : α) : gt (a ++ [e]) a.length = e := by simp [gt]
structure LastsH {α : Type} (E : World → Nat → Nat → α → Hdr → Prop) : Prop where
  grown : ∀ {w w' : World} {B T : Nat} {z : α} {h : Hdr} {row : Option Nat}, E w B T z h → T ≤ w.heap.size → w.grownBy w' row → (∀ r, row = some r → r < B ∨ T ≤ r) → E w' B T z h
  wide : ∀ {w : World} {B T B' T' : Nat} {z : α} {h : Hdr}, E w B T z h → B' ≤ B → T ≤ T' → E w B' T' z h
theorem LastsH.below {α : Type} {E : World → Nat → Nat → α → Hdr → Prop} (L : LastsH E) {w w' : World} {B T : Nat} {z : α} {h : Hdr} (he : E w B T z h) (hT : T ≤ w.heap.size) (hb : Below w.heap.size w w') : E w' B T z h :=
  L.grown he hT (grownBy_below hb none) nofun
structure HRow {α : Type} [Inhabited α] (D : Nat) (E : World → Nat → Nat → α → Hdr → Prop) (w : World) (B T : Nat) (ts : List α) (h : Hdr) (hs : List Hdr) : Prop where
  el : hs.length = h.n
  tl : ts.length = h.n
  cap : h.n ≤ h.c
  bnd : h.c ≤ maxLen
  pn : h.p = none → h.c = 0
  few : h.n ≤ D
  hl : HL w h.p hs
  at_ : ∀ a, h.p = some a → 0 < h.n → B ≤ a.block ∧ a.block < T
  ev : ∀ j, j < h.n → E w B T (gt ts j) (gh hs j)
def HR {α : Type} [Inhabited α] (D : Nat) (E : World → Nat → Nat → α → Hdr → Prop) (w : World) (B T : Nat) (ts : List α) (h : Hdr) : Prop := ∃ hs, HRow D E w B T ts h hs
theorem HL.same {w w' : World} {p : Option Addr} {hs : List Hdr} (h : HL w p hs) (hk : ∀ a, p = some a → 0 < hs.length → a.block < w.heap.size → w'.heap[a.block]? = w.heap[a.block]?) : HL w' p hs := fun hp => by
  obtain ⟨b, o, e, hc⟩ := h hp
  have hlt : b < w.heap.size := block_lt_of_cell (hc 0 hp)
  exact ⟨b, o, e, fun j hj => (World.cell?_of_block (a := ⟨b, o + j, none⟩) (hk ⟨b, o, none⟩ e hp hlt)).trans (hc j hj)⟩
theorem lasts_HR {α : Type} [Inhabited α] {D : Nat} {E : World → Nat → Nat → α → Hdr → Prop} (L : LastsH E) : LastsH (HR D E) := ⟨fun {w w' B T z h row} he hT hg hr => by
    obtain ⟨hs, k⟩ := he
    refine ⟨hs, k.el, k.tl, k.cap, k.bnd, k.pn, k.few, k.hl.same fun a ha hn hlt => hg.block a.block hlt fun e => ?_, k.at_, fun j hj => L.grown (k.ev j hj) hT hg hr⟩
    have h1 := k.at_ a ha (by rw [← k.el]; exact hn)
    have h2 := hr a.block e.symm
    omega, fun {w B T B' T' z h} he hB hT => by
    obtain ⟨hs, k⟩ := he
    exact ⟨hs, k.el, k.tl, k.cap, k.bnd, k.pn, k.few, k.hl, fun a ha hn => by have := k.at_ a ha hn; omega, fun j hj => L.wide (k.ev j hj) hB hT⟩⟩
structure LH {α : Type} [Inhabited α] (base : Nat) (t : TypeId) (E : World → Nat → Nat → α → Hdr → Prop) (w : World) (v : Value) (hs : List Hdr) (ts : List α) : Prop where
  own : w.ownsRow base t 1 v hs.length (hs.map Hdr.val)
  tl : ts.length = hs.length
  ev : ∀ j, j < hs.length → ∃ B T, base ≤ B ∧ T ≤ w.heap.size ∧ E w B T (gt ts j) (gh hs j) ∧ ∀ r, v.ownBlock = some r → r < B ∨ T ≤ r
section
variable {α : Type} [Inhabited α] {base : Nat} {t : TypeId} {E : World → Nat → Nat → α → Hdr → Prop}
theorem LH.nil (base : Nat) (t : TypeId) (E : World → Nat → Nat → α → Hdr → Prop) (w : World) : LH base t E w (.slice none 0 0) [] [] := ⟨World.ownsRow_nil _ _ _ _, rfl, fun j hj => by simp at hj⟩
theorem LH.app (L : LastsH E) {wr w1 w3 : World} {v : Value} {hs : List Hdr} {ts : List α} {z : α} {h : Hdr} {o : Obj} {g cap k B T : Nat} (hk : hs.length = k) (H : LH base t E wr v hs ts) (hb1 : Below wr.heap.size wr w1) (hE : E w1 B T z h) (hB : wr.heap.size ≤ B) (hT : T ≤ w1.heap.size) (hbase : base ≤ wr.heap.size)
    (hown : w3.ownsRow base t 1 (.slice (some ⟨g, 0, none⟩) (k + 1) cap) (k + 1) (hs.map Hdr.val ++ [h.val])) (hgrow : (w1.alloc o).grownBy w3 v.ownBlock) (hat : v.ownBlock = some g ∨ g = (w1.alloc o).heap.size) :
    LH base t E w3 (.slice (some ⟨g, 0, none⟩) (k + 1) cap) (hs ++ [h]) (ts ++ [z]) := by
  subst hk
  have hal : Below w1.heap.size w1 (w1.alloc o) := (Below.refl _ _).alloc (Nat.le_refl _) o
  have hs1 := hb1.size
  have hs2 := hal.size
  have hs3 := hgrow.size
  have ob : ∀ r, (Value.slice (some ⟨g, 0, none⟩) (hs.length + 1) cap).ownBlock = some r → r = g := fun r hr => (Option.some.inj hr).symm
  refine ⟨by rw [List.length_append, List.map_append]; exact hown, by simp [H.tl], fun j hj => ?_⟩
  rcases Nat.lt_or_ge j hs.length with hlt | hge
  · rw [gh_append_left _ _ _ hlt, gt_append_left _ _ _ (by rw [H.tl]; exact hlt)]
    obtain ⟨B', T', h1, h2, h3, h4⟩ := H.ev j hlt
    have h5 := L.below (L.below h3 h2 hb1) (Nat.le_trans h2 hs1) hal
    refine ⟨B', T', h1, by omega, L.grown h5 (by omega) hgrow h4, fun r hr => ?_⟩
    obtain rfl := ob r hr
    rcases hat with h6 | h6
    · exact h4 _ h6
    · right; omega
  · have : j = hs.length := by simp at hj; omega
    subst this
    have e1 : gt (ts ++ [z]) hs.length = z := by rw [← H.tl]; exact gt_snoc ts z
    rw [gh_snoc, e1]
    have old : ∀ r, v.ownBlock = some r → r < B ∨ T ≤ r := fun r hr => by
      have := (H.own.lt r hr).2
      left; omega
    refine ⟨B, T, by omega, by omega, L.grown (L.below hE hT hal) (by omega) hgrow old, fun r hr => ?_⟩
    obtain rfl := ob r hr
    rcases hat with h6 | h6
    · exact old _ h6
    · right; omega
theorem owns1_form {w : World} {B n : Nat} {t : TypeId} {v : Value} {xs : List Value} (h : w.ownsRow B t 1 v n xs) : ∃ q cap, v = .slice q n cap ∧ n ≤ cap ∧ cap ≤ maxLen ∧ (q = none → cap = 0) ∧ ∀ a, q = some a → B ≤ a.block ∧ a.block < w.heap.size := by
  rcases h.2 with ⟨h1, h2⟩ | ⟨g, cap, cur, h1, h2, h3, h4, h5, _⟩
  · exact ⟨none, 0, by rw [h1, h2], by omega, Nat.zero_le _, fun _ => rfl, nofun⟩
  · exact ⟨_, cap, h1, h4, h5, nofun, fun a ha => by
      have h6 := h.lt g (by rw [h1]; rfl)
      cases ha
      exact ⟨h2, h6.2⟩⟩
theorem owns1_hl {w : World} {B cap : Nat} {t : TypeId} {q : Option Addr} {hs : List Hdr} (h : w.ownsRow B t 1 (.slice q hs.length cap) hs.length (hs.map Hdr.val)) : HL w q hs := fun hx => by
  obtain ⟨g, cap', h1, h2, _⟩ := h.form hx
  cases h1
  refine ⟨g, 0, rfl, fun j hj => ?_⟩
  have e0 := h.cells (g := g) rfl j (gh hs j).val (by simp [gh, hj])
  rw [Addr.add_mid] at e0
  exact e0
theorem LH.row (L : LastsH E) {w : World} {v : Value} {hs : List Hdr} {ts : List α} {D : Nat} (h : LH base t E w v hs ts) (hD : hs.length ≤ D) : ∃ q cap, v = .slice q hs.length cap ∧ HRow D E w base w.heap.size ts ⟨q, hs.length, cap⟩ hs := by
  obtain ⟨q, cap, h1, h2, h3, h4, h5⟩ := owns1_form h.own
  have ho := h.own
  rw [h1] at ho
  exact ⟨q, cap, h1, rfl, h.tl, h2, h3, h4, hD, owns1_hl ho, fun a ha _ => h5 a ha, fun j hj => by
    obtain ⟨B, T, k1, k2, k3, _⟩ := h.ev j hj
    exact L.wide k3 k1 k2⟩
end
def EZ (K D : Nat) (w : World) (B T : Nat) (zs : List Int) (h : Hdr) : Prop :=
  ∃ fs, PA w K h.p h.n h.c fs zs ∧ h.n ≤ D ∧ (∀ a, h.p = some a → 0 < h.n → B ≤ a.block ∧ a.block < T) ∧ ∀ j, j < h.n → 0 < (ge fs j).n → ∀ a, (ge fs j).p = some a → B ≤ a.block ∧ a.block < T
theorem lasts_EZ (K D : Nat) : LastsH (EZ K D) := ⟨fun {w w' B T z h row} he hT hg hr => by
    obtain ⟨fs, k, h1, h2, h3⟩ := he
    refine ⟨fs, ⟨k.el, k.zl, k.cap, k.bnd, k.pn, fun hx => (k.pl.same fun a ha hlt => hg.block a.block hlt fun e => ?_) hx, fun j hj => (lasts_EV K).grown (k.ev j hj) hg fun hn a ha e => ?_⟩, h1, h2, h3⟩
    · have h4 := h2 a ha (by rw [← k.el]; exact hx)
      have h5 := hr a.block e.symm
      omega
    · have h4 := h3 j hj hn a ha
      have h5 := hr a.block e.symm
      omega, fun {w B T B' T' z h} he hB hT => by
    obtain ⟨fs, k, h1, h2, h3⟩ := he
    exact ⟨fs, k, h1, fun a ha hn => by have := h2 a ha hn; omega, fun j hj hn a ha => by have := h3 j hj hn a ha; omega⟩⟩
end Go.Proofs.YtejnhpjejcpekaaGreatDoor
