/-
  ashlarlaw3.Cut.
-/
import Derived.Test.YtifebbacnlhggaaGreatDoorVaVgRo
import Derived.Test.YtifebbacnlhggaaGreatDoorCuOaOfJpRzCw
import Derived.Test.YtifebbacnlhggaaGreatDoorWhPnWkWlBxBbCvNjUbUcUdOw
import Derived.Test.YtifebbacnlhggaaGreatDoorVbDaCxRbCyViVuWxUpUqRm
import Derived.Test.YtifebbacnlhggaaGreatDoorUfUgHdNbFvOi
import Derived.Test.YtifebbacnlhggaaGreatDoorQcQdQgQhGfGgUnWfUuByDqUxUtUvUwUyUzUrUsHaHbHcWvUhHeVv
import Derived.Deep.Slices
import Derived.Deep.DeepFit
namespace Go.Proofs.YtifebbacnlhggaaGreatDoor
open Go.RowKit
set_option linter.unusedVariables false
set_option linter.unusedSimpArgs false

theorem info_apiI : (Tryz.prog.info? 24).map (fun i => (i.zero, i.size, i.bytes)) = some (some (.agg #[.bool false, .slice none 0 0]), 2, 32) := by kernel_rfl
/-- What Cut of a polynomial answers. -/
def CutP (n E L : Nat) (w : World) (e : Ending) (w' : World) : Prop :=
  ∃ q m mc fs zs, e = .returned (.slice q m mc) ∧ PA w' L q m mc fs zs ∧ m = min n E ∧ Go.Proofs.YtifebbacnlhggaaGreatDoor.From w.heap.size q ∧ (∀ j, j < m → 0 < (ge fs j).n → Go.Proofs.YtifebbacnlhggaaGreatDoor.From w.heap.size (ge fs j).p) ∧ Below w.heap.size w w'
theorem ai_take {w : World} {p : Option Addr} {n nc : Nat} {xs : List Int} (h : AI w p n nc xs) (m : Nat) (hm : m ≤ n) : AI w p m nc (xs.take m) :=
  ⟨by have := h.len; simp; omega, by have := h.cap; omega, h.bnd, by have := h.sml; omega, h.rd.take m, u32_take h.u m⟩
set_option maxHeartbeats 4000000 in
set_option maxRecDepth 100000 in
/-- ashlarlaw3.Cut. -/
theorem Cut3_any {w : World} {p : Option Addr} {n nc : Nat} {es0 : List Ent} (h : PZ w p n nc es0) (E L : Nat) (hE : E ≤ 1000) (hL : L ≤ 24) :
    Calls Tryz.prog 11 #[.slice p n nc, .int .i64 E, .int .i64 L] w (CutP n E L w) := by
  obtain ⟨i0, hi, hzz⟩ := Option.map_eq_some_iff.1 info_apiI
  simp only [Prod.mk.injEq] at hzz
  obtain ⟨hz0, hz1, hz2⟩ := hzz
  have HI : Hid (Tryz.prog.info? 24 = some i0 ∧ i0.zero = some (.agg #[.bool false, .slice none 0 0]) ∧ i0.size = 2 ∧ i0.bytes = 32) := ⟨hi, hz0, hz1, hz2⟩
  have HX : Hid (PZ w p n nc es0) := h
  have hnm : n ≤ 9223372036854775807 := by have h1 := h.cap; have h2 := h.bnd; unfold maxLen at h2; omega
  clear h hi hz0 hz1 hz2
  go_enter Tryz.func11, Tryz.ntmps11
  go_wp2_with fail
  go_loopw [7, 8, 9] (fun qv iv av wr => ∃ (k : Nat) (es : List Ent) (zs : List Int), k ≤ min n E ∧ iv = .int .i64 k ∧ Hid (es.length = k ∧ LG w.heap.size 24 (fun w z e => EV w L z e) wr qv es zs ∧ (∀ j, j < k → 0 < (ge es j).n → Go.Proofs.YtifebbacnlhggaaGreatDoor.From w.heap.size (ge es j).p) ∧ Below w.heap.size w wr)) (fun _ iv _ _ => min n E - (intOf iv).toNat)
  case atStart => exact ⟨0, [], [], Nat.zero_le _, by go_num, rfl, LG.nil _ _ _ _, fun j hj => absurd hj (by omega), Below.refl _ _⟩
  case round =>
    obtain ⟨k, es, zs, hk, rfl, H⟩ := hrel
    rcases Nat.lt_or_ge k (min n E) with hlt | hge
    · obtain ⟨hel, hLR, hfr, hB⟩ := H.out
      have hPA := HX.out.below hB
      obtain ⟨b, o, hp, hc⟩ := hPA.pl (by rw [hPA.el]; omega)
      subst hp
      obtain ⟨c0, c1⟩ := hc k (by rw [hPA.el]; omega)
      obtain ⟨xs, r1, r2, r3, r4, r5, r6⟩ := hPA.ev k (by omega)
      have i1 : (k : Int) < (n : Int) := by omega
      have i2 : (k : Int) < (E : Int) := by omega
      clear hel hLR hB hc hPA hfr
      go_wp2_with fail
      refine (Cut_any (ge es0 k).s (ge es0 k).p (ge es0 k).n (ge es0 k).c xs wr r1 r2 r3 r4 r5 r6).mono ?_
      rintro e w1 ⟨p1, n1, c1', rfl, hA1, hn1, hF1, hb1⟩
      generalize (ge es0 k).s = s1
      clear c0 c1 r1 r2 r3 r4 r5 r6
      have hcap1 := hA1.cap
      have hbnd1 := hA1.bnd
      unfold maxLen at hbnd1
      obtain ⟨hi, hz0, hz1, hz2⟩ := HI.out
      rcases Nat.lt_or_ge L n1 with hgt | hle
      · have j1 : (L : Int) < (n1 : Int) := by omega
        have j2 : (L : Int) ≤ (c1' : Int) := by omega
        have HA1 : Hid (AI w1 p1 L c1' ((xs.take 24).take L)) := ai_take hA1 L (by omega)
        clear hA1
        go_upto_region 8 with fail
        have hX2 : Bx (w1.alloc (.cells #[.bool s1, .slice p1 L c1'] 24)) w1.heap.size (.bool s1) (.slice p1 L c1') := Bx.new _ _ _ rfl
        have hal := bel_al (o := .cells #[.bool s1, .slice p1 L c1'] 24) (Below.refl w1.heap.size w1)
        have hb2 := bnext' hb1 hal
        have hA2 := HA1.out.below hal
        clear HA1 hal
        generalize w1.alloc (.cells #[.bool s1, .slice p1 L c1'] 24) = W2 at *
        obtain ⟨q0, q1, -, -⟩ := hX2
        have HE : Hid (EV W2 L (ival s1 ((xs.take 24).take L)) ⟨s1, p1, L, c1'⟩) := ⟨((xs.take 24).take L), hA2, rfl, by show L ≤ L; omega⟩
        have hown0 := own_below H.out.2.1.own hb2
        rw [H.out.1] at hown0
        have HO : Hid (W2.ownsRow w.heap.size 24 2 u7 k (fl es)) := hown0
        have hsz : w.heap.size ≤ W2.heap.size := Nat.le_trans H.out.2.2.2.size hb2.size
        have HF : Hid (Go.Proofs.YtifebbacnlhggaaGreatDoor.From wr.heap.size p1) := hF1
        clear hown0 hA2 hF1 hb1
        go_wp2_with (refine wpList_append_lies _ rfl _ _ 26 rfl w.heap.size 24 i0 (.agg #[.bool false, .slice none 0 0]) 2 32 Tryz.underlying26 hi hz0 hz1 hz2 rfl (by decide) u7 k (fl es) rfl (HO.out.alloc _) ⟨W2.heap.size, 0, none⟩ 1 1 [.bool s1, .slice p1 L c1'] rfl rfl ?_ (fun x hx => by simp at hx; rcases hx with rfl | rfl <;> rfl) (by decide) (by unfold maxLen; omega) (by omega) (by simp; omega) _ rfl ?_; exact World.news_of_block (heap_alloc_new W2 _); intro g cap w3 hown3 hgrow3 hat3 hlt3; have hB3 : Below w.heap.size w w3 := ((bnext' H.out.2.2.2 hb2).alloc hsz _).grown hgrow3 (by simp; omega) (fun q hq => (HO.out.lt q hq).1); have HA : Hid (LG w.heap.size 24 (fun w z e => EV w L z e) w3 (.slice (some ⟨g, 0, none⟩) (k + 1) cap) (es ++ [⟨s1, p1, L, c1'⟩]) (zs ++ [ival s1 ((xs.take 24).take L)])) := lg_app (lasts_EV _) H.out.1 H.out.2.1 hb2 HE.out HF.out hown3 hgrow3 hat3; clear hown3 hgrow3 hat3)
        refine ⟨⟨k + 1, es ++ [⟨s1, p1, L, c1'⟩], zs ++ [ival s1 ((xs.take 24).take L)], by omega, by go_num, by have := H.out.1; simp; omega, HA.out, fun j hj h0 => ?_, hB3⟩, by simp [intOf]; omega⟩
        have hel := H.out.1
        rcases Nat.lt_or_ge j k with h | h
        · rw [ge_append_left _ _ _ (by omega)] at h0 ⊢
          exact H.out.2.2.1 j h h0
        · obtain rfl : j = es.length := by omega
          rw [ge_snoc]
          exact fun a ha => Nat.le_trans H.out.2.2.2.size (HF.out a ha)
      · have j1 : ¬ (L : Int) < (n1 : Int) := by omega
        have HA1 : Hid (AI w1 p1 n1 c1' (xs.take 24)) := hA1
        clear hA1
        go_upto_region 8 with fail
        have hX2 : Bx (w1.alloc (.cells #[.bool s1, .slice p1 n1 c1'] 24)) w1.heap.size (.bool s1) (.slice p1 n1 c1') := Bx.new _ _ _ rfl
        have hal := bel_al (o := .cells #[.bool s1, .slice p1 n1 c1'] 24) (Below.refl w1.heap.size w1)
        have hb2 := bnext' hb1 hal
        have hA2 := HA1.out.below hal
        clear HA1 hal
        generalize w1.alloc (.cells #[.bool s1, .slice p1 n1 c1'] 24) = W2 at *
        obtain ⟨q0, q1, -, -⟩ := hX2
        have HE : Hid (EV W2 L (ival s1 (xs.take 24)) ⟨s1, p1, n1, c1'⟩) := ⟨(xs.take 24), hA2, rfl, by show n1 ≤ L; omega⟩
        have hown0 := own_below H.out.2.1.own hb2
        rw [H.out.1] at hown0
        have HO : Hid (W2.ownsRow w.heap.size 24 2 u7 k (fl es)) := hown0
        have hsz : w.heap.size ≤ W2.heap.size := Nat.le_trans H.out.2.2.2.size hb2.size
        have HF : Hid (Go.Proofs.YtifebbacnlhggaaGreatDoor.From wr.heap.size p1) := hF1
        clear hown0 hA2 hF1 hb1
        go_wp2_with (refine wpList_append_lies _ rfl _ _ 26 rfl w.heap.size 24 i0 (.agg #[.bool false, .slice none 0 0]) 2 32 Tryz.underlying26 hi hz0 hz1 hz2 rfl (by decide) u7 k (fl es) rfl (HO.out.alloc _) ⟨W2.heap.size, 0, none⟩ 1 1 [.bool s1, .slice p1 n1 c1'] rfl rfl ?_ (fun x hx => by simp at hx; rcases hx with rfl | rfl <;> rfl) (by decide) (by unfold maxLen; omega) (by omega) (by simp; omega) _ rfl ?_; exact World.news_of_block (heap_alloc_new W2 _); intro g cap w3 hown3 hgrow3 hat3 hlt3; have hB3 : Below w.heap.size w w3 := ((bnext' H.out.2.2.2 hb2).alloc hsz _).grown hgrow3 (by simp; omega) (fun q hq => (HO.out.lt q hq).1); have HA : Hid (LG w.heap.size 24 (fun w z e => EV w L z e) w3 (.slice (some ⟨g, 0, none⟩) (k + 1) cap) (es ++ [⟨s1, p1, n1, c1'⟩]) (zs ++ [ival s1 (xs.take 24)])) := lg_app (lasts_EV _) H.out.1 H.out.2.1 hb2 HE.out HF.out hown3 hgrow3 hat3; clear hown3 hgrow3 hat3)
        refine ⟨⟨k + 1, es ++ [⟨s1, p1, n1, c1'⟩], zs ++ [ival s1 (xs.take 24)], by omega, by go_num, by have := H.out.1; simp; omega, HA.out, fun j hj h0 => ?_, hB3⟩, by simp [intOf]; omega⟩
        have hel := H.out.1
        rcases Nat.lt_or_ge j k with h | h
        · rw [ge_append_left _ _ _ (by omega)] at h0 ⊢
          exact H.out.2.2.1 j h h0
        · obtain rfl : j = es.length := by omega
          rw [ge_snoc]
          exact fun a ha => Nat.le_trans H.out.2.2.2.size (HF.out a ha)
    · obtain rfl : k = min n E := by omega
      obtain ⟨hel, hLR, hfr, hB⟩ := H.out
      have hzl := hLR.zl
      obtain ⟨q, cap, hv, hc1, hc2, hPL, hF, hpn⟩ := hLR.pl
      have hev := hLR.ev
      subst hv
      rw [hel] at hev hc1 hzl ⊢
      have HR : Hid (CutP n E L w (.returned (.slice q (min n E : Nat) cap)) wr) := ⟨q, _, cap, es, zs, rfl, ⟨hel, hzl, hc1, hc2, hpn, hPL, hev⟩, rfl, hF, hfr, hB⟩
      have hcs : Hid (¬ (min n E : Nat) < n ∨ ((min n E : Nat) < n ∧ ¬ (min n E : Nat) < E)) := by show _ ∨ _; omega
      generalize min n E = m at *
      clear H hLR hev hPL hF hfr hB hge
      rcases hcs.out with h1 | ⟨h1, h2⟩
      · have i1 : ¬ (m : Int) < (n : Int) := by omega
        clear h1
        go_wp2
        go_ret
        exact HR.out
      · have i1 : (m : Int) < (n : Int) := by omega
        have i2 : ¬ (m : Int) < (E : Int) := by omega
        clear h1 h2
        go_wp2
        go_ret
        exact HR.out
end Go.Proofs.YtifebbacnlhggaaGreatDoor
/-
  ashlarlaw3.few.
-/
namespace Go.Proofs.YtifebbacnlhggaaGreatDoor
open Go.RowKit
set_option linter.unusedVariables false
set_option linter.unusedSimpArgs false

end Go.Proofs.YtifebbacnlhggaaGreatDoor
/-
  What the walks of ashlarlaw3 share: a literal as an argument, From and Is for entries.
-/
namespace Go.Proofs.YtifebbacnlhggaaGreatDoor
open Go.RowKit
set_option linter.unusedVariables false
set_option linter.unusedSimpArgs false

theorem pz_lit {W : World} {g : Nat} {e : Ent} (h0 : W.cell? ⟨g, 0, none⟩ = some (.bool e.s)) (h1 : W.cell? ⟨g, 1, none⟩ = some (.slice e.p e.n e.c)) (hr : RawE W e) : PZ W (some ⟨g, 0, none⟩) 1 1 [e] :=
  ⟨rfl, Nat.le_refl _, by decide, nofun, fun _ => ⟨g, 0, rfl, fun j hj => by
    obtain rfl : j = 0 := by simp at hj; omega
    exact ⟨h0, h1⟩⟩, fun j hj => by
    obtain rfl : j = 0 := by omega
    exact hr⟩
theorem cells_lit (w : World) (x y : Value) (t : Nat) : (w.alloc (.cells #[x, y] t)).cell? ⟨w.heap.size, 0, none⟩ = some x ∧ (w.alloc (.cells #[x, y] t)).cell? ⟨w.heap.size, 1, none⟩ = some y := ⟨by simp [go_sem], by simp [go_sem]⟩
theorem rFrom_e {w : World} {K : Nat} {z : Int} {e : Ent} (h : EV w K z e) :
    Calls Tryz.prog 10 #[.agg #[.bool e.s, .slice e.p e.n e.c]] w fun r w' => ∃ u : Ent, r = .returned (.agg #[.bool u.s, .slice u.p u.n u.c]) ∧ RE w' (2 * K) z u ∧ Go.Proofs.YtifebbacnlhggaaGreatDoor.From w.heap.size u.p ∧ Below w.heap.size w w' := by
  obtain ⟨xs, h1, h2, h3⟩ := h
  refine (From_ansF e.s e.p e.n e.c xs w h1).mono ?_
  rintro r w1 ⟨s, p, n, d, rfl, h4, h5, h6, h7, h8⟩
  exact ⟨⟨s, p, n, n⟩, rfl, ⟨⟨d, h4, by rw [h5, h2], by show n ≤ _; omega⟩, rfl⟩, h7, h8⟩
end Go.Proofs.YtifebbacnlhggaaGreatDoor
/-
  What PolyTerms' walk stands on: the powers that are there, and the marks of two ranges.
-/
namespace Go.Proofs.YtifebbacnlhggaaGreatDoor
open Go.RowKit Go.Shelf
set_option linter.unusedVariables false
set_option linter.unusedSimpArgs false

theorem idx_mem (zs : List Int) (k i : Nat) : i ∈ idx zs k ↔ i < k ∧ ¬ gx zs i = 0 := by simp [idx]
/-- Where the count stands: at the beginning, or behind a power that is there. -/
def Behind (zs : List Int) (j : Nat) : Prop := j = 0 ∨ ∃ i, j = i + 1 ∧ ¬ gx zs i = 0
theorem Behind.le {zs : List Int} {j m : Nat} (h : Behind zs j) (e : idx zs j = idx zs m) : j ≤ m := by
  rcases h with rfl | ⟨i, rfl, hi⟩
  · exact Nat.zero_le _
  · have : i ∈ idx zs (i + 1) := (idx_mem ..).2 ⟨by omega, hi⟩
    rw [e, idx_mem] at this
    omega

/-- The marks of ranges that are over: blocks from B on, below U. -/
def Marks (B U : Nat) (W : World) : List Deferred → Prop
  | [] => True
  | d :: ds => (∃ D, d = { target := .collected D, args := #[] } ∧ B ≤ D ∧ D < U ∧ W.heap[D]? = some (.deferred (some [])) ∧ ∀ e ∈ ds, e.target ≠ .collected D) ∧ Marks B U W ds
theorem Marks.keep {B U : Nat} {W W' : World} (hk : ∀ D, D < U → W.heap[D]? = some (.deferred (some [])) → W'.heap[D]? = some (.deferred (some []))) : ∀ {ds : List Deferred}, Marks B U W ds → Marks B U W' ds
  | [], _ => trivial
  | _ :: _, ⟨⟨D, e, h1, h2, h3, h4⟩, h⟩ => ⟨⟨D, e, h1, h2, hk D h2 h3, h4⟩, Marks.keep hk h⟩
theorem Marks.up {B U U' : Nat} {W : World} (hU : U ≤ U') : ∀ {ds : List Deferred}, Marks B U W ds → Marks B U' W ds
  | [], _ => trivial
  | _ :: _, ⟨⟨D, e, h1, h2, h3, h4⟩, h⟩ => ⟨⟨D, e, h1, by omega, h3, h4⟩, Marks.up hU h⟩
theorem Marks.others {B U : Nat} {W W' : World} {ds : List Deferred} (h : Marks B U W ds) (hk : KeepsOthers W W') : Marks B U W' ds := h.keep fun D _ hD => hk.same D _ hD rfl
theorem Marks.grown {B U : Nat} {W W' : World} {ds : List Deferred} {row : Option Nat} (h : Marks B U W ds) (hg : W.grownBy W' row) (hr : ∀ r, row = some r → U ≤ r) : Marks B U W' ds := h.keep fun D hD hd => by
  refine (hg.block D (Array.getElem?_eq_some_iff.1 hd).1 ?_).trans hd
  intro e
  have := hr D e.symm
  omega
theorem Marks.lt {B U : Nat} {W : World} : ∀ {ds : List Deferred}, Marks B U W ds → ∀ e ∈ ds, ∃ D, e.target = .collected D ∧ D < U
  | _ :: _, ⟨⟨D, e, _, h2, _⟩, h⟩, x, hx => by
    rcases List.mem_cons.1 hx with rfl | hx
    · exact ⟨D, by rw [e], h2⟩
    · exact Marks.lt h x hx
theorem Marks.next {B U D : Nat} {W : World} {ds : List Deferred} (h : Marks B U W ds) (hB : B ≤ D) (hU : U ≤ D) (hd : W.heap[D]? = some (.deferred (some []))) : Marks B W.heap.size W ({ target := .collected D, args := #[] } :: ds) :=
  ⟨⟨D, rfl, hB, (Array.getElem?_eq_some_iff.1 hd).1, hd, fun e he h' => by obtain ⟨D', h1, h2⟩ := h.lt e he; rw [h1] at h'; cases h'; omega⟩, h.up (by have := (Array.getElem?_eq_some_iff.1 hd).1; omega)⟩
end Go.Proofs.YtifebbacnlhggaaGreatDoor
/-
  Rows of slices that grow by append, whatever the slices hold.
-/
namespace Go.Proofs.YtifebbacnlhggaaGreatDoor
open Go.RowKit
set_option linter.unusedVariables false
set_option linter.unusedSimpArgs false

/-- A slice's three words. -/
structure Hdr where
  p : Option Addr
  n : Nat
  c : Nat
instance : Inhabited Hdr := ⟨⟨none, 0, 0⟩⟩
def Hdr.val (h : Hdr) : Value := .slice h.p h.n h.c
def hdrOf : Value → Hdr
  | .slice p n c => ⟨p, n, c⟩
  | _ => default
def gh (hs : List Hdr) (j : Nat) : Hdr := hs.getD j default
/-- A row of slices, cell by cell. -/
def HL (w : World) (p : Option Addr) (hs : List Hdr) : Prop := 0 < hs.length → ∃ b o, p = some ⟨b, o, none⟩ ∧ ∀ j, j < hs.length → w.cell? ⟨b, o + j, none⟩ = some (gh hs j).val
theorem HL.below {w w' : World} {p : Option Addr} {hs : List Hdr} (h : HL w p hs) (hb : Below w.heap.size w w') : HL w' p hs := fun hp => by
  obtain ⟨b, o, e, hc⟩ := h hp
  refine ⟨b, o, e, fun j hj => ?_⟩
  have h1 := hc j hj
  rw [hb.cell (by
    rcases Nat.lt_or_ge b w.heap.size with h2 | h2
    · exact h2
    · simp [World.cell?, Array.getElem?_eq_none h2] at h1)]
  exact h1
theorem gh_append_left (a b : List Hdr) (i : Nat) (h : i < a.length) : gh (a ++ b) i = gh a i := by simp [gh, List.getElem?_append, h]
theorem gh_snoc (a : List Hdr) (e : Hdr) : gh (a ++ [e]) a.length = e := by simp [gh]
def gt {α : Type} [Inhabited α] (ts : List α) (j : Nat) : α := ts.getD j default
theorem gt_append_left {α : Type} [Inhabited α] (a b : List α) (i : Nat) (h : i < a.length) : gt (a ++ b) i = gt a i := by simp [gt, List.getElem?_append, h]
theorem gt_snoc {α : Type} [Inhabited α] (a : List α) (e : α) : gt (a ++ [e]) a.length = e := by simp [gt]
/-- What is said of an element, whose memory lies from B to T, lasts while that memory does. -/
structure LastsH {α : Type} (E : World → Nat → Nat → α → Hdr → Prop) : Prop where
  grown : ∀ {w w' : World} {B T : Nat} {z : α} {h : Hdr} {row : Option Nat}, E w B T z h → T ≤ w.heap.size → w.grownBy w' row → (∀ r, row = some r → r < B ∨ T ≤ r) → E w' B T z h
  wide : ∀ {w : World} {B T B' T' : Nat} {z : α} {h : Hdr}, E w B T z h → B' ≤ B → T ≤ T' → E w B' T' z h
theorem LastsH.below {α : Type} {E : World → Nat → Nat → α → Hdr → Prop} (L : LastsH E) {w w' : World} {B T : Nat} {z : α} {h : Hdr} (he : E w B T z h) (hT : T ≤ w.heap.size) (hb : Below w.heap.size w w') : E w' B T z h :=
  L.grown he hT (grownBy_below hb none) nofun
/-- A row of slices that is handed on. -/
structure HRow {α : Type} [Inhabited α] (D : Nat) (E : World → Nat → Nat → α → Hdr → Prop) (w : World) (B T : Nat) (ts : List α) (h : Hdr) (hs : List Hdr) : Prop where
  el : hs.length = h.n
  tl : ts.length = h.n
  cap : h.n ≤ h.c
  bnd : h.c ≤ maxLen
  pn : h.p = none → h.c = 0
  few : h.n ≤ D
  hl : HL w h.p hs
  at_ : ∀ a, h.p = some a → 0 < h.n → B ≤ a.block ∧ a.block < T
  ev : ∀ j, j < h.n → E w B T (gt ts j) (gh hs j)
def HR {α : Type} [Inhabited α] (D : Nat) (E : World → Nat → Nat → α → Hdr → Prop) (w : World) (B T : Nat) (ts : List α) (h : Hdr) : Prop := ∃ hs, HRow D E w B T ts h hs
theorem HL.same {w w' : World} {p : Option Addr} {hs : List Hdr} (h : HL w p hs) (hk : ∀ a, p = some a → 0 < hs.length → a.block < w.heap.size → w'.heap[a.block]? = w.heap[a.block]?) : HL w' p hs := fun hp => by
  obtain ⟨b, o, e, hc⟩ := h hp
  have hlt : b < w.heap.size := block_lt_of_cell (hc 0 hp)
  exact ⟨b, o, e, fun j hj => (World.cell?_of_block (a := ⟨b, o + j, none⟩) (hk ⟨b, o, none⟩ e hp hlt)).trans (hc j hj)⟩
theorem lasts_HR {α : Type} [Inhabited α] {D : Nat} {E : World → Nat → Nat → α → Hdr → Prop} (L : LastsH E) : LastsH (HR D E) := ⟨fun {w w' B T z h row} he hT hg hr => by
    obtain ⟨hs, k⟩ := he
    refine ⟨hs, k.el, k.tl, k.cap, k.bnd, k.pn, k.few, k.hl.same fun a ha hn hlt => hg.block a.block hlt fun e => ?_, k.at_, fun j hj => L.grown (k.ev j hj) hT hg hr⟩
    have h1 := k.at_ a ha (by rw [← k.el]; exact hn)
    have h2 := hr a.block e.symm
    omega, fun {w B T B' T' z h} he hB hT => by
    obtain ⟨hs, k⟩ := he
    exact ⟨hs, k.el, k.tl, k.cap, k.bnd, k.pn, k.few, k.hl, fun a ha hn => by have := k.at_ a ha hn; omega, fun j hj => L.wide (k.ev j hj) hB hT⟩⟩
/-- A row of slices that grows. -/
structure LH {α : Type} [Inhabited α] (base : Nat) (t : TypeId) (E : World → Nat → Nat → α → Hdr → Prop) (w : World) (v : Value) (hs : List Hdr) (ts : List α) : Prop where
  own : w.ownsRow base t 1 v hs.length (hs.map Hdr.val)
  tl : ts.length = hs.length
  ev : ∀ j, j < hs.length → ∃ B T, base ≤ B ∧ T ≤ w.heap.size ∧ E w B T (gt ts j) (gh hs j) ∧ ∀ r, v.ownBlock = some r → r < B ∨ T ≤ r
section
variable {α : Type} [Inhabited α] {base : Nat} {t : TypeId} {E : World → Nat → Nat → α → Hdr → Prop}
theorem LH.nil (base : Nat) (t : TypeId) (E : World → Nat → Nat → α → Hdr → Prop) (w : World) : LH base t E w (.slice none 0 0) [] [] := ⟨World.ownsRow_nil _ _ _ _, rfl, fun j hj => by simp at hj⟩
theorem LH.below (L : LastsH E) {w w' : World} {v : Value} {hs : List Hdr} {ts : List α} (h : LH base t E w v hs ts) (hb : Below w.heap.size w w') : LH base t E w' v hs ts :=
  ⟨own_below h.own hb, h.tl, fun j hj => by
    obtain ⟨B, T, h1, h2, h3, h4⟩ := h.ev j hj
    exact ⟨B, T, h1, Nat.le_trans h2 hb.size, L.below h3 h2 hb, h4⟩⟩
theorem LH.app (L : LastsH E) {wr w1 w3 : World} {v : Value} {hs : List Hdr} {ts : List α} {z : α} {h : Hdr} {o : Obj} {g cap k B T : Nat} (hk : hs.length = k) (H : LH base t E wr v hs ts) (hb1 : Below wr.heap.size wr w1) (hE : E w1 B T z h) (hB : wr.heap.size ≤ B) (hT : T ≤ w1.heap.size) (hbase : base ≤ wr.heap.size)
    (hown : w3.ownsRow base t 1 (.slice (some ⟨g, 0, none⟩) (k + 1) cap) (k + 1) (hs.map Hdr.val ++ [h.val])) (hgrow : (w1.alloc o).grownBy w3 v.ownBlock) (hat : v.ownBlock = some g ∨ g = (w1.alloc o).heap.size) :
    LH base t E w3 (.slice (some ⟨g, 0, none⟩) (k + 1) cap) (hs ++ [h]) (ts ++ [z]) := by
  subst hk
  have hal : Below w1.heap.size w1 (w1.alloc o) := (Below.refl _ _).alloc (Nat.le_refl _) o
  have hs1 := hb1.size
  have hs2 := hal.size
  have hs3 := hgrow.size
  have ob : ∀ r, (Value.slice (some ⟨g, 0, none⟩) (hs.length + 1) cap).ownBlock = some r → r = g := fun r hr => (Option.some.inj hr).symm
  refine ⟨by rw [List.length_append, List.map_append]; exact hown, by simp [H.tl], fun j hj => ?_⟩
  rcases Nat.lt_or_ge j hs.length with hlt | hge
  · rw [gh_append_left _ _ _ hlt, gt_append_left _ _ _ (by rw [H.tl]; exact hlt)]
    obtain ⟨B', T', h1, h2, h3, h4⟩ := H.ev j hlt
    have h5 := L.below (L.below h3 h2 hb1) (Nat.le_trans h2 hs1) hal
    refine ⟨B', T', h1, by omega, L.grown h5 (by omega) hgrow h4, fun r hr => ?_⟩
    obtain rfl := ob r hr
    rcases hat with h6 | h6
    · exact h4 _ h6
    · right; omega
  · have : j = hs.length := by simp at hj; omega
    subst this
    have e1 : gt (ts ++ [z]) hs.length = z := by rw [← H.tl]; exact gt_snoc ts z
    rw [gh_snoc, e1]
    have old : ∀ r, v.ownBlock = some r → r < B ∨ T ≤ r := fun r hr => by
      have := (H.own.lt r hr).2
      left; omega
    refine ⟨B, T, by omega, by omega, L.grown (L.below hE hT hal) (by omega) hgrow old, fun r hr => ?_⟩
    obtain rfl := ob r hr
    rcases hat with h6 | h6
    · exact old _ h6
    · right; omega
theorem owns1_form {w : World} {B n : Nat} {t : TypeId} {v : Value} {xs : List Value} (h : w.ownsRow B t 1 v n xs) : ∃ q cap, v = .slice q n cap ∧ n ≤ cap ∧ cap ≤ maxLen ∧ (q = none → cap = 0) ∧ ∀ a, q = some a → B ≤ a.block ∧ a.block < w.heap.size := by
  rcases h.2 with ⟨h1, h2⟩ | ⟨g, cap, cur, h1, h2, h3, h4, h5, _⟩
  · exact ⟨none, 0, by rw [h1, h2], by omega, Nat.zero_le _, fun _ => rfl, nofun⟩
  · exact ⟨_, cap, h1, h4, h5, nofun, fun a ha => by
      have h6 := h.lt g (by rw [h1]; rfl)
      cases ha
      exact ⟨h2, h6.2⟩⟩
theorem owns1_hl {w : World} {B cap : Nat} {t : TypeId} {q : Option Addr} {hs : List Hdr} (h : w.ownsRow B t 1 (.slice q hs.length cap) hs.length (hs.map Hdr.val)) : HL w q hs := fun hx => by
  obtain ⟨g, cap', h1, h2, _⟩ := h.form hx
  cases h1
  refine ⟨g, 0, rfl, fun j hj => ?_⟩
  have e0 := h.cells (g := g) rfl j (gh hs j).val (by simp [gh, hj])
  rw [Addr.add_mid] at e0
  exact e0
theorem LH.row (L : LastsH E) {w : World} {v : Value} {hs : List Hdr} {ts : List α} {D : Nat} (h : LH base t E w v hs ts) (hD : hs.length ≤ D) : ∃ q cap, v = .slice q hs.length cap ∧ HRow D E w base w.heap.size ts ⟨q, hs.length, cap⟩ hs := by
  obtain ⟨q, cap, h1, h2, h3, h4, h5⟩ := owns1_form h.own
  have ho := h.own
  rw [h1] at ho
  exact ⟨q, cap, h1, rfl, h.tl, h2, h3, h4, hD, owns1_hl ho, fun a ha _ => h5 a ha, fun j hj => by
    obtain ⟨B, T, k1, k2, k3, _⟩ := h.ev j hj
    exact L.wide k3 k1 k2⟩
end
/-- A polynomial among them. -/
def EZ (K D : Nat) (w : World) (B T : Nat) (zs : List Int) (h : Hdr) : Prop :=
  ∃ fs, PA w K h.p h.n h.c fs zs ∧ h.n ≤ D ∧ (∀ a, h.p = some a → 0 < h.n → B ≤ a.block ∧ a.block < T) ∧ ∀ j, j < h.n → 0 < (ge fs j).n → ∀ a, (ge fs j).p = some a → B ≤ a.block ∧ a.block < T
theorem lasts_EZ (K D : Nat) : LastsH (EZ K D) := ⟨fun {w w' B T z h row} he hT hg hr => by
    obtain ⟨fs, k, h1, h2, h3⟩ := he
    refine ⟨fs, ⟨k.el, k.zl, k.cap, k.bnd, k.pn, fun hx => (k.pl.same fun a ha hlt => hg.block a.block hlt fun e => ?_) hx, fun j hj => (lasts_EV K).grown (k.ev j hj) hg fun hn a ha e => ?_⟩, h1, h2, h3⟩
    · have h4 := h2 a ha (by rw [← k.el]; exact hx)
      have h5 := hr a.block e.symm
      omega
    · have h4 := h3 j hj hn a ha
      have h5 := hr a.block e.symm
      omega, fun {w B T B' T' z h} he hB hT => by
    obtain ⟨fs, k, h1, h2, h3⟩ := he
    exact ⟨fs, k, h1, fun a ha hn => by have := h2 a ha hn; omega, fun j hj hn a ha => by have := h3 j hj hn a ha; omega⟩⟩
end Go.Proofs.YtifebbacnlhggaaGreatDoor
/-
  A row of polynomials, read as data (out of Om).
-/
namespace Go.Proofs.YtifebbacnlhggaaGreatDoor
open Go.ChangeShapes Go.WideShapes Go.ChangeAt Go.RowKit Go.Joins
set_option linter.unusedVariables false
set_option linter.unusedSimpArgs false

/-- A row of polynomials as it may be handed in. -/
structure RZ (w : World) (p : Option Addr) (n nc : Nat) (hs : List Hdr) : Prop where
  el : hs.length = n
  cap : n ≤ nc
  bnd : nc ≤ maxLen
  pn : p = none → nc = 0
  hl : HL w p hs
  ev : ∀ j, j < n → ∃ es, PZ w (gh hs j).p (gh hs j).n (gh hs j).c es
theorem RZ.below {w w' : World} {p : Option Addr} {n nc : Nat} {hs : List Hdr} (h : RZ w p n nc hs) (hb : Below w.heap.size w w') : RZ w' p n nc hs :=
  ⟨h.el, h.cap, h.bnd, h.pn, h.hl.below hb, fun j hj => let ⟨es, he⟩ := h.ev j hj; ⟨es, he.below hb⟩⟩
set_option maxRecDepth 100000 in
theorem polyT {H : Type} {enc : TypeId × Value → H} {W : World} {fuel : Nat} {v : Value} {x : DataW H × List MemPlace} (hf : DataW.trod enc Tryz.prog W 0 (fun _ => true) true fuel 26 [v] = some x) :
    v = (hdrOf v).val ∧ ∃ es, PZ W (hdrOf v).p (hdrOf v).n (hdrOf v).c es := by
  rcases Go.Deep.open_slice_pairs Tryz.underlying26 Tryz.underlying24 cellsI2 rfl rfl cellsB cellsUs hf with ⟨hcs, -⟩ | ⟨a, len, cap, m, k, V0, V1, D0, D1, P0, P1, hcs, -, hl, hm, hmm, -, hcell⟩
  · simp only [List.cons.injEq, and_true] at hcs
    subst hcs
    exact ⟨rfl, [], rfl, Nat.le_refl _, Nat.zero_le _, fun _ => rfl, PL.nil, fun j hj => absurd hj (Nat.not_lt_zero j)⟩
  · simp only [List.cons.injEq, and_true] at hcs
    subst hcs
    simp only [if_true] at hmm
    have hr : ∀ i, i < len → V0 i = .bool (entOf (V0 i) (V1 i)).s ∧ V1 i = .slice (entOf (V0 i) (V1 i)).p (entOf (V0 i) (V1 i)).n (entOf (V0 i) (V1 i)).c ∧ RawE W (entOf (V0 i) (V1 i)) := fun i hi => by
      obtain ⟨-, -, g0, g1⟩ := hcell i (by omega)
      exact rawCells g0 g1
    have hge : ∀ i, i < len → ge ((List.range len).map fun i => entOf (V0 i) (V1 i)) i = entOf (V0 i) (V1 i) := fun i hi => by simp [ge, hi]
    refine ⟨rfl, (List.range len).map fun i => entOf (V0 i) (V1 i), by show _ = len; simp, hl, hm, nofun, ?_, fun j (hj : j < len) => by rw [hge j hj]; exact (hr j hj).2.2⟩
    intro hp
    have hp' : 0 < len := by simpa using hp
    obtain ⟨b, off, spot⟩ := a
    have hspot : spot = none := by simpa [Addr.add] using World.cell?_spot (hcell 0 (by omega)).1
    subst hspot
    refine ⟨b, off, rfl, fun j hj => ?_⟩
    have hj' : j < len := by simpa using hj
    obtain ⟨c0, c1, -, -⟩ := hcell j (by omega)
    obtain ⟨e0, e1, -⟩ := hr j hj'
    rw [hge j hj', ← e0, ← e1]
    rw [add_plain] at c0 c1
    exact ⟨c0, c1⟩
theorem cellsP : Tryz.prog.cellsOf 26 = 1 := by kernel_rfl
/-- A slice whose elements are slices. -/
theorem sliceT {H : Type} {enc : TypeId × Value → H} {W : World} {fuel : Nat} {t e : TypeId} {v : Value} {x : DataW H × List MemPlace} (ht : Tryz.prog.underlying t = some (.slice e)) (hc : Tryz.prog.cellsOf e = 1) (hf : DataW.trod enc Tryz.prog W 0 (fun _ => true) true fuel t [v] = some x)
    {E : Hdr → Prop} (hE : ∀ (fuel : Nat) (u : Value) (y : DataW H × List MemPlace), DataW.trod enc Tryz.prog W 0 (fun _ => true) true fuel e [u] = some y → u = (hdrOf u).val ∧ E (hdrOf u)) :
    v = (hdrOf v).val ∧ (hdrOf v).n ≤ (hdrOf v).c ∧ (hdrOf v).c ≤ maxLen ∧ ((hdrOf v).p = none → (hdrOf v).c = 0) ∧ ∃ hs : List Hdr, hs.length = (hdrOf v).n ∧ HL W (hdrOf v).p hs ∧ ∀ j, j < (hdrOf v).n → E (gh hs j) := by
  rcases Go.Deep.open_slice1 ht hc hf with ⟨hcs, -⟩ | ⟨a, len, cap, m, n, V, D, Pl, hcs, -, hl, hm, hmm, -, hcell⟩
  · simp only [List.cons.injEq, and_true] at hcs
    subst hcs
    exact ⟨rfl, Nat.le_refl _, Nat.zero_le _, fun _ => rfl, [], rfl, fun h => absurd h (Nat.not_lt_zero 0), fun j hj => absurd hj (Nat.not_lt_zero j)⟩
  · simp only [List.cons.injEq, and_true] at hcs
    subst hcs
    simp only [if_true] at hmm
    have hg : ∀ i, i < len → gh ((List.range len).map fun i => hdrOf (V i)) i = hdrOf (V i) := fun i hi => by simp [gh, hi]
    refine ⟨rfl, hl, hm, nofun, (List.range len).map fun i => hdrOf (V i), by show _ = len; simp, fun hp => ?_, fun j (hj : j < len) => by rw [hg j hj]; exact (hE _ _ _ (hcell j (by omega)).2).2⟩
    have hp' : 0 < len := by simpa using hp
    obtain ⟨b, off, spot⟩ := a
    have hspot : spot = none := by simpa [Addr.add] using World.cell?_spot (hcell 0 (by omega)).1
    subst hspot
    refine ⟨b, off, rfl, fun j hj => ?_⟩
    have hj' : j < len := by simpa using hj
    obtain ⟨c0, g0⟩ := hcell j (by omega)
    rw [hg j hj', ← (hE _ _ _ g0).1]
    rw [add_plain] at c0
    exact c0
end Go.Proofs.YtifebbacnlhggaaGreatDoor
/-
  ashlarlaw8.Cut, few.
-/
namespace Go.Proofs.YtifebbacnlhggaaGreatDoor
open Go.RowKit
set_option linter.unusedVariables false
set_option linter.unusedSimpArgs false

theorem info_op : (Tryz.prog.info? 26).map (fun i => (i.zero, i.size, i.bytes)) = some (some (.slice none 0 0), 1, 24) := by kernel_rfl
theorem ez_cut {n E L : Nat} {w w' : World} {q : Option Addr} {m mc : Nat} {fs : List Ent} {zs : List Int} (h : PA w' L q m mc fs zs) (hm : m = min n E) (h1 : Go.Proofs.YtifebbacnlhggaaGreatDoor.From w.heap.size q) (h2 : ∀ j, j < m → 0 < (ge fs j).n → Go.Proofs.YtifebbacnlhggaaGreatDoor.From w.heap.size (ge fs j).p) : EZ L E w' w.heap.size w'.heap.size zs ⟨q, m, mc⟩ := by
  refine ⟨fs, h, by show m ≤ E; omega, fun a ha hn => ⟨h1 a ha, ?_⟩, fun j hj hn a ha => ⟨h2 j hj hn a ha, (lasts_EV L).lt (h.ev j hj) hn a ha⟩⟩
  obtain ⟨b, o, hp, hlt⟩ := h.pl.lt (by rw [h.el]; exact hn)
  simp only at ha
  rw [hp] at ha
  cases ha
  exact hlt
/-- What Cut answers. -/
def CoP (n R E L : Nat) (w : World) (e : Ending) (w' : World) : Prop :=
  ∃ h zss, e = .returned (Hdr.val h) ∧ h.n = min n R ∧ HR R (EZ L E) w' w.heap.size w'.heap.size zss h ∧ Below w.heap.size w w'
set_option maxHeartbeats 4000000 in
set_option maxRecDepth 100000 in
/-- ashlarlaw8.Cut. -/
theorem Cut8_any {w : World} {p : Option Addr} {n nc : Nat} {hs0 : List Hdr} (h : RZ w p n nc hs0) (R E L : Nat) (hR : R ≤ 1000) (hE : E ≤ 1000) (hL : L ≤ 24) :
    Calls Tryz.prog 31 #[.slice p n nc, .int .i64 R, .int .i64 E, .int .i64 L] w (CoP n (R + 1) E L w) := by
  obtain ⟨i0, hi, hzz⟩ := Option.map_eq_some_iff.1 info_op
  simp only [Prod.mk.injEq] at hzz
  obtain ⟨hz0, hz1, hz2⟩ := hzz
  have HI : Hid (Tryz.prog.info? 26 = some i0 ∧ i0.zero = some (.slice none 0 0) ∧ i0.size = 1 ∧ i0.bytes = 24) := ⟨hi, hz0, hz1, hz2⟩
  clear hi hz0 hz1 hz2
  have HX : Hid (RZ w p n nc hs0) := h
  have hnm : n ≤ 9223372036854775807 := by have h1 := h.cap; have h2 := h.bnd; unfold maxLen at h2; omega
  clear h
  go_enter Tryz.func31, Tryz.ntmps31
  go_wp2_with fail
  go_loopw [9, 10] (fun rv jv wq => ∃ (j : Nat) (rs : List Hdr) (zss : List (List Int)), j ≤ min n (R + 1) ∧ jv = .int .i64 j ∧ Hid (rs.length = j ∧ LH w.heap.size 26 (EZ L E) wq rv rs zss ∧ Below w.heap.size w wq)) (fun _ jv _ => min n (R + 1) - (intOf jv).toNat)
  case atStart => exact ⟨0, [], [], Nat.zero_le _, by go_num, rfl, LH.nil _ _ _ _, Below.refl _ _⟩
  case round =>
    obtain ⟨j, rs, zss, hj, rfl, G⟩ := hrel
    rcases Nat.lt_or_ge j (min n (R + 1)) with hlt1 | hge1
    · obtain ⟨gel, gLH, gB⟩ := G.out
      have hN := HX.out.below gB
      obtain ⟨b1, o1, hp1, hc1⟩ := hN.hl (by rw [hN.el]; omega)
      subst hp1
      have c1 := hc1 j (by rw [hN.el]; omega)
      obtain ⟨es2, hP2⟩ := hN.ev j (by omega)
      generalize gh hs0 j = hd2 at c1 hP2
      obtain ⟨p2, n2, nc2⟩ := hd2
      simp only [Hdr.val] at c1 hP2
      have j1 : (j : Int) < (n : Int) := by omega
      have j2 : (j : Int) ≤ (R : Int) := by omega
      clear gel gLH gB hc1 hN
      go_wp2_with fail
      go_fit (Cut3_any hP2 E L hE hL)
      rintro e w1 ⟨q, m, mc, fs, zs, rfl, hPA, hm, hF1, hF2, hb1⟩
      have HE : Hid (EZ L E w1 wr.heap.size w1.heap.size zs ⟨q, m, mc⟩) := ez_cut hPA hm hF1 hF2
      have hown0 := own_below G.out.2.1.own hb1
      rw [G.out.1] at hown0
      have HO : Hid (w1.ownsRow w.heap.size 26 1 u9 j (rs.map Hdr.val)) := hown0
      have hsz : w.heap.size ≤ w1.heap.size := Nat.le_trans G.out.2.2.size hb1.size
      obtain ⟨hi, hz0, hz1, hz2⟩ := HI.out
      clear hown0 hPA hm hF1 hF2 c1 hP2
      go_wp2_with (refine wpList_append_lies _ rfl _ _ 52 rfl w.heap.size 26 i0 (.slice none 0 0) 1 24 Tryz.underlying52 hi hz0 hz1 hz2 rfl (by decide) u9 j (rs.map Hdr.val) rfl (HO.out.alloc _) ⟨w1.heap.size, 0, none⟩ 1 1 [.slice q m mc] rfl rfl ?_ (fun x hx => by simp at hx; subst hx; rfl) (by decide) (by unfold maxLen; omega) (by omega) (by simp; omega) _ rfl ?_; exact World.news_of_block (heap_alloc_new w1 _); intro g cap w3 hown3 hgrow3 hat3 hlt3; have hB3 : Below w.heap.size w w3 := ((bnext' G.out.2.2 hb1).alloc hsz _).grown hgrow3 (by simp; omega) (fun q hq => (HO.out.lt q hq).1); have HA : Hid (LH w.heap.size 26 (EZ L E) w3 (.slice (some ⟨g, 0, none⟩) (j + 1) cap) (rs ++ [⟨q, m, mc⟩]) (zss ++ [zs])) := LH.app (lasts_EZ L E) G.out.1 G.out.2.1 hb1 HE.out (Nat.le_refl _) (Nat.le_refl _) G.out.2.2.size hown3 hgrow3 hat3; clear hown3 hgrow3 hat3)
      refine ⟨⟨j + 1, rs ++ [⟨q, m, mc⟩], zss ++ [zs], by omega, by go_num, by have := G.out.1; simp; omega, HA.out, hB3⟩, by simp [intOf]; omega⟩
    · obtain ⟨gel, gLH, gB⟩ := G.out
      obtain ⟨q, cap, hv, hRow⟩ := gLH.row (lasts_EZ L E) (D := R + 1) (by omega)
      subst hv
      rw [gel] at hRow ⊢
      have HR' : Hid (CoP n (R + 1) E L w (.returned (.slice q j cap)) wr) := ⟨⟨q, j, cap⟩, zss, rfl, by show j = _; omega, ⟨rs, hRow⟩, gB⟩
      have hcs : Hid (¬ j < n ∨ (j < n ∧ ¬ j ≤ R)) := by show _ ∨ _; omega
      clear gLH gB hRow G gel
      rcases hcs.out with h1 | ⟨h1, h2⟩
      · have i1 : ¬ (j : Int) < (n : Int) := by omega
        clear h1
        go_wp2
        go_ret
        exact HR'.out
      · have i1 : (j : Int) < (n : Int) := by omega
        have i2 : ¬ (j : Int) ≤ (R : Int) := by omega
        clear h1 h2
        go_wp2
        go_ret
        exact HR'.out
set_option maxHeartbeats 1000000 in
/-- ashlarlaw8.few. -/
theorem few8_any {w : World} {p : Option Addr} {n nc : Nat} {hs0 : List Hdr} (h : RZ w p n nc hs0) :
    Calls Tryz.prog 24 #[.slice p n nc] w (CoP n 5 4 2 w) := by
  have hc := Cut8_any h 4 4 2 (by decide) (by decide) (by decide)
  go_enter Tryz.func24, Tryz.ntmps24
  go_wp2_with fail
  go_fit hc
  rintro e w1 ⟨hd, zss, rfl, h1, h2, h3⟩
  have H : Hid (CoP n 5 4 2 w (.returned hd.val) w1) := ⟨hd, zss, rfl, h1, h2, h3⟩
  clear hc h1 h2 h3
  go_wp2
  go_ret
  exact H.out
end Go.Proofs.YtifebbacnlhggaaGreatDoor
