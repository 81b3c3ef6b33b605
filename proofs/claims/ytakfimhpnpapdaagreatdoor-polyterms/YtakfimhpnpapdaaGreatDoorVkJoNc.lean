/-
  ashlarlaw3.Cut, few.
-/
import Derived.Test.YtakfimhpnpapdaaGreatDoorCyViVuVv
import Derived.Test.YtakfimhpnpapdaaGreatDoorOaOfJpRzCw
import Derived.Test.YtakfimhpnpapdaaGreatDoorCu
import Derived.Test.YtakfimhpnpapdaaGreatDoorNbUj
import Derived.Test.YtakfimhpnpapdaaGreatDoorHeReRxRf
namespace Go.Proofs.YtakfimhpnpapdaaGreatDoor
open Go.RowKit
set_option linter.unusedVariables false
set_option linter.unusedSimpArgs false

theorem info_apiI : (Tryz.prog.info? 29).map (fun i => (i.zero, i.size, i.bytes)) = some (some (.agg #[.bool false, .slice none 0 0]), 2, 32) := by kernel_rfl
/-- What Cut of a polynomial answers. -/
def CutP (n E L : Nat) (w : World) (e : Ending) (w' : World) : Prop :=
  ∃ q m mc fs zs, e = .returned (.slice q m mc) ∧ PA w' L q m mc fs zs ∧ m = min n E ∧ Go.Proofs.YtakfimhpnpapdaaGreatDoor.From w.heap.size q ∧ (∀ j, j < m → 0 < (ge fs j).n → Go.Proofs.YtakfimhpnpapdaaGreatDoor.From w.heap.size (ge fs j).p) ∧ Below w.heap.size w w'
theorem ai_take {w : World} {p : Option Addr} {n nc : Nat} {xs : List Int} (h : AI w p n nc xs) (m : Nat) (hm : m ≤ n) : AI w p m nc (xs.take m) :=
  ⟨by have := h.len; simp; omega, by have := h.cap; omega, h.bnd, by have := h.sml; omega, h.rd.take m, u32_take h.u m⟩
set_option maxHeartbeats 4000000 in
set_option maxRecDepth 100000 in
/-- ashlarlaw3.Cut. -/
theorem Cut3_any {w : World} {p : Option Addr} {n nc : Nat} {es0 : List Ent} (h : PZ w p n nc es0) (E L : Nat) (hE : E ≤ 1000) (hL : L ≤ 24) :
    Calls Tryz.prog 13 #[.slice p n nc, .int .i64 E, .int .i64 L] w (CutP n E L w) := by
  obtain ⟨i0, hi, hzz⟩ := Option.map_eq_some_iff.1 info_apiI
  simp only [Prod.mk.injEq] at hzz
  obtain ⟨hz0, hz1, hz2⟩ := hzz
  have HI : Hid (Tryz.prog.info? 29 = some i0 ∧ i0.zero = some (.agg #[.bool false, .slice none 0 0]) ∧ i0.size = 2 ∧ i0.bytes = 32) := ⟨hi, hz0, hz1, hz2⟩
  have HX : Hid (PZ w p n nc es0) := h
  have hnm : n ≤ 9223372036854775807 := by have h1 := h.cap; have h2 := h.bnd; unfold maxLen at h2; omega
  clear h hi hz0 hz1 hz2
  go_enter Tryz.func13, Tryz.ntmps13
  go_wp2_with fail
  go_loopw [7, 8, 9] (fun qv iv av wr => ∃ (k : Nat) (es : List Ent) (zs : List Int), k ≤ min n E ∧ iv = .int .i64 k ∧ Hid (es.length = k ∧ LG w.heap.size 29 (fun w z e => EV w L z e) wr qv es zs ∧ (∀ j, j < k → 0 < (ge es j).n → Go.Proofs.YtakfimhpnpapdaaGreatDoor.From w.heap.size (ge es j).p) ∧ Below w.heap.size w wr)) (fun _ iv _ _ => min n E - (intOf iv).toNat)
  case atStart => exact ⟨0, [], [], Nat.zero_le _, by go_num, rfl, LG.nil _ _ _ _, fun j hj => absurd hj (by omega), Below.refl _ _⟩
  case round =>
    obtain ⟨k, es, zs, hk, rfl, H⟩ := hrel
    rcases Nat.lt_or_ge k (min n E) with hlt | hge
    · obtain ⟨hel, hLR, hfr, hB⟩ := H.out
      have hPA := HX.out.below hB
      obtain ⟨b, o, hp, hc⟩ := hPA.pl (by rw [hPA.el]; omega)
      subst hp
      obtain ⟨c0, c1⟩ := hc k (by rw [hPA.el]; omega)
      obtain ⟨xs, r1, r2, r3, r4, r5, r6⟩ := hPA.ev k (by omega)
      have i1 : (k : Int) < (n : Int) := by omega
      have i2 : (k : Int) < (E : Int) := by omega
      clear hel hLR hB hc hPA hfr
      go_wp2_with fail
      refine (Cut_any (ge es0 k).s (ge es0 k).p (ge es0 k).n (ge es0 k).c xs wr r1 r2 r3 r4 r5 r6).mono ?_
      rintro e w1 ⟨p1, n1, c1', rfl, hA1, hn1, hF1, hb1⟩
      generalize (ge es0 k).s = s1
      clear c0 c1 r1 r2 r3 r4 r5 r6
      have hcap1 := hA1.cap
      have hbnd1 := hA1.bnd
      unfold maxLen at hbnd1
      obtain ⟨hi, hz0, hz1, hz2⟩ := HI.out
      rcases Nat.lt_or_ge L n1 with hgt | hle
      · have j1 : (L : Int) < (n1 : Int) := by omega
        have j2 : (L : Int) ≤ (c1' : Int) := by omega
        have HA1 : Hid (AI w1 p1 L c1' ((xs.take 24).take L)) := ai_take hA1 L (by omega)
        clear hA1
        go_upto_region 8 with fail
        have hX2 : Bx (w1.alloc (.cells #[.bool s1, .slice p1 L c1'] 29)) w1.heap.size (.bool s1) (.slice p1 L c1') := Bx.new _ _ _ rfl
        have hal := bel_al (o := .cells #[.bool s1, .slice p1 L c1'] 29) (Below.refl w1.heap.size w1)
        have hb2 := bnext' hb1 hal
        have hA2 := HA1.out.below hal
        clear HA1 hal
        generalize w1.alloc (.cells #[.bool s1, .slice p1 L c1'] 29) = W2 at *
        obtain ⟨q0, q1, -, -⟩ := hX2
        have HE : Hid (EV W2 L (ival s1 ((xs.take 24).take L)) ⟨s1, p1, L, c1'⟩) := ⟨((xs.take 24).take L), hA2, rfl, by show L ≤ L; omega⟩
        have hown0 := own_below H.out.2.1.own hb2
        rw [H.out.1] at hown0
        have HO : Hid (W2.ownsRow w.heap.size 29 2 u7 k (fl es)) := hown0
        have hsz : w.heap.size ≤ W2.heap.size := Nat.le_trans H.out.2.2.2.size hb2.size
        have HF : Hid (Go.Proofs.YtakfimhpnpapdaaGreatDoor.From wr.heap.size p1) := hF1
        clear hown0 hA2 hF1 hb1
        go_wp2_with (refine wpList_append_lies _ rfl _ _ 23 rfl w.heap.size 29 i0 (.agg #[.bool false, .slice none 0 0]) 2 32 Tryz.underlying23 hi hz0 hz1 hz2 rfl (by decide) u7 k (fl es) rfl (HO.out.alloc _) ⟨W2.heap.size, 0, none⟩ 1 1 [.bool s1, .slice p1 L c1'] rfl rfl ?_ (fun x hx => by simp at hx; rcases hx with rfl | rfl <;> rfl) (by decide) (by unfold maxLen; omega) (by omega) (by simp; omega) _ rfl ?_; exact World.news_of_block (heap_alloc_new W2 _); intro g cap w3 hown3 hgrow3 hat3 hlt3; have hB3 : Below w.heap.size w w3 := ((bnext' H.out.2.2.2 hb2).alloc hsz _).grown hgrow3 (by simp; omega) (fun q hq => (HO.out.lt q hq).1); have HA : Hid (LG w.heap.size 29 (fun w z e => EV w L z e) w3 (.slice (some ⟨g, 0, none⟩) (k + 1) cap) (es ++ [⟨s1, p1, L, c1'⟩]) (zs ++ [ival s1 ((xs.take 24).take L)])) := lg_app (lasts_EV _) H.out.1 H.out.2.1 hb2 HE.out HF.out hown3 hgrow3 hat3; clear hown3 hgrow3 hat3)
        refine ⟨⟨k + 1, es ++ [⟨s1, p1, L, c1'⟩], zs ++ [ival s1 ((xs.take 24).take L)], by omega, by go_num, by have := H.out.1; simp; omega, HA.out, fun j hj h0 => ?_, hB3⟩, by simp [intOf]; omega⟩
        have hel := H.out.1
        rcases Nat.lt_or_ge j k with h | h
        · rw [ge_append_left _ _ _ (by omega)] at h0 ⊢
          exact H.out.2.2.1 j h h0
        · obtain rfl : j = es.length := by omega
          rw [ge_snoc]
          exact fun a ha => Nat.le_trans H.out.2.2.2.size (HF.out a ha)
      · have j1 : ¬ (L : Int) < (n1 : Int) := by omega
        have HA1 : Hid (AI w1 p1 n1 c1' (xs.take 24)) := hA1
        clear hA1
        go_upto_region 8 with fail
        have hX2 : Bx (w1.alloc (.cells #[.bool s1, .slice p1 n1 c1'] 29)) w1.heap.size (.bool s1) (.slice p1 n1 c1') := Bx.new _ _ _ rfl
        have hal := bel_al (o := .cells #[.bool s1, .slice p1 n1 c1'] 29) (Below.refl w1.heap.size w1)
        have hb2 := bnext' hb1 hal
        have hA2 := HA1.out.below hal
        clear HA1 hal
        generalize w1.alloc (.cells #[.bool s1, .slice p1 n1 c1'] 29) = W2 at *
        obtain ⟨q0, q1, -, -⟩ := hX2
        have HE : Hid (EV W2 L (ival s1 (xs.take 24)) ⟨s1, p1, n1, c1'⟩) := ⟨(xs.take 24), hA2, rfl, by show n1 ≤ L; omega⟩
        have hown0 := own_below H.out.2.1.own hb2
        rw [H.out.1] at hown0
        have HO : Hid (W2.ownsRow w.heap.size 29 2 u7 k (fl es)) := hown0
        have hsz : w.heap.size ≤ W2.heap.size := Nat.le_trans H.out.2.2.2.size hb2.size
        have HF : Hid (Go.Proofs.YtakfimhpnpapdaaGreatDoor.From wr.heap.size p1) := hF1
        clear hown0 hA2 hF1 hb1
        go_wp2_with (refine wpList_append_lies _ rfl _ _ 23 rfl w.heap.size 29 i0 (.agg #[.bool false, .slice none 0 0]) 2 32 Tryz.underlying23 hi hz0 hz1 hz2 rfl (by decide) u7 k (fl es) rfl (HO.out.alloc _) ⟨W2.heap.size, 0, none⟩ 1 1 [.bool s1, .slice p1 n1 c1'] rfl rfl ?_ (fun x hx => by simp at hx; rcases hx with rfl | rfl <;> rfl) (by decide) (by unfold maxLen; omega) (by omega) (by simp; omega) _ rfl ?_; exact World.news_of_block (heap_alloc_new W2 _); intro g cap w3 hown3 hgrow3 hat3 hlt3; have hB3 : Below w.heap.size w w3 := ((bnext' H.out.2.2.2 hb2).alloc hsz _).grown hgrow3 (by simp; omega) (fun q hq => (HO.out.lt q hq).1); have HA : Hid (LG w.heap.size 29 (fun w z e => EV w L z e) w3 (.slice (some ⟨g, 0, none⟩) (k + 1) cap) (es ++ [⟨s1, p1, n1, c1'⟩]) (zs ++ [ival s1 (xs.take 24)])) := lg_app (lasts_EV _) H.out.1 H.out.2.1 hb2 HE.out HF.out hown3 hgrow3 hat3; clear hown3 hgrow3 hat3)
        refine ⟨⟨k + 1, es ++ [⟨s1, p1, n1, c1'⟩], zs ++ [ival s1 (xs.take 24)], by omega, by go_num, by have := H.out.1; simp; omega, HA.out, fun j hj h0 => ?_, hB3⟩, by simp [intOf]; omega⟩
        have hel := H.out.1
        rcases Nat.lt_or_ge j k with h | h
        · rw [ge_append_left _ _ _ (by omega)] at h0 ⊢
          exact H.out.2.2.1 j h h0
        · obtain rfl : j = es.length := by omega
          rw [ge_snoc]
          exact fun a ha => Nat.le_trans H.out.2.2.2.size (HF.out a ha)
    · obtain rfl : k = min n E := by omega
      obtain ⟨hel, hLR, hfr, hB⟩ := H.out
      have hzl := hLR.zl
      obtain ⟨q, cap, hv, hc1, hc2, hPL, hF, hpn⟩ := hLR.pl
      have hev := hLR.ev
      subst hv
      rw [hel] at hev hc1 hzl ⊢
      have HR : Hid (CutP n E L w (.returned (.slice q (min n E : Nat) cap)) wr) := ⟨q, _, cap, es, zs, rfl, ⟨hel, hzl, hc1, hc2, hpn, hPL, hev⟩, rfl, hF, hfr, hB⟩
      have hcs : Hid (¬ (min n E : Nat) < n ∨ ((min n E : Nat) < n ∧ ¬ (min n E : Nat) < E)) := by show _ ∨ _; omega
      generalize min n E = m at *
      clear H hLR hev hPL hF hfr hB hge
      rcases hcs.out with h1 | ⟨h1, h2⟩
      · have i1 : ¬ (m : Int) < (n : Int) := by omega
        clear h1
        go_wp2
        go_ret
        exact HR.out
      · have i1 : (m : Int) < (n : Int) := by omega
        have i2 : ¬ (m : Int) < (E : Int) := by omega
        clear h1 h2
        go_wp2
        go_ret
        exact HR.out
set_option maxHeartbeats 1000000 in
/-- ashlarlaw3.few. -/
theorem few_any {w : World} {p : Option Addr} {n nc : Nat} {es0 : List Ent} (h : PZ w p n nc es0) :
    Calls Tryz.prog 7 #[.slice p n nc] w (CutP n 9 4 w) := by
  have hc := Cut3_any h 9 4 (by decide) (by decide)
  clear h
  go_enter Tryz.func7, Tryz.ntmps7
  go_wp2_with fail
  refine hc.mono ?_
  rintro e w1 ⟨q, m, mc, fs, zs, rfl, h1, h2, h3, h4, hb1⟩
  have HR : Hid (CutP n 9 4 w (.returned (.slice q m mc)) w1) := ⟨q, m, mc, fs, zs, rfl, h1, h2, h3, h4, hb1⟩
  clear hc h1 h2 h3 h4 hb1
  go_wp2
  go_ret
  exact HR.out
end Go.Proofs.YtakfimhpnpapdaaGreatDoor
/-
  What the walks of ashlarlaw3 share: a literal as an argument, From and Is for entries.
-/
namespace Go.Proofs.YtakfimhpnpapdaaGreatDoor
open Go.RowKit
set_option linter.unusedVariables false
set_option linter.unusedSimpArgs false

theorem fr_mn {X W1 : World} {q : Option Addr} (h : Go.Proofs.YtakfimhpnpapdaaGreatDoor.From X.heap.size q) (hs : W1.heap.size ≤ X.heap.size) : Go.Proofs.YtakfimhpnpapdaaGreatDoor.From W1.heap.size q := fun a ha => Nat.le_trans hs (h a ha)
theorem pz_lit {W : World} {g : Nat} {e : Ent} (h0 : W.cell? ⟨g, 0, none⟩ = some (.bool e.s)) (h1 : W.cell? ⟨g, 1, none⟩ = some (.slice e.p e.n e.c)) (hr : RawE W e) : PZ W (some ⟨g, 0, none⟩) 1 1 [e] :=
  ⟨rfl, Nat.le_refl _, by decide, nofun, fun _ => ⟨g, 0, rfl, fun j hj => by
    obtain rfl : j = 0 := by simp at hj; omega
    exact ⟨h0, h1⟩⟩, fun j hj => by
    obtain rfl : j = 0 := by omega
    exact hr⟩
theorem cells_lit (w : World) (x y : Value) (t : Nat) : (w.alloc (.cells #[x, y] t)).cell? ⟨w.heap.size, 0, none⟩ = some x ∧ (w.alloc (.cells #[x, y] t)).cell? ⟨w.heap.size, 1, none⟩ = some y := ⟨by simp [go_sem], by simp [go_sem]⟩
theorem rFrom_e {w : World} {K : Nat} {z : Int} {e : Ent} (h : EV w K z e) :
    Calls Tryz.prog 35 #[.agg #[.bool e.s, .slice e.p e.n e.c]] w fun r w' => ∃ u : Ent, r = .returned (.agg #[.bool u.s, .slice u.p u.n u.c]) ∧ RE w' (2 * K) z u ∧ Go.Proofs.YtakfimhpnpapdaaGreatDoor.From w.heap.size u.p ∧ Below w.heap.size w w' := by
  obtain ⟨xs, h1, h2, h3⟩ := h
  refine (From_ansF e.s e.p e.n e.c xs w h1).mono ?_
  rintro r w1 ⟨s, p, n, d, rfl, h4, h5, h6, h7, h8⟩
  exact ⟨⟨s, p, n, n⟩, rfl, ⟨⟨d, h4, by rw [h5, h2], by show n ≤ _; omega⟩, rfl⟩, h7, h8⟩
theorem rIs_en {B : Nat} {w : World} {K N : Nat} {z : Int} {e f : Ent} (h : NV B w K z e) (k : RE w N z f) (hK : K ≤ 1000) (hN : N ≤ 1000) :
    Calls Tryz.prog 23 #[.agg #[.bool e.s, .slice e.p e.n e.c], .agg #[.bool f.s, .slice f.p f.n f.c]] w fun r w' => r = .returned (.bool true) ∧ Below w.heap.size w w' := by
  obtain ⟨xs, k1, k2, k3⟩ := h
  obtain ⟨⟨ds, l1, l2, l3⟩, l4⟩ := k
  rw [k2, l4]
  exact rIs_rn k1 (by omega) l1 (by omega) l2
end Go.Proofs.YtakfimhpnpapdaaGreatDoor
/-
  What PolyTerms' walk stands on: the powers that are there, and the marks of two ranges.
-/
namespace Go.Proofs.YtakfimhpnpapdaaGreatDoor
open Go.RowKit Go.Shelf
set_option linter.unusedVariables false
set_option linter.unusedSimpArgs false

theorem idx_mem (zs : List Int) (k i : Nat) : i ∈ idx zs k ↔ i < k ∧ ¬ gx zs i = 0 := by simp [idx]
theorem idx_le (zs : List Int) {j k : Nat} (h : j ≤ k) : (idx zs j).length ≤ (idx zs k).length := by
  induction h with
  | refl => exact Nat.le_refl _
  | step _ ih =>
    rw [idx_succ]
    split
    · exact ih
    · rw [List.length_append]; omega
theorem idx_none {zs : List Int} {j m : Nat} (h : idx zs j = idx zs m) (hj : j < m) : gx zs j = 0 := by
  refine Classical.byContradiction fun hz => ?_
  have := idx_le zs (show j + 1 ≤ m by omega)
  rw [idx_succ, if_neg hz, List.length_append, h] at this
  simp at this
  omega
/-- Where the count stands: at the beginning, or behind a power that is there. -/
def Behind (zs : List Int) (j : Nat) : Prop := j = 0 ∨ ∃ i, j = i + 1 ∧ ¬ gx zs i = 0
theorem Behind.le {zs : List Int} {j m : Nat} (h : Behind zs j) (e : idx zs j = idx zs m) : j ≤ m := by
  rcases h with rfl | ⟨i, rfl, hi⟩
  · exact Nat.zero_le _
  · have : i ∈ idx zs (i + 1) := (idx_mem ..).2 ⟨by omega, hi⟩
    rw [e, idx_mem] at this
    omega

/-- The marks of ranges that are over: blocks from B on, below U. -/
def Marks (B U : Nat) (W : World) : List Deferred → Prop
  | [] => True
  | d :: ds => (∃ D, d = { target := .collected D, args := #[] } ∧ B ≤ D ∧ D < U ∧ W.heap[D]? = some (.deferred (some [])) ∧ ∀ e ∈ ds, e.target ≠ .collected D) ∧ Marks B U W ds
theorem Marks.keep {B U : Nat} {W W' : World} (hk : ∀ D, D < U → W.heap[D]? = some (.deferred (some [])) → W'.heap[D]? = some (.deferred (some []))) : ∀ {ds : List Deferred}, Marks B U W ds → Marks B U W' ds
  | [], _ => trivial
  | _ :: _, ⟨⟨D, e, h1, h2, h3, h4⟩, h⟩ => ⟨⟨D, e, h1, h2, hk D h2 h3, h4⟩, Marks.keep hk h⟩
theorem Marks.up {B U U' : Nat} {W : World} (hU : U ≤ U') : ∀ {ds : List Deferred}, Marks B U W ds → Marks B U' W ds
  | [], _ => trivial
  | _ :: _, ⟨⟨D, e, h1, h2, h3, h4⟩, h⟩ => ⟨⟨D, e, h1, by omega, h3, h4⟩, Marks.up hU h⟩
theorem Marks.others {B U : Nat} {W W' : World} {ds : List Deferred} (h : Marks B U W ds) (hk : KeepsOthers W W') : Marks B U W' ds := h.keep fun D _ hD => hk.same D _ hD rfl
theorem Marks.grown {B U : Nat} {W W' : World} {ds : List Deferred} {row : Option Nat} (h : Marks B U W ds) (hg : W.grownBy W' row) (hr : ∀ r, row = some r → U ≤ r) : Marks B U W' ds := h.keep fun D hD hd => by
  refine (hg.block D (Array.getElem?_eq_some_iff.1 hd).1 ?_).trans hd
  intro e
  have := hr D e.symm
  omega
theorem Marks.lt {B U : Nat} {W : World} : ∀ {ds : List Deferred}, Marks B U W ds → ∀ e ∈ ds, ∃ D, e.target = .collected D ∧ D < U
  | _ :: _, ⟨⟨D, e, _, h2, _⟩, h⟩, x, hx => by
    rcases List.mem_cons.1 hx with rfl | hx
    · exact ⟨D, by rw [e], h2⟩
    · exact Marks.lt h x hx
theorem Marks.next {B U D : Nat} {W : World} {ds : List Deferred} (h : Marks B U W ds) (hB : B ≤ D) (hU : U ≤ D) (hd : W.heap[D]? = some (.deferred (some []))) : Marks B W.heap.size W ({ target := .collected D, args := #[] } :: ds) :=
  ⟨⟨D, rfl, hB, (Array.getElem?_eq_some_iff.1 hd).1, hd, fun e he h' => by obtain ⟨D', h1, h2⟩ := h.lt e he; rw [h1] at h'; cases h'; omega⟩, h.up (by have := (Array.getElem?_eq_some_iff.1 hd).1; omega)⟩
theorem Marks.keep' {B U D : Nat} {W W' : World} : ∀ {ds : List Deferred}, Marks B U W ds → (∀ e ∈ ds, e.target ≠ .collected D) → W.grownBy W' (some D) → Marks B U W' ds
  | [], _, _, _ => trivial
  | d :: ds, ⟨⟨E, e, h1, h2, h3, h4⟩, h⟩, hn, hg => ⟨⟨E, e, h1, h2, (hg.block E (Array.getElem?_eq_some_iff.1 h3).1 fun x => hn d (by simp) (by cases x; rw [e])).trans h3, h4⟩, Marks.keep' h (fun x hx => hn x (by simp [hx])) hg⟩
/-- The function leaves: its marks are taken one by one. -/
theorem leave_marks {F : Fence} {n : Nat} {P : Program} {fn : Func} {tmps : Array Value} {R : Ending → World → Prop} {B U : Nat} : ∀ (ds : List Deferred) (W : World), Marks B U W ds →
    (∀ W', (∀ N, N ≤ B → Below N W W') → (∀ a v, W.cell? a = some v → W'.cell? a = some v) → LeavesIn F n P fn tmps R [] .returning W') → LeavesInM F n P fn tmps R ds .returning W
  | [], W, _, h => h W (fun N _ => Below.refl N W) fun _ _ h => h
  | d :: ds, W, ⟨⟨D, e, h1, h2, h3, h4⟩, hm⟩, h => by
    subst e
    have hg := grownBy_putObj' W D (.deferred none)
    refine ⟨by simp, .inl ⟨D, _, rfl, run_takeDeferred h3, leave_marks ds _ (hm.keep' h4 hg) fun W' hb hc => h W' (fun N hN => ?_) fun a v hv => hc a v (cell_kept hv hg fun r e => by cases e; exact ⟨_, h3, rfl⟩)⟩⟩
    exact ((Below.refl N W).grown hg (by have := (Array.getElem?_eq_some_iff.1 h3).1; omega) (fun k e => by cases e; omega)).trans (hb N hN)
end Go.Proofs.YtakfimhpnpapdaaGreatDoor
