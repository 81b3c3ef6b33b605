/-
  ashlarref1.Is.
-/
import Derived.Test.YtneejidiefkgkaaGreatDoorPqReRxRf
import Derived.Test.YtneejidiefkgkaaGreatDoorVbDaCxRbCyViVuPr
import Derived.Test.YtneejidiefkgkaaGreatDoorCuOaOfJpDh
import Derived.Test.YtneejidiefkgkaaGreatDoorUpUqRm
import Derived.StillTailTactics
namespace Go.Proofs.YtneejidiefkgkaaGreatDoor
open Go.RowKit
set_option linter.unusedVariables false
set_option linter.unusedSimpArgs false

set_option maxRecDepth 100000 in
set_option maxHeartbeats 1000000 in
/-- ashlarref1.Is: an answer is this number. -/
theorem rIs_any {B : Nat} {w : World} {s t : Bool} {p q : Option Addr} {n m mc : Nat} {xs ds : List Int} {z : Int} (h : NI B w s p n xs z) (hn : n ≤ 1000) (hl : ds.length = m) (hm : m ≤ 1000) (hX : Rd w q .i64 ds) (hU : U16 ds) (hnr : tlen ds = m) (hs : m = 0 → t = false) (hv : rval t ds = z) :
    Calls Tryz.prog 30 #[.agg #[.bool s, .slice p n n], .agg #[.bool t, .slice q m mc]] w fun e w' => e = .returned (.bool true) ∧ Below w.heap.size w w' := by
  go_enter Tryz.func30, Tryz.ntmps30
  go_wp2_with fail
  have hX2 := boxes2 w (.bool s) (.slice p n n) (.bool t) (.slice q m mc) 47 50
  generalize ((w.alloc (Obj.cells #[Value.bool s, Value.slice p n n] 47)).alloc (Obj.cells #[Value.bool t, Value.slice q m mc] 50)) = W at *
  have k0 := hX2.ca0
  have k1 := hX2.ca1
  have k2 := hX2.cb0
  have k3 := hX2.cb1
  go_region_held3 (fun w' => w'.cell? ⟨w.heap.size, 0, none⟩ = some (.bool s) ∧ w'.cell? ⟨w.heap.size, 1, none⟩ = some (.slice p n n) ∧ w'.cell? ⟨w.heap.size + 1, 0, none⟩ = some (.bool t) ∧ w'.cell? ⟨w.heap.size + 1, 1, none⟩ = some (.slice q m mc)) (first | exact ⟨by assumption, by assumption, by assumption, by assumption⟩ | exact keepc4 (by assumption) (by assumption))
    (first
      | (go_at_call 27; refine (rTo_any t q m mc ds _ hl hm (hX.below hX2.below).drew hU).mono ?_; rintro e w1 ⟨p', m', cap, rfl, hA1, hm', hb1⟩)
      | (go_at_call 70; have h1 := h.below (bnext' hX2.below (undrew hb1)); have h2 : NN t (jn ds m') z := nn_jn hU (by omega) (fun e => hs (by omega)) hv (by have := hm'.out; omega); refine (rEq_nn h1 hA1 h2 hn).mono ?_; rintro e w2 ⟨rfl, hb2⟩))
  go_wp2
  go_ret
  exact ⟨rfl, bnext' (bnext' hX2.below (undrew hb1)) hb2⟩
end Go.Proofs.YtneejidiefkgkaaGreatDoor
/-
  ashlarref1.Is of what is known.
-/
namespace Go.Proofs.YtneejidiefkgkaaGreatDoor
open Go.RowKit
set_option linter.unusedVariables false
set_option linter.unusedSimpArgs false

/-- ashlarref1.Is of what is known. -/
theorem rIs_rn {B : Nat} {w : World} {s t : Bool} {p q : Option Addr} {n m : Nat} {xs ds : List Int} {z : Int} (h : NI B w s p n xs z) (hn : n ≤ 1000) (k : RN w t q m ds) (hm : m ≤ 1000) (hv : rval t ds = z) :
    Calls Tryz.prog 30 #[.agg #[.bool s, .slice p n n], .agg #[.bool t, .slice q m m]] w fun e w' => e = .returned (.bool true) ∧ Below w.heap.size w w' :=
  rIs_any h hn k.len hm k.rd k.u k.nrm k.sg hv
end Go.Proofs.YtneejidiefkgkaaGreatDoor
/-
  ashlarlaw3.Cut, few.
-/
namespace Go.Proofs.YtneejidiefkgkaaGreatDoor
open Go.RowKit
set_option linter.unusedVariables false
set_option linter.unusedSimpArgs false

theorem info_apiI : (Tryz.prog.info? 47).map (fun i => (i.zero, i.size, i.bytes)) = some (some (.agg #[.bool false, .slice none 0 0]), 2, 32) := by kernel_rfl
/-- What Cut of a polynomial answers. -/
def CutP (n E L : Nat) (w : World) (e : Ending) (w' : World) : Prop :=
  ∃ q m mc fs zs, e = .returned (.slice q m mc) ∧ PA w' L q m mc fs zs ∧ m = min n E ∧ Go.Proofs.YtneejidiefkgkaaGreatDoor.From w.heap.size q ∧ (∀ j, j < m → 0 < (ge fs j).n → Go.Proofs.YtneejidiefkgkaaGreatDoor.From w.heap.size (ge fs j).p) ∧ Below w.heap.size w w'
theorem ai_take {w : World} {p : Option Addr} {n nc : Nat} {xs : List Int} (h : AI w p n nc xs) (m : Nat) (hm : m ≤ n) : AI w p m nc (xs.take m) :=
  ⟨by have := h.len; simp; omega, by have := h.cap; omega, h.bnd, by have := h.sml; omega, h.rd.take m, u32_take h.u m⟩
set_option maxHeartbeats 4000000 in
set_option maxRecDepth 100000 in
/-- ashlarlaw3.Cut. -/
theorem Cut3_any {w : World} {p : Option Addr} {n nc : Nat} {es0 : List Ent} (h : PZ w p n nc es0) (E L : Nat) (hE : E ≤ 1000) (hL : L ≤ 24) :
    Calls Tryz.prog 13 #[.slice p n nc, .int .i64 E, .int .i64 L] w (CutP n E L w) := by
  obtain ⟨i0, hi, hzz⟩ := Option.map_eq_some_iff.1 info_apiI
  simp only [Prod.mk.injEq] at hzz
  obtain ⟨hz0, hz1, hz2⟩ := hzz
  have HI : Hid (Tryz.prog.info? 47 = some i0 ∧ i0.zero = some (.agg #[.bool false, .slice none 0 0]) ∧ i0.size = 2 ∧ i0.bytes = 32) := ⟨hi, hz0, hz1, hz2⟩
  have HX : Hid (PZ w p n nc es0) := h
  have hnm : n ≤ 9223372036854775807 := by have h1 := h.cap; have h2 := h.bnd; unfold maxLen at h2; omega
  clear h hi hz0 hz1 hz2
  go_enter Tryz.func13, Tryz.ntmps13
  go_wp2_with fail
  go_loopw [7, 8, 9] (fun qv iv av wr => ∃ (k : Nat) (es : List Ent) (zs : List Int), k ≤ min n E ∧ iv = .int .i64 k ∧ Hid (es.length = k ∧ LG w.heap.size 47 (fun w z e => EV w L z e) wr qv es zs ∧ (∀ j, j < k → 0 < (ge es j).n → Go.Proofs.YtneejidiefkgkaaGreatDoor.From w.heap.size (ge es j).p) ∧ Below w.heap.size w wr)) (fun _ iv _ _ => min n E - (intOf iv).toNat)
  case atStart => exact ⟨0, [], [], Nat.zero_le _, by go_num, rfl, LG.nil _ _ _ _, fun j hj => absurd hj (by omega), Below.refl _ _⟩
  case round =>
    obtain ⟨k, es, zs, hk, rfl, H⟩ := hrel
    rcases Nat.lt_or_ge k (min n E) with hlt | hge
    · obtain ⟨hel, hLR, hfr, hB⟩ := H.out
      have hPA := HX.out.below hB
      obtain ⟨b, o, hp, hc⟩ := hPA.pl (by rw [hPA.el]; omega)
      subst hp
      obtain ⟨c0, c1⟩ := hc k (by rw [hPA.el]; omega)
      obtain ⟨xs, r1, r2, r3, r4, r5, r6⟩ := hPA.ev k (by omega)
      have i1 : (k : Int) < (n : Int) := by omega
      have i2 : (k : Int) < (E : Int) := by omega
      clear hel hLR hB hc hPA hfr
      go_wp2_with fail
      refine (Cut_any (ge es0 k).s (ge es0 k).p (ge es0 k).n (ge es0 k).c xs wr r1 r2 r3 r4 r5 r6).mono ?_
      rintro e w1 ⟨p1, n1, c1', rfl, hA1, hn1, hF1, hb1⟩
      generalize (ge es0 k).s = s1
      clear c0 c1 r1 r2 r3 r4 r5 r6
      have hcap1 := hA1.cap
      have hbnd1 := hA1.bnd
      unfold maxLen at hbnd1
      obtain ⟨hi, hz0, hz1, hz2⟩ := HI.out
      rcases Nat.lt_or_ge L n1 with hgt | hle
      · have j1 : (L : Int) < (n1 : Int) := by omega
        have j2 : (L : Int) ≤ (c1' : Int) := by omega
        have HA1 : Hid (AI w1 p1 L c1' ((xs.take 24).take L)) := ai_take hA1 L (by omega)
        clear hA1
        go_upto_region 8 with fail
        have hX2 : Bx (w1.alloc (.cells #[.bool s1, .slice p1 L c1'] 47)) w1.heap.size (.bool s1) (.slice p1 L c1') := Bx.new _ _ _ rfl
        have hal := bel_al (o := .cells #[.bool s1, .slice p1 L c1'] 47) (Below.refl w1.heap.size w1)
        have hb2 := bnext' hb1 hal
        have hA2 := HA1.out.below hal
        clear HA1 hal
        generalize w1.alloc (.cells #[.bool s1, .slice p1 L c1'] 47) = W2 at *
        obtain ⟨q0, q1, -, -⟩ := hX2
        have HE : Hid (EV W2 L (ival s1 ((xs.take 24).take L)) ⟨s1, p1, L, c1'⟩) := ⟨((xs.take 24).take L), hA2, rfl, by show L ≤ L; omega⟩
        have hown0 := own_below H.out.2.1.own hb2
        rw [H.out.1] at hown0
        have HO : Hid (W2.ownsRow w.heap.size 47 2 u7 k (fl es)) := hown0
        have hsz : w.heap.size ≤ W2.heap.size := Nat.le_trans H.out.2.2.2.size hb2.size
        have HF : Hid (Go.Proofs.YtneejidiefkgkaaGreatDoor.From wr.heap.size p1) := hF1
        clear hown0 hA2 hF1 hb1
        go_wp2_with (refine wpList_append_lies _ rfl _ _ 23 rfl w.heap.size 47 i0 (.agg #[.bool false, .slice none 0 0]) 2 32 Tryz.underlying23 hi hz0 hz1 hz2 rfl (by decide) u7 k (fl es) rfl (HO.out.alloc _) ⟨W2.heap.size, 0, none⟩ 1 1 [.bool s1, .slice p1 L c1'] rfl rfl ?_ (fun x hx => by simp at hx; rcases hx with rfl | rfl <;> rfl) (by decide) (by unfold maxLen; omega) (by omega) (by simp; omega) _ rfl ?_; exact World.news_of_block (heap_alloc_new W2 _); intro g cap w3 hown3 hgrow3 hat3 hlt3; have hB3 : Below w.heap.size w w3 := ((bnext' H.out.2.2.2 hb2).alloc hsz _).grown hgrow3 (by simp; omega) (fun q hq => (HO.out.lt q hq).1); have HA : Hid (LG w.heap.size 47 (fun w z e => EV w L z e) w3 (.slice (some ⟨g, 0, none⟩) (k + 1) cap) (es ++ [⟨s1, p1, L, c1'⟩]) (zs ++ [ival s1 ((xs.take 24).take L)])) := lg_app (lasts_EV _) H.out.1 H.out.2.1 hb2 HE.out HF.out hown3 hgrow3 hat3; clear hown3 hgrow3 hat3)
        refine ⟨⟨k + 1, es ++ [⟨s1, p1, L, c1'⟩], zs ++ [ival s1 ((xs.take 24).take L)], by omega, by go_num, by have := H.out.1; simp; omega, HA.out, fun j hj h0 => ?_, hB3⟩, by simp [intOf]; omega⟩
        have hel := H.out.1
        rcases Nat.lt_or_ge j k with h | h
        · rw [ge_append_left _ _ _ (by omega)] at h0 ⊢
          exact H.out.2.2.1 j h h0
        · obtain rfl : j = es.length := by omega
          rw [ge_snoc]
          exact fun a ha => Nat.le_trans H.out.2.2.2.size (HF.out a ha)
      · have j1 : ¬ (L : Int) < (n1 : Int) := by omega
        have HA1 : Hid (AI w1 p1 n1 c1' (xs.take 24)) := hA1
        clear hA1
        go_upto_region 8 with fail
        have hX2 : Bx (w1.alloc (.cells #[.bool s1, .slice p1 n1 c1'] 47)) w1.heap.size (.bool s1) (.slice p1 n1 c1') := Bx.new _ _ _ rfl
        have hal := bel_al (o := .cells #[.bool s1, .slice p1 n1 c1'] 47) (Below.refl w1.heap.size w1)
        have hb2 := bnext' hb1 hal
        have hA2 := HA1.out.below hal
        clear HA1 hal
        generalize w1.alloc (.cells #[.bool s1, .slice p1 n1 c1'] 47) = W2 at *
        obtain ⟨q0, q1, -, -⟩ := hX2
        have HE : Hid (EV W2 L (ival s1 (xs.take 24)) ⟨s1, p1, n1, c1'⟩) := ⟨(xs.take 24), hA2, rfl, by show n1 ≤ L; omega⟩
        have hown0 := own_below H.out.2.1.own hb2
        rw [H.out.1] at hown0
        have HO : Hid (W2.ownsRow w.heap.size 47 2 u7 k (fl es)) := hown0
        have hsz : w.heap.size ≤ W2.heap.size := Nat.le_trans H.out.2.2.2.size hb2.size
        have HF : Hid (Go.Proofs.YtneejidiefkgkaaGreatDoor.From wr.heap.size p1) := hF1
        clear hown0 hA2 hF1 hb1
        go_wp2_with (refine wpList_append_lies _ rfl _ _ 23 rfl w.heap.size 47 i0 (.agg #[.bool false, .slice none 0 0]) 2 32 Tryz.underlying23 hi hz0 hz1 hz2 rfl (by decide) u7 k (fl es) rfl (HO.out.alloc _) ⟨W2.heap.size, 0, none⟩ 1 1 [.bool s1, .slice p1 n1 c1'] rfl rfl ?_ (fun x hx => by simp at hx; rcases hx with rfl | rfl <;> rfl) (by decide) (by unfold maxLen; omega) (by omega) (by simp; omega) _ rfl ?_; exact World.news_of_block (heap_alloc_new W2 _); intro g cap w3 hown3 hgrow3 hat3 hlt3; have hB3 : Below w.heap.size w w3 := ((bnext' H.out.2.2.2 hb2).alloc hsz _).grown hgrow3 (by simp; omega) (fun q hq => (HO.out.lt q hq).1); have HA : Hid (LG w.heap.size 47 (fun w z e => EV w L z e) w3 (.slice (some ⟨g, 0, none⟩) (k + 1) cap) (es ++ [⟨s1, p1, n1, c1'⟩]) (zs ++ [ival s1 (xs.take 24)])) := lg_app (lasts_EV _) H.out.1 H.out.2.1 hb2 HE.out HF.out hown3 hgrow3 hat3; clear hown3 hgrow3 hat3)
        refine ⟨⟨k + 1, es ++ [⟨s1, p1, n1, c1'⟩], zs ++ [ival s1 (xs.take 24)], by omega, by go_num, by have := H.out.1; simp; omega, HA.out, fun j hj h0 => ?_, hB3⟩, by simp [intOf]; omega⟩
        have hel := H.out.1
        rcases Nat.lt_or_ge j k with h | h
        · rw [ge_append_left _ _ _ (by omega)] at h0 ⊢
          exact H.out.2.2.1 j h h0
        · obtain rfl : j = es.length := by omega
          rw [ge_snoc]
          exact fun a ha => Nat.le_trans H.out.2.2.2.size (HF.out a ha)
    · obtain rfl : k = min n E := by omega
      obtain ⟨hel, hLR, hfr, hB⟩ := H.out
      have hzl := hLR.zl
      obtain ⟨q, cap, hv, hc1, hc2, hPL, hF, hpn⟩ := hLR.pl
      have hev := hLR.ev
      subst hv
      rw [hel] at hev hc1 hzl ⊢
      have HR : Hid (CutP n E L w (.returned (.slice q (min n E : Nat) cap)) wr) := ⟨q, _, cap, es, zs, rfl, ⟨hel, hzl, hc1, hc2, hpn, hPL, hev⟩, rfl, hF, hfr, hB⟩
      have hcs : Hid (¬ (min n E : Nat) < n ∨ ((min n E : Nat) < n ∧ ¬ (min n E : Nat) < E)) := by show _ ∨ _; omega
      generalize min n E = m at *
      clear H hLR hev hPL hF hfr hB hge
      rcases hcs.out with h1 | ⟨h1, h2⟩
      · have i1 : ¬ (m : Int) < (n : Int) := by omega
        clear h1
        go_wp2
        go_ret
        exact HR.out
      · have i1 : (m : Int) < (n : Int) := by omega
        have i2 : ¬ (m : Int) < (E : Int) := by omega
        clear h1 h2
        go_wp2
        go_ret
        exact HR.out
set_option maxHeartbeats 1000000 in
/-- ashlarlaw3.few. -/
theorem few_any {w : World} {p : Option Addr} {n nc : Nat} {es0 : List Ent} (h : PZ w p n nc es0) :
    Calls Tryz.prog 6 #[.slice p n nc] w (CutP n 9 4 w) := by
  have hc := Cut3_any h 9 4 (by decide) (by decide)
  clear h
  go_enter Tryz.func6, Tryz.ntmps6
  go_wp2_with fail
  refine hc.mono ?_
  rintro e w1 ⟨q, m, mc, fs, zs, rfl, h1, h2, h3, h4, hb1⟩
  have HR : Hid (CutP n 9 4 w (.returned (.slice q m mc)) w1) := ⟨q, m, mc, fs, zs, rfl, h1, h2, h3, h4, hb1⟩
  clear hc h1 h2 h3 h4 hb1
  go_wp2
  go_ret
  exact HR.out
end Go.Proofs.YtneejidiefkgkaaGreatDoor
/-
  What the walks of ashlarlaw3 share: a literal as an argument, From and Is for entries.
-/
namespace Go.Proofs.YtneejidiefkgkaaGreatDoor
open Go.RowKit
set_option linter.unusedVariables false
set_option linter.unusedSimpArgs false

theorem fr_mn {X W1 : World} {q : Option Addr} (h : Go.Proofs.YtneejidiefkgkaaGreatDoor.From X.heap.size q) (hs : W1.heap.size ≤ X.heap.size) : Go.Proofs.YtneejidiefkgkaaGreatDoor.From W1.heap.size q := fun a ha => Nat.le_trans hs (h a ha)
theorem pz_lit {W : World} {g : Nat} {e : Ent} (h0 : W.cell? ⟨g, 0, none⟩ = some (.bool e.s)) (h1 : W.cell? ⟨g, 1, none⟩ = some (.slice e.p e.n e.c)) (hr : RawE W e) : PZ W (some ⟨g, 0, none⟩) 1 1 [e] :=
  ⟨rfl, Nat.le_refl _, by decide, nofun, fun _ => ⟨g, 0, rfl, fun j hj => by
    obtain rfl : j = 0 := by simp at hj; omega
    exact ⟨h0, h1⟩⟩, fun j hj => by
    obtain rfl : j = 0 := by omega
    exact hr⟩
theorem cells_lit (w : World) (x y : Value) (t : Nat) : (w.alloc (.cells #[x, y] t)).cell? ⟨w.heap.size, 0, none⟩ = some x ∧ (w.alloc (.cells #[x, y] t)).cell? ⟨w.heap.size, 1, none⟩ = some y := ⟨by simp [go_sem], by simp [go_sem]⟩
theorem rFrom_e {w : World} {K : Nat} {z : Int} {e : Ent} (h : EV w K z e) :
    Calls Tryz.prog 23 #[.agg #[.bool e.s, .slice e.p e.n e.c]] w fun r w' => ∃ u : Ent, r = .returned (.agg #[.bool u.s, .slice u.p u.n u.c]) ∧ RE w' (2 * K) z u ∧ Go.Proofs.YtneejidiefkgkaaGreatDoor.From w.heap.size u.p ∧ Below w.heap.size w w' := by
  obtain ⟨xs, h1, h2, h3⟩ := h
  refine (From_ansF e.s e.p e.n e.c xs w h1).mono ?_
  rintro r w1 ⟨s, p, n, d, rfl, h4, h5, h6, h7, h8⟩
  exact ⟨⟨s, p, n, n⟩, rfl, ⟨⟨d, h4, by rw [h5, h2], by show n ≤ _; omega⟩, rfl⟩, h7, h8⟩
theorem rIs_en {B : Nat} {w : World} {K N : Nat} {z : Int} {e f : Ent} (h : NV B w K z e) (k : RE w N z f) (hK : K ≤ 1000) (hN : N ≤ 1000) :
    Calls Tryz.prog 30 #[.agg #[.bool e.s, .slice e.p e.n e.c], .agg #[.bool f.s, .slice f.p f.n f.c]] w fun r w' => r = .returned (.bool true) ∧ Below w.heap.size w w' := by
  obtain ⟨xs, k1, k2, k3⟩ := h
  obtain ⟨⟨ds, l1, l2, l3⟩, l4⟩ := k
  rw [k2, l4]
  exact rIs_rn k1 (by omega) l1 (by omega) l2
end Go.Proofs.YtneejidiefkgkaaGreatDoor
/-
  upoly: (prime).rest.
-/
namespace Go.Proofs.YtneejidiefkgkaaGreatDoor
open Go.RowKit
set_option linter.unusedVariables false
set_option linter.unusedSimpArgs false

/-- A row of rest: c times bs is added from the place o on. -/
def rstep (m c : Int) (bs : List Int) (o : Nat) : Nat → List Int → List Int
  | 0, Z => Z
  | t + 1, Z => (rstep m c bs o t Z).set (o + t) ((gx Z (o + t) + c * gx bs t) % m)
/-- What rest makes of a. -/
def rrest (m : Int) (bs : List Int) (n : Nat) : Nat → List Int → List Int
  | 0, Z => Z
  | j + 1, Z => rrest m bs n j (if (0 - gx Z (n + j)) % m = 0 then Z else rstep m ((0 - gx Z (n + j)) % m) bs j n Z)
theorem length_rstep (m c : Int) (bs : List Int) (o : Nat) : ∀ t Z, (rstep m c bs o t Z).length = Z.length
  | 0, Z => rfl
  | t + 1, Z => by rw [rstep, List.length_set, length_rstep m c bs o t Z]
theorem length_rrest (m : Int) (bs : List Int) (n : Nat) : ∀ j Z, (rrest m bs n j Z).length = Z.length
  | 0, Z => rfl
  | j + 1, Z => by
    rw [rrest, length_rrest m bs n j]
    split
    · rfl
    · rw [length_rstep]
theorem gx_set_ne' (Z : List Int) (i j : Nat) (v : Int) (h : i ≠ j) : gx (Z.set i v) j = gx Z j := by
  unfold gx
  rw [List.getD_eq_getElem?_getD, List.getD_eq_getElem?_getD, List.getElem?_set_ne h]
theorem gx_rstep_ge (m c : Int) (bs : List Int) (o : Nat) : ∀ t Z j, o + t ≤ j → gx (rstep m c bs o t Z) j = gx Z j
  | 0, Z, j, _ => rfl
  | t + 1, Z, j, h => by
    rw [rstep, gx_set_ne' _ _ _ _ (by omega)]
    exact gx_rstep_ge m c bs o t Z j (by omega)
/-- Residues. -/
def Res (m : Int) (xs : List Int) : Prop := ∀ j, 0 ≤ gx xs j ∧ gx xs j < m
theorem Res.set {m : Int} {xs : List Int} (h : Res m xs) (i : Nat) (v : Int) (h0 : 0 ≤ v) (h1 : v < m) : Res m (xs.set i v) := fun j => by
  by_cases e : i = j
  · subst e
    rcases Nat.lt_or_ge i xs.length with hl | hl
    · rw [gx_mem _ _ (by rw [List.length_set]; exact hl)]
      simp [h0, h1]
    · have := h i
      rw [gx_past xs xs.length (Nat.le_refl _) i hl] at this
      rw [gx_past (xs.set i v) xs.length (by simp) i hl]
      exact this
  · rw [gx_set_ne' _ _ _ _ e]
    exact h j
theorem Res.rstep {m c : Int} {bs Z : List Int} {o : Nat} (h : Res m Z) (hm : 2 ≤ m) : ∀ t, Res m (rstep m c bs o t Z)
  | 0 => h
  | t + 1 => by
    rw [Go.Proofs.YtneejidiefkgkaaGreatDoor.rstep]
    exact (Res.rstep h hm t).set _ _ (Int.emod_nonneg _ (by omega)) (Int.emod_lt_of_pos _ (by omega))
theorem Res.rrest {m : Int} {bs : List Int} {n : Nat} (hm : 2 ≤ m) : ∀ j {Z : List Int}, Res m Z → Res m (rrest m bs n j Z)
  | 0, _, h => h
  | j + 1, _, h => by
    rw [Go.Proofs.YtneejidiefkgkaaGreatDoor.rrest]
    refine Res.rrest hm j ?_
    split
    · exact h
    · exact h.rstep hm n
set_option maxHeartbeats 4000000 in
set_option maxRecDepth 100000 in
/-- (upoly.prime).rest. -/
theorem rest_any (g na ca : Nat) (Z : List Int) (q : Option Addr) (n nb bc : Nat) (bs : List Int) (m : Int) (w : World) (hnb : nb = n + 1) (hna : na ≤ Z.length) (hca : na ≤ ca) (hcZ : ca ≤ 100000) (hR : Row w g 94 .u64 Z) (hZ : Res m Z) (hl : bs.length = nb) (hn : n ≤ 100000) (hB : Rd w q .u64 bs) (hb : Res m bs) (hoff : Off g q) (hm : 2 ≤ m) (hm2 : m ≤ 2147483647) :
    Calls Tryz.prog 119 #[.int .u64 m, .slice (some ⟨g, 0, none⟩) na ca, .slice q nb bc] w fun e w' => e = .returned (.slice (some ⟨g, 0, none⟩) (tlen ((rrest m bs n (na - n) Z).take (min n na))) ca) ∧ Row w' g 94 .u64 (rrest m bs n (na - n) Z) ∧ w.grownBy w' (some g) := by
  have HB : Hid (Rd w q .u64 bs ∧ Res m bs) := ⟨hB, hb⟩
  clear hB hb
  have HZ : Hid (Res m Z) := hZ
  have HR : Hid (Row w g 94 .u64 Z) := hR
  clear hZ hR
  have hnI : (nb : Int) - 1 = (n : Int) := by omega
  have hn1 : n < nb := by omega
  have hn2 : nb ≤ n + 1 := by omega
  clear hnb
  have hnW : IntKind.i64.wrap (n : Int) = (n : Int) := by rw [IntKind.wrap_i64]; omega
  go_enter Tryz.func119, Tryz.ntmps119
  go_wp2_with fail
  go_loopw [8, 9, 10, 11] (fun kv cv rv jv wr => ∃ (t : Nat) (Y : List Int), t ≤ na - n ∧ kv = .int .i64 (((na : Int) - 1) - ((na - n - t : Nat) : Int)) ∧ Y.length = Z.length ∧ Hid (rrest m bs n t Y = rrest m bs n (na - n) Z ∧ Res m Y ∧ Row wr g 94 .u64 Y ∧ w.grownBy wr (some g))) (fun kv _ _ _ _ => (intOf kv + 1 - n).toNat)
  case atStart => exact ⟨na - n, Z, Nat.le_refl _, by go_num, rfl, rfl, HZ.out, HR.out, grownBy_refl _ _⟩
  case round =>
    obtain ⟨t, Y, ht, rfl, hY, H⟩ := hrel
    rcases Nat.eq_zero_or_pos t with h0 | h0
    · subst h0
      obtain ⟨e1, e2, e3, e4⟩ := H.out
      rw [rrest] at e1
      subst e1
      have hc1 : ¬ (n : Int) ≤ (na : Int) - 1 - ((na - n - 0 : Nat) : Int) := by omega
      obtain ⟨M, hM1, hM2⟩ : ∃ M : Nat, min (n : Int) (na : Int) = (M : Int) ∧ M = min n na := ⟨min n na, by omega, rfl⟩
      have hM3 : (M : Int) ≤ (ca : Int) := by omega
      have HM : Hid (M = min n na) := hM2
      have HI : Hid (Row wr g 94 .u64 (rrest m bs n (na - n) Z) ∧ w.grownBy wr (some g)) := ⟨e3, e4⟩
      clear H e2 e3 e4 hM2
      go_wp2_with fail
      refine (trimRes_any _ M ca ((rrest m bs n (na - n) Z).take M) wr (by rw [List.length_take, hY, HM.out]; omega) (by omega) (by omega) (HI.out.1.rd_take M)).mono ?_
      rintro e w1 ⟨rfl, rfl⟩
      go_wp2
      go_ret
      rw [← HM.out]
      exact ⟨rfl, HI.out⟩
    · obtain ⟨s, rfl⟩ : ∃ s, t = s + 1 := ⟨t - 1, by omega⟩
      have hk : (na : Int) - 1 - ((na - n - (s + 1) : Nat) : Int) = ((n + s : Nat) : Int) := by omega
      rw [hk]
      obtain ⟨e1, e2, e3, e4⟩ := H.out
      rw [rrest] at e1
      have c0 := e3.cell (n + s) (by omega)
      obtain ⟨y0, y1⟩ := e2 (n + s)
      have hbd1 : ((n + s : Nat) : Int) < (na : Int) := by omega
      have HI : Hid (Res m Y ∧ Row wr g 94 .u64 Y ∧ w.grownBy wr (some g)) := ⟨e2, e3, e4⟩
      have HE : Hid (rrest m bs n s (if (0 - gx Y (n + s)) % m = 0 then Y else rstep m ((0 - gx Y (n + s)) % m) bs s n Y) = rrest m bs n (na - n) Z) := e1
      clear H e1 e2 e3 e4
      go_wp2_with fail
      refine (minus_any m 0 (gx Y (n + s)) _ hm hm2 (by decide) (by omega) y0 y1).mono ?_
      rintro e w1 ⟨rfl, rfl⟩
      have q0 := Int.emod_nonneg (0 - gx Y (n + s)) (show m ≠ 0 by omega)
      have q1 := Int.emod_lt_of_pos (0 - gx Y (n + s)) (show 0 < m by omega)
      generalize (0 - gx Y (n + s)) % m = c at *
      by_cases hc : c = 0
      · have HC : Hid (c = 0) := hc
        have hc' : (c == 0) = true := by rw [beq_iff_eq]; exact hc
        clear hc
        go_wp2
        go_roundw
        case rel =>
          refine ⟨s, Y, by omega, by go_num, hY, ?_, HI.out⟩
          have := HE.out
          rwa [if_pos HC.out] at this
        case measure => simp [intOf]; omega
      · have hc' : (c == 0) = false := by rw [beq_eq_false_iff_ne]; exact hc
        have HE2 : Hid (rrest m bs n s (rstep m c bs s n Y) = rrest m bs n (na - n) Z) := by have := HE.out; rwa [if_neg hc] at this
        clear HE
        have hs1 : ((n + s : Nat) : Int) - (n : Int) = (s : Int) := by omega
        have hs2 : ((n + s : Nat) : Int) ≤ (ca : Int) := by omega
        have hs3 : (s : Int) ≤ ((n + s : Nat) : Int) := by omega
        have hs4 : ((n + s : Nat) : Int) - (s : Int) = (n : Int) := by omega
        have hs5 : IntKind.i64.wrap (s : Int) = (s : Int) := by rw [IntKind.wrap_i64]; omega
        have HYr : Hid (Res m Y) := HI.out.1
        go_wp2_with fail
        have hx1 : n + s - n = s := by omega
        have hx2 : n + s - s = n := by omega
        simp only [hx1, hx2]
        clear hx1 hx2
        go_loopw [11, 39] (fun jv kv wi => ∃ j : Nat, j ≤ n ∧ kv = .int .i64 j ∧ Hid (Row wi g 94 .u64 (rstep m c bs s j Y) ∧ w.grownBy wi (some g))) (fun _ kv _ => n - (intOf kv).toNat)
        case atStart => exact ⟨0, Nat.zero_le _, by go_num, HI.out.2⟩
        case round =>
          obtain ⟨j, hj, rfl, H⟩ := hrel
          rcases Nat.lt_or_ge j n with hlt | hge
          · obtain ⟨r1, r2⟩ := H.out
            obtain ⟨b, off, rfl, hcell⟩ := (HB.out.1.keptOff r2 hoff) (by omega)
            have d0 := hcell j (by omega)
            have d1 := r1.cell (s + j) (by rw [length_rstep]; omega)
            rw [gx_rstep_ge m c bs s j Y (s + j) (Nat.le_refl _)] at d1
            have f1 := r1.frozen (s + j)
            obtain ⟨u0, u1⟩ := HYr.out (s + j)
            obtain ⟨v0, v1⟩ := HB.out.2 j
            obtain ⟨p0, p1⟩ := mul_bdp q0 v0 q1 v1 hm2
            have HH : Hid (Row wr g 94 .u64 (rstep m c bs s j Y) ∧ w.grownBy wr (some g)) := ⟨r1, r2⟩
            have hj1 : (j : Int) < (nb : Int) := by omega
            have HV : Hid (rstep m c bs s (j + 1) Y = (rstep m c bs s j Y).set (s + j) ((gx Y (s + j) + c * gx bs j) % m)) := rfl
            clear hcell r1 r2 H
            generalize hP : c * gx bs j = P at *
            have HP := (show Hid _ from hP)
            clear hP
            have hm0 : ¬ m = 0 := by omega
            have hm0' : (m == 0) = false := by rw [beq_eq_false_iff_ne]; exact hm0
            have e1 : IntKind.u64.wrap P = P := by rw [IntKind.wrap_u64]; omega
            have e2 : IntKind.u64.wrap (gx Y (s + j) + P) = gx Y (s + j) + P := by rw [IntKind.wrap_u64]; omega
            have e3 : (gx Y (s + j) + P).tmod m = (gx Y (s + j) + P) % m := Int.tmod_eq_emod_of_nonneg (by omega)
            have e4 := Int.emod_nonneg (gx Y (s + j) + P) hm0
            have e5 := Int.emod_lt_of_pos (gx Y (s + j) + P) (show 0 < m by omega)
            have e6 : IntKind.u64.wrap ((gx Y (s + j) + P) % m) = (gx Y (s + j) + P) % m := by rw [IntKind.wrap_u64]; omega
            go_wp2_with fail
            go_still_tail 15, (by kernel_rfl)
            go_wp2
            go_roundw
            case rel =>
              obtain ⟨r1, r2⟩ := HH.out
              refine ⟨j + 1, by omega, by go_num, ?_, grownBy_drew (grownBy_setCell r2 _ _)⟩
              rw [HV.out, HP.out, e1, e2, e3]
              exact (r1.set (s + j) _).drew
            case measure => simp [intOf]; omega
          · obtain rfl : j = n := by omega
            obtain ⟨r1, r2⟩ := H.out
            have HH : Hid (Row wr g 94 .u64 (rstep m c bs s j Y) ∧ w.grownBy wr (some g)) := ⟨r1, r2⟩
            clear H r1 r2 hge
            go_wp2
            go_roundw
            case rel =>
              refine ⟨s, rstep m c bs s j Y, by omega, by go_num, by rw [length_rstep]; exact hY, HE2.out, HYr.out.rstep hm j, HH.out⟩
            case measure => simp [intOf]; omega
end Go.Proofs.YtneejidiefkgkaaGreatDoor
