/-
  The set-up of layer 4's laws answers true, in whatever memory, and leaves what was there.
-/
import Derived.Test.YtejnhpjejcpekaaGreatDoorG9
import Derived.Test.YtejnhpjejcpekaaGreatDoorProg
import Derived.Test.YtejnhpjejcpekaaGreatDoorRfRhCqRrRw
import Derived.Test.YtejnhpjejcpekaaGreatDoorVbDaCxRbCyViVuWxUpUq
import Derived.Test.YtejnhpjejcpekaaGreatDoorVaVgRo
import Derived.Test.YtejnhpjejcpekaaGreatDoorCuOaOfJpDhFr
import Derived.Test.YtejnhpjejcpekaaGreatDoorWhPnWkWlBxBbCvNj
namespace Go.Proofs.YtejnhpjejcpekaaGreatDoor
open Go.RowKit
set_option maxHeartbeats 8000000
theorem nong4 : Ev.NoNG Tryz.prog := Ev.nong_of (by kernel_rfl)
theorem begun4_any (w : World) : Calls Tryz.prog 9 #[] w fun r w' => r = .returned (.bool true) ∧ Below w.heap.size w w' :=
  Ev.closed_call nong4 (by kernel_rfl) (n := 100000) (by kernel_rfl) w
set_option linter.unusedVariables false
set_option linter.unusedSimpArgs false
set_option maxRecDepth 100000 in
theorem rIs_any {B : Nat} {w : World} {s t : Bool} {p q : Option Addr} {n m mc : Nat} {xs ds : List Int} {z : Int} (h : NI B w s p n xs z) (hn : n ≤ 1000) (hl : ds.length = m) (hm : m ≤ 1000) (hX : Rd w q .i64 ds) (hU : U16 ds) (hnr : tlen ds = m) (hs : m = 0 → t = false) (hv : rval t ds = z) :
    Calls Tryz.prog 52 #[.agg #[.bool s, .slice p n n], .agg #[.bool t, .slice q m mc]] w fun e w' => e = .returned (.bool true) ∧ Below w.heap.size w w' := by
  go_enter Tryz.func52, Tryz.ntmps52
  go_wp2_with fail
  have hX2 := boxes2 w (.bool s) (.slice p n n) (.bool t) (.slice q m mc) 26 34
  generalize ((w.alloc (Obj.cells #[Value.bool s, Value.slice p n n] 26)).alloc (Obj.cells #[Value.bool t, Value.slice q m mc] 34)) = W at *
  have k0 := hX2.ca0
  have k1 := hX2.ca1
  have k2 := hX2.cb0
  have k3 := hX2.cb1
  go_region_held3 (fun w' => w'.cell? ⟨w.heap.size, 0, none⟩ = some (.bool s) ∧ w'.cell? ⟨w.heap.size, 1, none⟩ = some (.slice p n n) ∧ w'.cell? ⟨w.heap.size + 1, 0, none⟩ = some (.bool t) ∧ w'.cell? ⟨w.heap.size + 1, 1, none⟩ = some (.slice q m mc)) (first | exact ⟨by assumption, by assumption, by assumption, by assumption⟩ | exact keepc4 (by assumption) (by assumption))
    (first
      | (go_at_call 40; refine (rTo_any t q m mc ds _ hl hm (hX.below hX2.below).drew hU).mono ?_; rintro e w1 ⟨p', m', cap, rfl, hA1, hm', hb1⟩)
      | (go_at_call 113; have h1 := h.below (bnext' hX2.below (undrew hb1)); have h2 : NN t (jn ds m') z := nn_jn hU (by omega) (fun e => hs (by omega)) hv (by have := hm'.out; omega); refine (rEq_nn h1 hA1 h2 hn).mono ?_; rintro e w2 ⟨rfl, hb2⟩))
  go_wp2
  go_ret
  exact ⟨rfl, bnext' (bnext' hX2.below (undrew hb1)) hb2⟩
theorem info_apiI : (Tryz.prog.info? 26).map (fun i => (i.zero, i.size, i.bytes)) = some (some (.agg #[.bool false, .slice none 0 0]), 2, 32) := by kernel_rfl
def CutP (n E L : Nat) (w : World) (e : Ending) (w' : World) : Prop :=
  ∃ q m mc fs zs, e = .returned (.slice q m mc) ∧ PA w' L q m mc fs zs ∧ m = min n E ∧ Go.Proofs.YtejnhpjejcpekaaGreatDoor.From w.heap.size q ∧ (∀ j, j < m → 0 < (ge fs j).n → Go.Proofs.YtejnhpjejcpekaaGreatDoor.From w.heap.size (ge fs j).p) ∧ Below w.heap.size w w'
theorem ai_take {w : World} {p : Option Addr} {n nc : Nat} {xs : List Int} (h : AI w p n nc xs) (m : Nat) (hm : m ≤ n) : AI w p m nc (xs.take m) :=
  ⟨by have := h.len; simp; omega, by have := h.cap; omega, h.bnd, by have := h.sml; omega, h.rd.take m, u32_take h.u m⟩
set_option maxRecDepth 100000 in
theorem Cut3_any {w : World} {p : Option Addr} {n nc : Nat} {es0 : List Ent} (h : PZ w p n nc es0) (E L : Nat) (hE : E ≤ 1000) (hL : L ≤ 24) :
    Calls Tryz.prog 11 #[.slice p n nc, .int .i64 E, .int .i64 L] w (CutP n E L w) := by
  obtain ⟨i0, hi, hzz⟩ := Option.map_eq_some_iff.1 info_apiI
  simp only [Prod.mk.injEq] at hzz
  obtain ⟨hz0, hz1, hz2⟩ := hzz
  have HI : Hid (Tryz.prog.info? 26 = some i0 ∧ i0.zero = some (.agg #[.bool false, .slice none 0 0]) ∧ i0.size = 2 ∧ i0.bytes = 32) := ⟨hi, hz0, hz1, hz2⟩
  have HX : Hid (PZ w p n nc es0) := h
  have hnm : n ≤ 9223372036854775807 := by have h1 := h.cap; have h2 := h.bnd; unfold maxLen at h2; omega
  clear h hi hz0 hz1 hz2
  go_enter Tryz.func11, Tryz.ntmps11
  go_wp2_with fail
  go_loopw [7, 8, 9] (fun qv iv av wr => ∃ (k : Nat) (es : List Ent) (zs : List Int), k ≤ min n E ∧ iv = .int .i64 k ∧ Hid (es.length = k ∧ LG w.heap.size 26 (fun w z e => EV w L z e) wr qv es zs ∧ (∀ j, j < k → 0 < (ge es j).n → Go.Proofs.YtejnhpjejcpekaaGreatDoor.From w.heap.size (ge es j).p) ∧ Below w.heap.size w wr)) (fun _ iv _ _ => min n E - (intOf iv).toNat)
  case atStart => exact ⟨0, [], [], Nat.zero_le _, by go_num, rfl, LG.nil _ _ _ _, fun j hj => absurd hj (by omega), Below.refl _ _⟩
  case round =>
    obtain ⟨k, es, zs, hk, rfl, H⟩ := hrel
    rcases Nat.lt_or_ge k (min n E) with hlt | hge
    · obtain ⟨hel, hLR, hfr, hB⟩ := H.out
      have hPA := HX.out.below hB
      obtain ⟨b, o, hp, hc⟩ := hPA.pl (by rw [hPA.el]; omega)
      subst hp
      obtain ⟨c0, c1⟩ := hc k (by rw [hPA.el]; omega)
      obtain ⟨xs, r1, r2, r3, r4, r5, r6⟩ := hPA.ev k (by omega)
      have i1 : (k : Int) < (n : Int) := by omega
      have i2 : (k : Int) < (E : Int) := by omega
      clear hel hLR hB hc hPA hfr
      go_wp2_with fail
      refine (Cut_any (ge es0 k).s (ge es0 k).p (ge es0 k).n (ge es0 k).c xs wr r1 r2 r3 r4 r5 r6).mono ?_
      rintro e w1 ⟨p1, n1, c1', rfl, hA1, hn1, hF1, hb1⟩
      generalize (ge es0 k).s = s1
      clear c0 c1 r1 r2 r3 r4 r5 r6
      have hcap1 := hA1.cap
      have hbnd1 := hA1.bnd
      unfold maxLen at hbnd1
      obtain ⟨hi, hz0, hz1, hz2⟩ := HI.out
      rcases Nat.lt_or_ge L n1 with hgt | hle
      · have j1 : (L : Int) < (n1 : Int) := by omega
        have j2 : (L : Int) ≤ (c1' : Int) := by omega
        have HA1 : Hid (AI w1 p1 L c1' ((xs.take 24).take L)) := ai_take hA1 L (by omega)
        clear hA1
        go_upto_region 8 with fail
        have hX2 : Bx (w1.alloc (.cells #[.bool s1, .slice p1 L c1'] 26)) w1.heap.size (.bool s1) (.slice p1 L c1') := Bx.new _ _ _ rfl
        have hal := bel_al (o := .cells #[.bool s1, .slice p1 L c1'] 26) (Below.refl w1.heap.size w1)
        have hb2 := bnext' hb1 hal
        have hA2 := HA1.out.below hal
        clear HA1 hal
        generalize w1.alloc (.cells #[.bool s1, .slice p1 L c1'] 26) = W2 at *
        obtain ⟨q0, q1, -, -⟩ := hX2
        have HE : Hid (EV W2 L (ival s1 ((xs.take 24).take L)) ⟨s1, p1, L, c1'⟩) := ⟨((xs.take 24).take L), hA2, rfl, by show L ≤ L; omega⟩
        have hown0 := own_below H.out.2.1.own hb2
        rw [H.out.1] at hown0
        have HO : Hid (W2.ownsRow w.heap.size 26 2 u7 k (fl es)) := hown0
        have hsz : w.heap.size ≤ W2.heap.size := Nat.le_trans H.out.2.2.2.size hb2.size
        have HF : Hid (Go.Proofs.YtejnhpjejcpekaaGreatDoor.From wr.heap.size p1) := hF1
        clear hown0 hA2 hF1 hb1
        go_wp2_with (refine wpList_append_lies _ rfl _ _ 23 rfl w.heap.size 26 i0 (.agg #[.bool false, .slice none 0 0]) 2 32 Tryz.underlying23 hi hz0 hz1 hz2 rfl (by decide) u7 k (fl es) rfl (HO.out.alloc _) ⟨W2.heap.size, 0, none⟩ 1 1 [.bool s1, .slice p1 L c1'] rfl rfl ?_ (fun x hx => by simp at hx; rcases hx with rfl | rfl <;> rfl) (by decide) (by unfold maxLen; omega) (by omega) (by simp; omega) _ rfl ?_; exact World.news_of_block (heap_alloc_new W2 _); intro g cap w3 hown3 hgrow3 hat3 hlt3; have hB3 : Below w.heap.size w w3 := ((bnext' H.out.2.2.2 hb2).alloc hsz _).grown hgrow3 (by simp; omega) (fun q hq => (HO.out.lt q hq).1); have HA : Hid (LG w.heap.size 26 (fun w z e => EV w L z e) w3 (.slice (some ⟨g, 0, none⟩) (k + 1) cap) (es ++ [⟨s1, p1, L, c1'⟩]) (zs ++ [ival s1 ((xs.take 24).take L)])) := lg_app (lasts_EV _) H.out.1 H.out.2.1 hb2 HE.out HF.out hown3 hgrow3 hat3; clear hown3 hgrow3 hat3)
        refine ⟨⟨k + 1, es ++ [⟨s1, p1, L, c1'⟩], zs ++ [ival s1 ((xs.take 24).take L)], by omega, by go_num, by have := H.out.1; simp; omega, HA.out, fun j hj h0 => ?_, hB3⟩, by simp [intOf]; omega⟩
        have hel := H.out.1
        rcases Nat.lt_or_ge j k with h | h
        · rw [ge_append_left _ _ _ (by omega)] at h0 ⊢
          exact H.out.2.2.1 j h h0
        · obtain rfl : j = es.length := by omega
          rw [ge_snoc]
          exact fun a ha => Nat.le_trans H.out.2.2.2.size (HF.out a ha)
      · have j1 : ¬ (L : Int) < (n1 : Int) := by omega
        have HA1 : Hid (AI w1 p1 n1 c1' (xs.take 24)) := hA1
        clear hA1
        go_upto_region 8 with fail
        have hX2 : Bx (w1.alloc (.cells #[.bool s1, .slice p1 n1 c1'] 26)) w1.heap.size (.bool s1) (.slice p1 n1 c1') := Bx.new _ _ _ rfl
        have hal := bel_al (o := .cells #[.bool s1, .slice p1 n1 c1'] 26) (Below.refl w1.heap.size w1)
        have hb2 := bnext' hb1 hal
        have hA2 := HA1.out.below hal
        clear HA1 hal
        generalize w1.alloc (.cells #[.bool s1, .slice p1 n1 c1'] 26) = W2 at *
        obtain ⟨q0, q1, -, -⟩ := hX2
        have HE : Hid (EV W2 L (ival s1 (xs.take 24)) ⟨s1, p1, n1, c1'⟩) := ⟨(xs.take 24), hA2, rfl, by show n1 ≤ L; omega⟩
        have hown0 := own_below H.out.2.1.own hb2
        rw [H.out.1] at hown0
        have HO : Hid (W2.ownsRow w.heap.size 26 2 u7 k (fl es)) := hown0
        have hsz : w.heap.size ≤ W2.heap.size := Nat.le_trans H.out.2.2.2.size hb2.size
        have HF : Hid (Go.Proofs.YtejnhpjejcpekaaGreatDoor.From wr.heap.size p1) := hF1
        clear hown0 hA2 hF1 hb1
        go_wp2_with (refine wpList_append_lies _ rfl _ _ 23 rfl w.heap.size 26 i0 (.agg #[.bool false, .slice none 0 0]) 2 32 Tryz.underlying23 hi hz0 hz1 hz2 rfl (by decide) u7 k (fl es) rfl (HO.out.alloc _) ⟨W2.heap.size, 0, none⟩ 1 1 [.bool s1, .slice p1 n1 c1'] rfl rfl ?_ (fun x hx => by simp at hx; rcases hx with rfl | rfl <;> rfl) (by decide) (by unfold maxLen; omega) (by omega) (by simp; omega) _ rfl ?_; exact World.news_of_block (heap_alloc_new W2 _); intro g cap w3 hown3 hgrow3 hat3 hlt3; have hB3 : Below w.heap.size w w3 := ((bnext' H.out.2.2.2 hb2).alloc hsz _).grown hgrow3 (by simp; omega) (fun q hq => (HO.out.lt q hq).1); have HA : Hid (LG w.heap.size 26 (fun w z e => EV w L z e) w3 (.slice (some ⟨g, 0, none⟩) (k + 1) cap) (es ++ [⟨s1, p1, n1, c1'⟩]) (zs ++ [ival s1 (xs.take 24)])) := lg_app (lasts_EV _) H.out.1 H.out.2.1 hb2 HE.out HF.out hown3 hgrow3 hat3; clear hown3 hgrow3 hat3)
        refine ⟨⟨k + 1, es ++ [⟨s1, p1, n1, c1'⟩], zs ++ [ival s1 (xs.take 24)], by omega, by go_num, by have := H.out.1; simp; omega, HA.out, fun j hj h0 => ?_, hB3⟩, by simp [intOf]; omega⟩
        have hel := H.out.1
        rcases Nat.lt_or_ge j k with h | h
        · rw [ge_append_left _ _ _ (by omega)] at h0 ⊢
          exact H.out.2.2.1 j h h0
        · obtain rfl : j = es.length := by omega
          rw [ge_snoc]
          exact fun a ha => Nat.le_trans H.out.2.2.2.size (HF.out a ha)
    · obtain rfl : k = min n E := by omega
      obtain ⟨hel, hLR, hfr, hB⟩ := H.out
      have hzl := hLR.zl
      obtain ⟨q, cap, hv, hc1, hc2, hPL, hF, hpn⟩ := hLR.pl
      have hev := hLR.ev
      subst hv
      rw [hel] at hev hc1 hzl ⊢
      have HR : Hid (CutP n E L w (.returned (.slice q (min n E : Nat) cap)) wr) := ⟨q, _, cap, es, zs, rfl, ⟨hel, hzl, hc1, hc2, hpn, hPL, hev⟩, rfl, hF, hfr, hB⟩
      have hcs : Hid (¬ (min n E : Nat) < n ∨ ((min n E : Nat) < n ∧ ¬ (min n E : Nat) < E)) := by show _ ∨ _; omega
      generalize min n E = m at *
      clear H hLR hev hPL hF hfr hB hge
      rcases hcs.out with h1 | ⟨h1, h2⟩
      · have i1 : ¬ (m : Int) < (n : Int) := by omega
        clear h1
        go_wp2
        go_ret
        exact HR.out
      · have i1 : (m : Int) < (n : Int) := by omega
        have i2 : ¬ (m : Int) < (E : Int) := by omega
        clear h1 h2
        go_wp2
        go_ret
        exact HR.out
end Go.Proofs.YtejnhpjejcpekaaGreatDoor
