/-
  ashlarlaw3.Cut, few.
-/
import Derived.Test.YtgecfnoecmjacaaGreatDoorRbCyVi
import Derived.Test.YtgecfnoecmjacaaGreatDoorCuOaOfJpRzCw
import Derived.Test.YtgecfnoecmjacaaGreatDoorVuVvUdLnWrIb
import Derived.Test.YtgecfnoecmjacaaGreatDoorVqUj
namespace Go.Proofs.YtgecfnoecmjacaaGreatDoor
open Go.RowKit
set_option linter.unusedVariables false
set_option linter.unusedSimpArgs false

theorem info_apiI : (Tryz.prog.info? 26).map (fun i => (i.zero, i.size, i.bytes)) = some (some (.agg #[.bool false, .slice none 0 0]), 2, 32) := by kernel_rfl
/-- What Cut of a polynomial answers. -/
def CutP (n E L : Nat) (w : World) (e : Ending) (w' : World) : Prop :=
  ∃ q m mc fs zs, e = .returned (.slice q m mc) ∧ PA w' L q m mc fs zs ∧ m = min n E ∧ Go.Proofs.YtgecfnoecmjacaaGreatDoor.From w.heap.size q ∧ (∀ j, j < m → 0 < (ge fs j).n → Go.Proofs.YtgecfnoecmjacaaGreatDoor.From w.heap.size (ge fs j).p) ∧ Below w.heap.size w w'
theorem ai_take {w : World} {p : Option Addr} {n nc : Nat} {xs : List Int} (h : AI w p n nc xs) (m : Nat) (hm : m ≤ n) : AI w p m nc (xs.take m) :=
  ⟨by have := h.len; simp; omega, by have := h.cap; omega, h.bnd, by have := h.sml; omega, h.rd.take m, u32_take h.u m⟩
set_option maxHeartbeats 4000000 in
set_option maxRecDepth 100000 in
/-- ashlarlaw3.Cut. -/
theorem Cut3_any {w : World} {p : Option Addr} {n nc : Nat} {es0 : List Ent} (h : PZ w p n nc es0) (E L : Nat) (hE : E ≤ 1000) (hL : L ≤ 24) :
    Calls Tryz.prog 35 #[.slice p n nc, .int .i64 E, .int .i64 L] w (CutP n E L w) := by
  obtain ⟨i0, hi, hzz⟩ := Option.map_eq_some_iff.1 info_apiI
  simp only [Prod.mk.injEq] at hzz
  obtain ⟨hz0, hz1, hz2⟩ := hzz
  have HI : Hid (Tryz.prog.info? 26 = some i0 ∧ i0.zero = some (.agg #[.bool false, .slice none 0 0]) ∧ i0.size = 2 ∧ i0.bytes = 32) := ⟨hi, hz0, hz1, hz2⟩
  have HX : Hid (PZ w p n nc es0) := h
  have hnm : n ≤ 9223372036854775807 := by have h1 := h.cap; have h2 := h.bnd; unfold maxLen at h2; omega
  clear h hi hz0 hz1 hz2
  go_enter Tryz.func35, Tryz.ntmps35
  go_wp2_with fail
  go_loopw [7, 8, 9] (fun qv iv av wr => ∃ (k : Nat) (es : List Ent) (zs : List Int), k ≤ min n E ∧ iv = .int .i64 k ∧ Hid (es.length = k ∧ LG w.heap.size 26 (fun w z e => EV w L z e) wr qv es zs ∧ (∀ j, j < k → 0 < (ge es j).n → Go.Proofs.YtgecfnoecmjacaaGreatDoor.From w.heap.size (ge es j).p) ∧ Below w.heap.size w wr)) (fun _ iv _ _ => min n E - (intOf iv).toNat)
  case atStart => exact ⟨0, [], [], Nat.zero_le _, by go_num, rfl, LG.nil _ _ _ _, fun j hj => absurd hj (by omega), Below.refl _ _⟩
  case round =>
    obtain ⟨k, es, zs, hk, rfl, H⟩ := hrel
    rcases Nat.lt_or_ge k (min n E) with hlt | hge
    · obtain ⟨hel, hLR, hfr, hB⟩ := H.out
      have hPA := HX.out.below hB
      obtain ⟨b, o, hp, hc⟩ := hPA.pl (by rw [hPA.el]; omega)
      subst hp
      obtain ⟨c0, c1⟩ := hc k (by rw [hPA.el]; omega)
      obtain ⟨xs, r1, r2, r3, r4, r5, r6⟩ := hPA.ev k (by omega)
      have i1 : (k : Int) < (n : Int) := by omega
      have i2 : (k : Int) < (E : Int) := by omega
      clear hel hLR hB hc hPA hfr
      go_wp2_with fail
      refine (Cut_any (ge es0 k).s (ge es0 k).p (ge es0 k).n (ge es0 k).c xs wr r1 r2 r3 r4 r5 r6).mono ?_
      rintro e w1 ⟨p1, n1, c1', rfl, hA1, hn1, hF1, hb1⟩
      generalize (ge es0 k).s = s1
      clear c0 c1 r1 r2 r3 r4 r5 r6
      have hcap1 := hA1.cap
      have hbnd1 := hA1.bnd
      unfold maxLen at hbnd1
      obtain ⟨hi, hz0, hz1, hz2⟩ := HI.out
      rcases Nat.lt_or_ge L n1 with hgt | hle
      · have j1 : (L : Int) < (n1 : Int) := by omega
        have j2 : (L : Int) ≤ (c1' : Int) := by omega
        have HA1 : Hid (AI w1 p1 L c1' ((xs.take 24).take L)) := ai_take hA1 L (by omega)
        clear hA1
        go_upto_region 8 with fail
        have hX2 : Bx (w1.alloc (.cells #[.bool s1, .slice p1 L c1'] 26)) w1.heap.size (.bool s1) (.slice p1 L c1') := Bx.new _ _ _ rfl
        have hal := bel_al (o := .cells #[.bool s1, .slice p1 L c1'] 26) (Below.refl w1.heap.size w1)
        have hb2 := bnext' hb1 hal
        have hA2 := HA1.out.below hal
        clear HA1 hal
        generalize w1.alloc (.cells #[.bool s1, .slice p1 L c1'] 26) = W2 at *
        obtain ⟨q0, q1, -, -⟩ := hX2
        have HE : Hid (EV W2 L (ival s1 ((xs.take 24).take L)) ⟨s1, p1, L, c1'⟩) := ⟨((xs.take 24).take L), hA2, rfl, by show L ≤ L; omega⟩
        have hown0 := own_below H.out.2.1.own hb2
        rw [H.out.1] at hown0
        have HO : Hid (W2.ownsRow w.heap.size 26 2 u7 k (fl es)) := hown0
        have hsz : w.heap.size ≤ W2.heap.size := Nat.le_trans H.out.2.2.2.size hb2.size
        have HF : Hid (Go.Proofs.YtgecfnoecmjacaaGreatDoor.From wr.heap.size p1) := hF1
        clear hown0 hA2 hF1 hb1
        go_wp2_with (refine wpList_append_lies _ rfl _ _ 23 rfl w.heap.size 26 i0 (.agg #[.bool false, .slice none 0 0]) 2 32 Tryz.underlying23 hi hz0 hz1 hz2 rfl (by decide) u7 k (fl es) rfl (HO.out.alloc _) ⟨W2.heap.size, 0, none⟩ 1 1 [.bool s1, .slice p1 L c1'] rfl rfl ?_ (fun x hx => by simp at hx; rcases hx with rfl | rfl <;> rfl) (by decide) (by unfold maxLen; omega) (by omega) (by simp; omega) _ rfl ?_; exact World.news_of_block (heap_alloc_new W2 _); intro g cap w3 hown3 hgrow3 hat3 hlt3; have hB3 : Below w.heap.size w w3 := ((bnext' H.out.2.2.2 hb2).alloc hsz _).grown hgrow3 (by simp; omega) (fun q hq => (HO.out.lt q hq).1); have HA : Hid (LG w.heap.size 26 (fun w z e => EV w L z e) w3 (.slice (some ⟨g, 0, none⟩) (k + 1) cap) (es ++ [⟨s1, p1, L, c1'⟩]) (zs ++ [ival s1 ((xs.take 24).take L)])) := lg_app (lasts_EV _) H.out.1 H.out.2.1 hb2 HE.out HF.out hown3 hgrow3 hat3; clear hown3 hgrow3 hat3)
        refine ⟨⟨k + 1, es ++ [⟨s1, p1, L, c1'⟩], zs ++ [ival s1 ((xs.take 24).take L)], by omega, by go_num, by have := H.out.1; simp; omega, HA.out, fun j hj h0 => ?_, hB3⟩, by simp [intOf]; omega⟩
        have hel := H.out.1
        rcases Nat.lt_or_ge j k with h | h
        · rw [ge_append_left _ _ _ (by omega)] at h0 ⊢
          exact H.out.2.2.1 j h h0
        · obtain rfl : j = es.length := by omega
          rw [ge_snoc]
          exact fun a ha => Nat.le_trans H.out.2.2.2.size (HF.out a ha)
      · have j1 : ¬ (L : Int) < (n1 : Int) := by omega
        have HA1 : Hid (AI w1 p1 n1 c1' (xs.take 24)) := hA1
        clear hA1
        go_upto_region 8 with fail
        have hX2 : Bx (w1.alloc (.cells #[.bool s1, .slice p1 n1 c1'] 26)) w1.heap.size (.bool s1) (.slice p1 n1 c1') := Bx.new _ _ _ rfl
        have hal := bel_al (o := .cells #[.bool s1, .slice p1 n1 c1'] 26) (Below.refl w1.heap.size w1)
        have hb2 := bnext' hb1 hal
        have hA2 := HA1.out.below hal
        clear HA1 hal
        generalize w1.alloc (.cells #[.bool s1, .slice p1 n1 c1'] 26) = W2 at *
        obtain ⟨q0, q1, -, -⟩ := hX2
        have HE : Hid (EV W2 L (ival s1 (xs.take 24)) ⟨s1, p1, n1, c1'⟩) := ⟨(xs.take 24), hA2, rfl, by show n1 ≤ L; omega⟩
        have hown0 := own_below H.out.2.1.own hb2
        rw [H.out.1] at hown0
        have HO : Hid (W2.ownsRow w.heap.size 26 2 u7 k (fl es)) := hown0
        have hsz : w.heap.size ≤ W2.heap.size := Nat.le_trans H.out.2.2.2.size hb2.size
        have HF : Hid (Go.Proofs.YtgecfnoecmjacaaGreatDoor.From wr.heap.size p1) := hF1
        clear hown0 hA2 hF1 hb1
        go_wp2_with (refine wpList_append_lies _ rfl _ _ 23 rfl w.heap.size 26 i0 (.agg #[.bool false, .slice none 0 0]) 2 32 Tryz.underlying23 hi hz0 hz1 hz2 rfl (by decide) u7 k (fl es) rfl (HO.out.alloc _) ⟨W2.heap.size, 0, none⟩ 1 1 [.bool s1, .slice p1 n1 c1'] rfl rfl ?_ (fun x hx => by simp at hx; rcases hx with rfl | rfl <;> rfl) (by decide) (by unfold maxLen; omega) (by omega) (by simp; omega) _ rfl ?_; exact World.news_of_block (heap_alloc_new W2 _); intro g cap w3 hown3 hgrow3 hat3 hlt3; have hB3 : Below w.heap.size w w3 := ((bnext' H.out.2.2.2 hb2).alloc hsz _).grown hgrow3 (by simp; omega) (fun q hq => (HO.out.lt q hq).1); have HA : Hid (LG w.heap.size 26 (fun w z e => EV w L z e) w3 (.slice (some ⟨g, 0, none⟩) (k + 1) cap) (es ++ [⟨s1, p1, n1, c1'⟩]) (zs ++ [ival s1 (xs.take 24)])) := lg_app (lasts_EV _) H.out.1 H.out.2.1 hb2 HE.out HF.out hown3 hgrow3 hat3; clear hown3 hgrow3 hat3)
        refine ⟨⟨k + 1, es ++ [⟨s1, p1, n1, c1'⟩], zs ++ [ival s1 (xs.take 24)], by omega, by go_num, by have := H.out.1; simp; omega, HA.out, fun j hj h0 => ?_, hB3⟩, by simp [intOf]; omega⟩
        have hel := H.out.1
        rcases Nat.lt_or_ge j k with h | h
        · rw [ge_append_left _ _ _ (by omega)] at h0 ⊢
          exact H.out.2.2.1 j h h0
        · obtain rfl : j = es.length := by omega
          rw [ge_snoc]
          exact fun a ha => Nat.le_trans H.out.2.2.2.size (HF.out a ha)
    · obtain rfl : k = min n E := by omega
      obtain ⟨hel, hLR, hfr, hB⟩ := H.out
      have hzl := hLR.zl
      obtain ⟨q, cap, hv, hc1, hc2, hPL, hF, hpn⟩ := hLR.pl
      have hev := hLR.ev
      subst hv
      rw [hel] at hev hc1 hzl ⊢
      have HR : Hid (CutP n E L w (.returned (.slice q (min n E : Nat) cap)) wr) := ⟨q, _, cap, es, zs, rfl, ⟨hel, hzl, hc1, hc2, hpn, hPL, hev⟩, rfl, hF, hfr, hB⟩
      have hcs : Hid (¬ (min n E : Nat) < n ∨ ((min n E : Nat) < n ∧ ¬ (min n E : Nat) < E)) := by show _ ∨ _; omega
      generalize min n E = m at *
      clear H hLR hev hPL hF hfr hB hge
      rcases hcs.out with h1 | ⟨h1, h2⟩
      · have i1 : ¬ (m : Int) < (n : Int) := by omega
        clear h1
        go_wp2
        go_ret
        exact HR.out
      · have i1 : (m : Int) < (n : Int) := by omega
        have i2 : ¬ (m : Int) < (E : Int) := by omega
        clear h1 h2
        go_wp2
        go_ret
        exact HR.out
set_option maxHeartbeats 1000000 in
/-- ashlarlaw3.few. -/
theorem few_any {w : World} {p : Option Addr} {n nc : Nat} {es0 : List Ent} (h : PZ w p n nc es0) :
    Calls Tryz.prog 10 #[.slice p n nc] w (CutP n 9 4 w) := by
  have hc := Cut3_any h 9 4 (by decide) (by decide)
  clear h
  go_enter Tryz.func10, Tryz.ntmps10
  go_wp2_with fail
  refine hc.mono ?_
  rintro e w1 ⟨q, m, mc, fs, zs, rfl, h1, h2, h3, h4, hb1⟩
  have HR : Hid (CutP n 9 4 w (.returned (.slice q m mc)) w1) := ⟨q, m, mc, fs, zs, rfl, h1, h2, h3, h4, hb1⟩
  clear hc h1 h2 h3 h4 hb1
  go_wp2
  go_ret
  exact HR.out
end Go.Proofs.YtgecfnoecmjacaaGreatDoor
/-
  What the walks of ashlarlaw3 share: a literal as an argument, From and Is for entries.
-/
namespace Go.Proofs.YtgecfnoecmjacaaGreatDoor
open Go.RowKit
set_option linter.unusedVariables false
set_option linter.unusedSimpArgs false

theorem fr_mn {X W1 : World} {q : Option Addr} (h : Go.Proofs.YtgecfnoecmjacaaGreatDoor.From X.heap.size q) (hs : W1.heap.size ≤ X.heap.size) : Go.Proofs.YtgecfnoecmjacaaGreatDoor.From W1.heap.size q := fun a ha => Nat.le_trans hs (h a ha)
theorem pz_lit {W : World} {g : Nat} {e : Ent} (h0 : W.cell? ⟨g, 0, none⟩ = some (.bool e.s)) (h1 : W.cell? ⟨g, 1, none⟩ = some (.slice e.p e.n e.c)) (hr : RawE W e) : PZ W (some ⟨g, 0, none⟩) 1 1 [e] :=
  ⟨rfl, Nat.le_refl _, by decide, nofun, fun _ => ⟨g, 0, rfl, fun j hj => by
    obtain rfl : j = 0 := by simp at hj; omega
    exact ⟨h0, h1⟩⟩, fun j hj => by
    obtain rfl : j = 0 := by omega
    exact hr⟩
theorem cells_lit (w : World) (x y : Value) (t : Nat) : (w.alloc (.cells #[x, y] t)).cell? ⟨w.heap.size, 0, none⟩ = some x ∧ (w.alloc (.cells #[x, y] t)).cell? ⟨w.heap.size, 1, none⟩ = some y := ⟨by simp [go_sem], by simp [go_sem]⟩
theorem rFrom_e {w : World} {K : Nat} {z : Int} {e : Ent} (h : EV w K z e) :
    Calls Tryz.prog 13 #[.agg #[.bool e.s, .slice e.p e.n e.c]] w fun r w' => ∃ u : Ent, r = .returned (.agg #[.bool u.s, .slice u.p u.n u.c]) ∧ RE w' (2 * K) z u ∧ Go.Proofs.YtgecfnoecmjacaaGreatDoor.From w.heap.size u.p ∧ Below w.heap.size w w' := by
  obtain ⟨xs, h1, h2, h3⟩ := h
  refine (From_ansF e.s e.p e.n e.c xs w h1).mono ?_
  rintro r w1 ⟨s, p, n, d, rfl, h4, h5, h6, h7, h8⟩
  exact ⟨⟨s, p, n, n⟩, rfl, ⟨⟨d, h4, by rw [h5, h2], by show n ≤ _; omega⟩, rfl⟩, h7, h8⟩
theorem rIs_en {B : Nat} {w : World} {K N : Nat} {z : Int} {e f : Ent} (h : NV B w K z e) (k : RE w N z f) (hK : K ≤ 1000) (hN : N ≤ 1000) :
    Calls Tryz.prog 26 #[.agg #[.bool e.s, .slice e.p e.n e.c], .agg #[.bool f.s, .slice f.p f.n f.c]] w fun r w' => r = .returned (.bool true) ∧ Below w.heap.size w w' := by
  obtain ⟨xs, k1, k2, k3⟩ := h
  obtain ⟨⟨ds, l1, l2, l3⟩, l4⟩ := k
  rw [k2, l4]
  exact rIs_rn k1 (by omega) l1 (by omega) l2
end Go.Proofs.YtgecfnoecmjacaaGreatDoor
/-
  math/bits.Len off the shelf.
-/
namespace Go.Proofs.YtgecfnoecmjacaaGreatDoor
open Go.RowKit
open Go.Shelf
set_option linter.unusedVariables false
set_option linter.unusedSimpArgs false

def renLen : Go.Shelf.Ren := ⟨fun | 125 => 150 | 128 => 121 | 129 => 172 | n => n, fun | 3 => 3 | 4 => 4 | 5 => 5 | 9 => 9 | 46 => 151 | 51 => 82 | 53 => 126 | n => n, fun n => n⟩
theorem laysLen : Lays.n125 Tryz.prog renLen :=
  { mixed := by kernel_rfl
    f125 := by kernel_rfl
    f128 := by kernel_rfl
    f129 := by kernel_rfl
    t3 := by kernel_rfl
    a3 := fun _ => by kernel_rfl
    z3 := fun _ => by kernel_rfl
    v3 := fun _ => by kernel_rfl
    t4 := by kernel_rfl
    a4 := fun _ => by kernel_rfl
    z4 := fun _ => by kernel_rfl
    v4 := fun _ => by kernel_rfl
    t5 := by kernel_rfl
    a5 := fun _ => by kernel_rfl
    z5 := fun _ => by kernel_rfl
    v5 := fun _ => by kernel_rfl
    t9 := by kernel_rfl
    a9 := fun _ => by kernel_rfl
    z9 := fun _ => by kernel_rfl
    v9 := fun _ => by kernel_rfl
    t46 := by kernel_rfl
    a46 := fun _ => by kernel_rfl
    z46 := fun _ => by kernel_rfl
    v46 := fun _ => by kernel_rfl
    t51 := by kernel_rfl
    a51 := fun _ => by kernel_rfl
    z51 := fun _ => by kernel_rfl
    v51 := fun _ => by kernel_rfl
    t53 := by kernel_rfl
    a53 := fun _ => by kernel_rfl
    z53 := fun _ => by kernel_rfl
    v53 := fun _ => by kernel_rfl }
theorem Len_any (x : Int) (w : World) (h0 : 0 ≤ x) (h1 : x ≤ 18446744073709551615) :
    Calls Tryz.prog 150 #[.int .u64 x] w fun e w' => e = .returned (.int .i64 (Lib.bitLen x.toNat)) ∧ w' = w := Any.bits_Len laysLen x w h0 h1
end Go.Proofs.YtgecfnoecmjacaaGreatDoor
/-
  upoly.rowsCost, digitWidth, packedCost.
-/
namespace Go.Proofs.YtgecfnoecmjacaaGreatDoor
open Go.RowKit
set_option linter.unusedVariables false
set_option linter.unusedSimpArgs false

set_option maxHeartbeats 2000000 in
set_option maxRecDepth 100000 in
/-- upoly.rowsCost. -/
theorem rowsCost_any {B C : Nat} {w : World} {K L : Nat} {p q : Option Addr} {n m : Nat} {es fs : List Ent} {zs ys : List Int} (h : PB B w K p n es zs) (k : PB C w L q m fs ys) (hn : n ≤ 1000000) (hm : m ≤ 1000000) (hK : K ≤ 1000) (hL : L ≤ 1000) :
    Calls Tryz.prog 114 #[.slice p n n, .slice q m m] w fun r w' => r = .returned (.int .i64 ((sl zs * sl ys + 80 * cnt zs * cnt ys : Nat) : Int)) ∧ Below w.heap.size w w' := by
  go_enter Tryz.func114, Tryz.ntmps114
  go_wp2_with fail
  refine (weigh_any h hn hK).mono ?_
  rintro e w1 ⟨rfl, c1, s1, hb1⟩
  go_wp2_with fail
  refine (weigh_any (k.below hb1) hm hL).mono ?_
  rintro e w2 ⟨rfl, c2, s2, hb2⟩
  have a1 : n * K ≤ 1000000 * 1000 := Nat.mul_le_mul hn hK
  have a2 : m * L ≤ 1000000 * 1000 := Nat.mul_le_mul hm hL
  have a3 : sl zs * sl ys ≤ 1000000000 * 1000000000 := Nat.mul_le_mul (by omega) (by omega)
  have a4 : cnt zs * cnt ys ≤ 1000000 * 1000000 := Nat.mul_le_mul (by omega) (by omega)
  have e1 : 80 * cnt zs * cnt ys = 80 * (cnt zs * cnt ys) := Nat.mul_assoc _ _ _
  have v1 : IntKind.i64.wrap ((sl zs : Int) * (sl ys : Int)) = ((sl zs * sl ys : Nat) : Int) := by rw [IntKind.wrap_i64]; push_cast; rw [← Int.natCast_mul]; omega
  have v2 : IntKind.i64.wrap (80 * (cnt zs : Int)) = 80 * (cnt zs : Int) := by rw [IntKind.wrap_i64]; omega
  have v3 : IntKind.i64.wrap (80 * (cnt zs : Int) * (cnt ys : Int)) = ((80 * cnt zs * cnt ys : Nat) : Int) := by rw [IntKind.wrap_i64]; push_cast; rw [Int.mul_assoc, ← Int.natCast_mul]; omega
  have v4 : IntKind.i64.wrap (((sl zs * sl ys : Nat) : Int) + ((80 * cnt zs * cnt ys : Nat) : Int)) = ((sl zs * sl ys + 80 * cnt zs * cnt ys : Nat) : Int) := by rw [IntKind.wrap_i64]; omega
  have HF : Hid (((sl zs * sl ys + 80 * cnt zs * cnt ys : Nat) : Int) = (sl zs : Int) * (sl ys : Int) + 80 * ((cnt zs : Int) * (cnt ys : Int))) := by
    show _ = _
    push_cast
    rw [Int.mul_assoc]
  go_wp2
  go_ret
  exact ⟨by rw [HF.out]; rfl, bnext' hb1 hb2⟩
/-- In how many limbs each entry of a product has room. -/
def wd (zs ys : List Int) : Nat := (pb zs + pb ys + Lib.bitLen (min zs.length ys.length)) / 32 + 1
theorem bitLen_le (x : Nat) : Lib.bitLen x ≤ 64 := bitLenAux_le 64 x
set_option maxHeartbeats 2000000 in
set_option maxRecDepth 100000 in
/-- upoly.digitWidth. -/
theorem digitWidth_any {w : World} {K L : Nat} {p q : Option Addr} {n nc m mc : Nat} {es fs : List Ent} {zs ys : List Int} (h : PA w K p n nc es zs) (k : PA w L q m mc fs ys) (hn : n ≤ 1000000) (hm : m ≤ 1000000) (hK : K ≤ 1000) (hL : L ≤ 1000) :
    Calls Tryz.prog 113 #[.slice p n nc, .slice q m mc] w fun r w' => r = .returned (.int .i64 (wd zs ys)) ∧ Below w.heap.size w w' := by
  have HW : Hid (wd zs ys = (pb zs + pb ys + Lib.bitLen (min n m)) / 32 + 1) := by show _ = _; rw [wd, h.zl, k.zl]
  obtain ⟨M, hM1, hM2⟩ : ∃ M : Nat, min (n : Int) (m : Int) = (M : Int) ∧ M = min n m := ⟨min n m, by omega, rfl⟩
  have HM : Hid (M = min n m) := hM2
  have hM3 : M ≤ 1000000 := by omega
  have vM : IntKind.u64.wrap (M : Int) = (M : Int) := by rw [IntKind.wrap_u64]; omega
  have hbl := bitLen_le M
  clear hM2
  go_enter Tryz.func113, Tryz.ntmps113
  go_wp2_with fail
  refine (uBits_any h hn hK).mono ?_
  rintro e w1 ⟨rfl, l1, hb1⟩
  go_wp2_with fail
  refine (uBits_any (k.below hb1) hm hL).mono ?_
  rintro e w2 ⟨rfl, l2, hb2⟩
  have v1 : IntKind.i64.wrap ((pb zs : Int) + (pb ys : Int)) = (pb zs : Int) + (pb ys : Int) := by rw [IntKind.wrap_i64]; omega
  go_wp2_with fail
  have hle := Len_any (M : Int) w2 (by omega) (by omega)
  rw [Int.toNat_natCast] at hle
  refine hle.mono ?_
  rintro e w3 ⟨rfl, rfl⟩
  clear hle
  have HW2 : Hid (wd zs ys = (pb zs + pb ys + Lib.bitLen M) / 32 + 1) := by show _ = _; rw [HW.out, HM.out]
  clear HW
  generalize Lib.bitLen M = bl at *
  have v2 : IntKind.i64.wrap ((pb zs : Int) + (pb ys : Int) + (bl : Int)) = (pb zs : Int) + (pb ys : Int) + (bl : Int) := by rw [IntKind.wrap_i64]; omega
  have v3 : ((pb zs : Int) + (pb ys : Int) + (bl : Int)).tdiv 32 = (((pb zs + pb ys + bl) / 32 : Nat) : Int) := by rw [Int.tdiv_eq_ediv_of_nonneg (by omega)]; omega
  have v4 : IntKind.i64.wrap (((pb zs + pb ys + bl) / 32 : Nat) : Int) = (((pb zs + pb ys + bl) / 32 : Nat) : Int) := by rw [IntKind.wrap_i64]; omega
  have v5 : IntKind.i64.wrap ((((pb zs + pb ys + bl) / 32 : Nat) : Int) + 1) = (((pb zs + pb ys + bl) / 32 : Nat) : Int) + 1 := by rw [IntKind.wrap_i64]; omega
  go_wp2
  go_ret
  exact ⟨by rw [HW2.out, Int.natCast_add]; rfl, bnext' hb1 hb2⟩
set_option maxHeartbeats 2000000 in
set_option maxRecDepth 100000 in
/-- upoly.packedCost of few entries. -/
theorem packedCost_small (m n d : Nat) (w : World) (hm : m ≤ 80) (hn : n ≤ 80) (hd : d ≤ 80) (hd1 : 1 ≤ d) (hk : d * min m n ≤ 80) :
    Calls Tryz.prog 115 #[.int .i64 m, .int .i64 n, .int .i64 d] w fun r w' => r = .returned (.int .i64 ((d * m * d * n + 160 * (m + n) : Nat) : Int)) ∧ Below w.heap.size w w' := by
  obtain ⟨A, hA1, hA2⟩ : ∃ A : Nat, max (m : Int) (n : Int) = (A : Int) ∧ A ≤ 80 := ⟨max m n, by omega, by omega⟩
  obtain ⟨M, hM1, hM2⟩ : ∃ M : Nat, min (m : Int) (n : Int) = (M : Int) ∧ M = min m n := ⟨min m n, by omega, rfl⟩
  rw [← hM2] at hk
  clear hM2
  have q1 : (2147483647 : Int).tdiv (d : Int) = 2147483647 / (d : Int) := Int.tdiv_eq_ediv_of_nonneg (by decide)
  have q2 : 80 < 2147483647 / (d : Int) := by
    have : (26843545 : Int) ≤ 2147483647 / (d : Int) := Int.le_ediv_of_mul_le (by omega) (by omega)
    omega
  have q3 : 2147483647 / (d : Int) ≤ 2147483647 := Int.ediv_le_self _ (by decide)
  have hd0 : ¬ (d : Int) = 0 := by omega
  have hd0' : ((d : Int) == 0) = false := by rw [beq_eq_false_iff_ne]; omega
  generalize hQ : 2147483647 / (d : Int) = Q at *
  have hc : ¬ Q < (A : Int) := by omega
  have m1 : d * m ≤ 80 * 80 := Nat.mul_le_mul hd hm
  have m2 : d * m * d ≤ 6400 * 80 := Nat.mul_le_mul m1 hd
  have m3 : d * m * d * n ≤ 512000 * 80 := Nat.mul_le_mul m2 hn
  have e1 : (d : Int) * (m : Int) = ((d * m : Nat) : Int) := by push_cast; rfl
  have e2 : ((d * m : Nat) : Int) * (d : Int) = ((d * m * d : Nat) : Int) := by push_cast; rfl
  have e3 : ((d * m * d : Nat) : Int) * (n : Int) = ((d * m * d * n : Nat) : Int) := by push_cast; rfl
  have e4 : (d : Int) * (M : Int) = ((d * M : Nat) : Int) := by push_cast; rfl
  have w1 : IntKind.i64.wrap ((d * m : Nat) : Int) = ((d * m : Nat) : Int) := by rw [IntKind.wrap_i64]; omega
  have w2 : IntKind.i64.wrap ((d * m * d : Nat) : Int) = ((d * m * d : Nat) : Int) := by rw [IntKind.wrap_i64]; omega
  have w3 : IntKind.i64.wrap ((d * m * d * n : Nat) : Int) = ((d * m * d * n : Nat) : Int) := by rw [IntKind.wrap_i64]; omega
  have w4 : IntKind.i64.wrap ((d * M : Nat) : Int) = ((d * M : Nat) : Int) := by rw [IntKind.wrap_i64]; omega
  have w5 : IntKind.i64.wrap Q = Q := by rw [IntKind.wrap_i64]; omega
  have hk' : ¬ (80 : Int) < ((d * M : Nat) : Int) := by omega
  generalize d * m * d * n = X at *
  generalize d * m * d = X2 at *
  generalize d * m = X1 at *
  generalize d * M = X4 at *
  go_enter Tryz.func115, Tryz.ntmps115
  go_wp2_with fail
  go_loop [7, 8] (fun cv kv => cv = .int .i64 (X : Int) ∧ kv = .int .i64 (X4 : Int)) (fun _ _ => 0)
  case atStart => exact ⟨rfl, rfl⟩
  case round =>
    obtain ⟨rfl, rfl⟩ := hrel
    have x1 : IntKind.i64.wrap ((m : Int) + (n : Int)) = (m : Int) + (n : Int) := by rw [IntKind.wrap_i64]; omega
    have x2 : IntKind.i64.wrap (160 * ((m : Int) + (n : Int))) = 160 * ((m : Int) + (n : Int)) := by rw [IntKind.wrap_i64]; omega
    have x3 : IntKind.i64.wrap ((X : Int) + 160 * ((m : Int) + (n : Int))) = ((X + 160 * (m + n) : Nat) : Int) := by rw [IntKind.wrap_i64]; omega
    have HF : Hid (((X + 160 * (m + n) : Nat) : Int) = (X : Int) + 160 * ((m : Int) + (n : Int))) := by show _ = _; omega
    go_wp2
    go_ret
    exact ⟨rfl, Below.refl _ _⟩
end Go.Proofs.YtgecfnoecmjacaaGreatDoor
