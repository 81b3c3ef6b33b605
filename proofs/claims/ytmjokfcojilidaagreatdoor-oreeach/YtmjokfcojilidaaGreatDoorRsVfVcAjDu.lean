/-
  ashlarref1.Sign, Cmp.
-/
import Derived.Test.YtmjokfcojilidaaGreatDoorRpDkDlDbRiRjRg
import Derived.Test.YtmjokfcojilidaaGreatDoorReRxRfRhCqRrRwVa
import Derived.Test.YtmjokfcojilidaaGreatDoorAiRzVdRtDhVe
import Derived.Deep.DeepFit
import Derived.Test.YtmjokfcojilidaaGreatDoorRoVbDaCxRb
import Derived.Test.YtmjokfcojilidaaGreatDoorAf
namespace Go.Proofs.YtmjokfcojilidaaGreatDoor
open Go.RowKit
set_option linter.unusedVariables false
set_option linter.unusedSimpArgs false

theorem icmp_same16 {s t : Bool} {xs ys : List Int} (hX : U16 xs) (hY : U16 ys) (h : isgn (rval s xs) = isgn (rval t ys)) : isgn (rval s xs) * icmp (vd xs) (vd ys) = icmp (rval s xs) (rval t ys) := by
  have h1 := vd_nonneg hX
  have h2 := vd_nonneg hY
  rcases isgn_cases (rval s xs) with ⟨a1, a2⟩ | ⟨a1, a2⟩ | ⟨a1, a2⟩ <;> rcases isgn_cases (rval t ys) with ⟨b1, b2⟩ | ⟨b1, b2⟩ | ⟨b1, b2⟩ <;> rw [a2, b2] at h <;> (try (exact absurd h (by decide))) <;> rw [a2]
  · rw [a1, b1, icmp_eq, Int.zero_mul]
  · have e1 : s = true := by cases s <;> simp_all [rval] <;> omega
    have e2 : t = true := by cases t <;> simp_all [rval] <;> omega
    subst e1 e2
    simp only [rval, if_true]
    rcases Int.lt_trichotomy (vd xs) (vd ys) with g | g | g
    · rw [icmp_lt g, icmp_gt (by omega)]; rfl
    · rw [g, icmp_eq, icmp_eq]; rfl
    · rw [icmp_gt g, icmp_lt (by omega)]; rfl
  · have e1 : s = false := by cases s <;> simp_all [rval] <;> omega
    have e2 : t = false := by cases t <;> simp_all [rval] <;> omega
    subst e1 e2
    simp only [rval, Bool.false_eq_true, if_false, Int.one_mul]

set_option maxHeartbeats 1000000 in
/-- ashlarref1.Cmp. -/
theorem rCmp_any (s t : Bool) (p q : Option Addr) (n nc m mc : Nat) (xs ys : List Int) (w : World) (hn : xs.length = n) (hm : ys.length = m) (hnb : n ≤ 1000000000) (hmb : m ≤ 1000000000) (tx : tlen xs = n) (ty : tlen ys = m)
    (hX : Rd w p .i64 xs) (hXu : U16 xs) (hY : Rd w q .i64 ys) (hYu : U16 ys) :
    Calls Tryz.prog 121 #[.agg #[.bool s, .slice p n nc], .agg #[.bool t, .slice q m mc]] w fun e w' => e = .returned (.int .i64 (icmp (rval s xs) (rval t ys))) ∧ Below w.heap.size w w' := by
  have hd : Hid (isgn (rval s xs) = isgn (rval t ys) ∨ isgn (rval s xs) ≠ isgn (rval t ys)) := Classical.em _
  have q1 : -1 ≤ isgn (rval s xs) ∧ isgn (rval s xs) ≤ 1 := by rcases isgn_cases (rval s xs) with h | h | h <;> omega
  have q2 : -1 ≤ icmp (vd xs) (vd ys) ∧ icmp (vd xs) (vd ys) ≤ 1 := by unfold icmp; split <;> (try split) <;> decide
  obtain ⟨q1, q1'⟩ := q1
  obtain ⟨q2, q2'⟩ := q2
  have HT : Hid (xs.length = n ∧ ys.length = m ∧ tlen xs = n ∧ tlen ys = m) := ⟨hn, hm, tx, ty⟩
  clear hn hm tx ty
  go_enter Tryz.func121, Tryz.ntmps121
  go_wp2_with fail
  have hX0 := boxes2 w (.bool s) (.slice p n nc) (.bool t) (.slice q m mc) 30 30
  generalize ((w.alloc (Obj.cells #[Value.bool s, Value.slice p n nc] 30)).alloc (Obj.cells #[Value.bool t, Value.slice q m mc] 30)) = W0 at *
  refine (rSign_any s p n nc xs _ hXu HT.out.2.2.1).mono ?_
  rintro e W1 ⟨rfl, hb0⟩
  have hX1 := hX0.later hb0
  clear hX0 hb0 W0
  have k0 := hX1.ca0
  have k1 := hX1.ca1
  have k2 := hX1.cb0
  have k3 := hX1.cb1
  go_wp2_with fail
  refine (rSign_any t q m mc ys _ hYu HT.out.2.2.2).mono ?_
  rintro e W ⟨rfl, hb0⟩
  have hX2 := hX1.later hb0
  clear hX1 hb0 k0 k1 k2 k3 W1
  have k0 := hX2.ca0
  have k1 := hX2.ca1
  have k2 := hX2.cb0
  have k3 := hX2.cb1
  rcases hd.out with h | h
  · have hne : (isgn (rval s xs) != isgn (rval t ys)) = false := by rw [h]; simp
    have H : Hid (isgn (rval s xs) = isgn (rval t ys)) := h
    clear h hd
    go_wp2_with fail
    obtain ⟨t1, t2, t3, t4⟩ := HT.out
    refine (rcmp_any p q n nc m mc xs ys _ t1 t2 hnb hmb t3 t4 (hX.below hX2.below) hXu (hY.below hX2.below) hYu).mono ?_
    rintro e w1 ⟨rfl, hb1⟩
    have hw : wrap64 (isgn (rval s xs) * icmp (vd xs) (vd ys)) = icmp (rval s xs) (rval t ys) := by
      rw [icmp_same16 hXu hYu H.out]
      unfold icmp; split <;> (try split) <;> simp [wrap64, IntKind.wrap, IntKind.bits, IntKind.signed]
    clear t1 t2 t3 t4
    go_wp2
    go_ret
    refine ⟨?_, hX2.below.trans (hb1.mono hX2.below.size)⟩
    first
      | exact ret_int hw
      | exact ret_int (icmp_same16 hXu hYu H.out)
      | rfl
  · have hne : (isgn (rval s xs) != isgn (rval t ys)) = true := by rw [bne_iff_ne]; exact h
    clear hd
    rcases Int.lt_or_lt_of_ne h with h1 | h1
    · have hi := icmp_lt h1
      rw [icmp_isgn h] at hi
      have HI : Hid (icmp (rval s xs) (rval t ys) = -1) := hi
      clear hi h
      go_wp2
      go_ret
      exact ⟨ret_int HI.out.symm, hX2.below⟩
    · have hi := icmp_gt h1
      rw [icmp_isgn h] at hi
      have HI : Hid (icmp (rval s xs) (rval t ys) = 1) := hi
      have h2 : ¬ isgn (rval s xs) < isgn (rval t ys) := by omega
      clear hi h
      go_wp2
      go_ret
      exact ⟨ret_int HI.out.symm, hX2.below⟩
/-- ashlarref1.Cmp of two that are known. -/
theorem rCmp_rn {w : World} {s t : Bool} {p q : Option Addr} {n m : Nat} {xs ys : List Int} (h : RN w s p n xs) (k : RN w t q m ys) :
    Calls Tryz.prog 121 #[.agg #[.bool s, .slice p n n], .agg #[.bool t, .slice q m m]] w fun e w' => e = .returned (.int .i64 (icmp (rval s xs) (rval t ys))) ∧ Below w.heap.size w w' :=
  rCmp_any s t p q n n m m xs ys w h.len k.len h.sml k.sml h.nrm k.nrm h.rd h.u k.rd k.u
end Go.Proofs.YtmjokfcojilidaaGreatDoor
/-
  ashlarref3.Eq.
-/
namespace Go.Proofs.YtmjokfcojilidaaGreatDoor
open Go.RowKit
set_option linter.unusedVariables false
set_option linter.unusedSimpArgs false

theorem rCmp_e {w : World} {N M : Nat} {x y : Int} {e f : Ent} (h : RE w N x e) (k : RE w M y f) (hN : N ≤ 1000) (hM : M ≤ 1000) :
    Calls Tryz.prog 121 #[.agg #[.bool e.s, .slice e.p e.n e.c], .agg #[.bool f.s, .slice f.p f.n f.c]] w fun r w' => r = .returned (.int .i64 (icmp x y)) ∧ Below w.heap.size w w' := by
  obtain ⟨⟨xs, h1, rfl, h3⟩, h4⟩ := h
  obtain ⟨⟨ys, k1, rfl, k3⟩, k4⟩ := k
  rw [h4, k4]
  exact rCmp_rn h1 k1
set_option maxHeartbeats 2000000 in
set_option maxRecDepth 100000 in
/-- ashlarref3.Eq. -/
theorem rpEq_any {w : World} {N M : Nat} {p q : Option Addr} {n nc m mc : Nat} {es fs : List Ent} {zs ys : List Int} (h : PR w N p n nc es zs) (k : PR w M q m mc fs ys) (hN : N ≤ 1000) (hM : M ≤ 1000) (hn : n ≤ 1000000) (hm : m ≤ 1000000) :
    Calls Tryz.prog 82 #[.slice p n nc, .slice q m mc] w fun r w' => r = .returned (.bool (decide (zs = ys))) ∧ Below w.heap.size w w' := by
  have hel := h.el
  have hzl := h.zl
  have hfl := k.el
  have hyl := k.zl
  by_cases hnm : n = m
  · subst hnm
    go_enter Tryz.func82, Tryz.ntmps82
    go_wp2_with fail
    go_loopw [5] (fun iv wr => ∃ j : Nat, j ≤ n ∧ iv = .int .i64 j ∧ Hid ((∀ t, t < j → gx zs t = gx ys t) ∧ Below w.heap.size w wr)) (fun iv _ => n - (intOf iv).toNat)
    case atStart => exact ⟨0, Nat.zero_le _, by go_num, fun t ht => by omega, Below.refl _ _⟩
    case round =>
      obtain ⟨j, hj, rfl, H⟩ := hrel
      rcases Nat.lt_or_ge j n with hlt | hge
      · have hh := h.below H.out.2
        have hk := k.below H.out.2
        have hv := hh.ev j hlt
        have hw := hk.ev j hlt
        obtain ⟨b, o, hp, hc⟩ := hh.pl (by omega)
        obtain ⟨c, r, hq, hd⟩ := hk.pl (by omega)
        subst hp hq
        obtain ⟨c0, c1⟩ := hc j (by omega)
        obtain ⟨d0, d1⟩ := hd j (by omega)
        have hcm := rCmp_e hv.drew hw.drew hN hM
        clear hc hd hh hk
        go_wp2_with fail
        go_region_held3 (fun w' => w'.cell? ⟨b, o + j * 2, none⟩ = some (.bool (ge es j).s) ∧ w'.cell? ⟨b, o + j * 2 + 1, none⟩ = some (.slice (ge es j).p (ge es j).n (ge es j).c) ∧ w'.cell? ⟨c, r + j * 2, none⟩ = some (.bool (ge fs j).s) ∧ w'.cell? ⟨c, r + j * 2 + 1, none⟩ = some (.slice (ge fs j).p (ge fs j).n (ge fs j).c)) (first | with_reducible exact ⟨c0, c1, d0, d1⟩ | with_reducible exact keepc4 ⟨c0, c1, d0, d1⟩ hV1 | (simp [go_sem, *]; done))
          (first
            | (go_at_call 121; go_fit hcm; rintro e w1 ⟨rfl, hb1⟩; have hV1 := undrew hb1))
        have hB := bnext' H.out.2 hV1
        clear c0 c1 d0 d1 hv hw hcm
        by_cases hxy : gx zs j = gx ys j
        · have e0 : icmp (gx zs j) (gx ys j) = 0 := by rw [hxy]; unfold icmp; simp
          have HX : Hid (gx zs j = gx ys j) := hxy
          clear hxy
          generalize icmp (gx zs j) (gx ys j) = cv at *
          subst e0
          go_wp2
          go_roundw
          case rel => exact ⟨j + 1, by omega, by go_num, fun t ht => by
            rcases Nat.lt_or_ge t j with h1 | h1
            · exact H.out.1 t h1
            · obtain rfl : t = j := by omega
              exact HX.out, hB⟩
          case measure => simp [intOf]; omega
        · have e0 : ¬ icmp (gx zs j) (gx ys j) = 0 := by unfold icmp; split <;> (try split) <;> omega
          have HD : Hid (decide (zs = ys) = false) := decide_eq_false (fun he => hxy (by rw [he]))
          clear hxy
          generalize icmp (gx zs j) (gx ys j) = cv at *
          have g1 : (cv == 0) = false := by rw [beq_eq_false_iff_ne]; exact e0
          have g2 : (cv != 0) = true := by show (!(cv == 0)) = true; rw [g1]; rfl
          go_wp2
          go_ret
          exact ⟨by rw [HD.out]; rfl, hB⟩
      · obtain rfl : j = n := by omega
        have HD : Hid (decide (zs = ys) = true) := by
          refine decide_eq_true (List.ext_getElem (by omega) fun i h1 h2 => ?_)
          have := H.out.1 i (by omega)
          rwa [gx_mem _ _ h1, gx_mem _ _ h2] at this
        go_wp2
        go_ret
        exact ⟨by rw [HD.out]; rfl, H.out.2⟩
  · have hne : ¬ (n : Int) = (m : Int) := by omega
    have HD : Hid (decide (zs = ys) = false) := decide_eq_false (fun he => hnm (by rw [← hzl, ← hyl, he]))
    have g1 : (((n : Int) == (m : Int))) = false := by rw [beq_eq_false_iff_ne]; exact hne
    have g2 : ((n : Int) != (m : Int)) = true := by show (!((n : Int) == (m : Int))) = true; rw [g1]; rfl
    go_enter Tryz.func82, Tryz.ntmps82
    go_wp2
    go_ret
    exact ⟨by rw [HD.out]; rfl, Below.refl _ _⟩
end Go.Proofs.YtmjokfcojilidaaGreatDoor
/-
  ashlarref3.Of.
-/
namespace Go.Proofs.YtmjokfcojilidaaGreatDoor
open Go.RowKit
set_option linter.unusedVariables false
set_option linter.unusedSimpArgs false

set_option maxHeartbeats 2000000 in
set_option maxRecDepth 100000 in
/-- ashlarref3.Of. -/
theorem rpOf_any (p : Option Addr) (n nc : Nat) (xs : List Int) (w : World) (hl : xs.length = n) (hn : n ≤ 1000000) (hX : Rd w p .i64 xs) (hx : ∀ j, -9223372036854775808 ≤ gx xs j ∧ gx xs j ≤ 9223372036854775807) :
    Calls Tryz.prog 46 #[.slice p n nc] w (PrP (tr xs) 4 w) := by
  obtain ⟨i0, hi, hzz⟩ := Option.map_eq_some_iff.1 info_ref
  simp only [Prod.mk.injEq] at hzz
  obtain ⟨hz0, hz1, hz2⟩ := hzz
  have HI : Hid (Tryz.prog.info? 30 = some i0 ∧ i0.zero = some (.agg #[.bool false, .slice none 0 0]) ∧ i0.size = 2 ∧ i0.bytes = 32) := ⟨hi, hz0, hz1, hz2⟩
  have HX : Hid (Rd w p .i64 xs ∧ ∀ j, -9223372036854775808 ≤ gx xs j ∧ gx xs j ≤ 9223372036854775807) := ⟨hX, hx⟩
  clear hX hx hi hz0 hz1 hz2
  go_enter Tryz.func46, Tryz.ntmps46
  go_wp2_with fail
  go_loopw [3, 4] (fun qv iv wr => ∃ (k : Nat) (es : List Ent), k ≤ n ∧ iv = .int .i64 k ∧ Hid (es.length = k ∧ LR w.heap.size wr 4 qv es (xs.take k) ∧ Below w.heap.size w wr)) (fun _ iv _ => n - (intOf iv).toNat)
  case atStart => exact ⟨0, [], Nat.zero_le _, by go_num, rfl, by rw [List.take_zero]; exact LR.nil _ _ _, Below.refl _ _⟩
  case round =>
    obtain ⟨k, es, hk, rfl, H⟩ := hrel
    rcases Nat.lt_or_ge k n with hlt | hge
    · obtain ⟨hel, hLR, hB⟩ := H.out
      obtain ⟨b, o, hp, hc⟩ := (HX.out.1.below hB) (by omega)
      subst hp
      have c0 := hc k (by omega)
      obtain ⟨x0, x1⟩ := HX.out.2 k
      clear hel hLR hB hc
      go_wp2_with fail
      refine (rOf_any (gx xs k) _ x0 x1).mono ?_
      rintro e w1 ⟨s1, p1, n1, d1, rfl, hR1, hv1, hn1, hF1, hb1⟩
      have HE : Hid (RE w1 4 (gx xs k) ⟨s1, p1, n1, n1⟩) := ⟨⟨d1, hR1, hv1, hn1⟩, rfl⟩
      clear c0 hR1 hv1
      obtain ⟨hi, hz0, hz1, hz2⟩ := HI.out
      have hown0 := own_below H.out.2.1.own hb1
      rw [H.out.1] at hown0
      have HO : Hid (w1.ownsRow w.heap.size 30 2 u3 k (fl es)) := hown0
      have hsz : w.heap.size ≤ w1.heap.size := Nat.le_trans H.out.2.2.size hb1.size
      clear hown0
      go_wp2_with (refine wpList_append_lies _ rfl _ _ 44 rfl w.heap.size 30 i0 (.agg #[.bool false, .slice none 0 0]) 2 32 Tryz.underlying44 hi hz0 hz1 hz2 rfl (by decide) u3 k (fl es) rfl (HO.out.alloc _) ⟨w1.heap.size, 0, none⟩ 1 1 [.bool s1, .slice p1 n1 n1] rfl rfl ?_ (fun x hx => by simp at hx; rcases hx with rfl | rfl <;> rfl) (by decide) (by unfold maxLen; omega) (by omega) (by simp; omega) _ rfl ?_; exact World.news_of_block (heap_alloc_new w1 _); intro g cap w3 hown3 hgrow3 hat3 hlt3; have hB3 : Below w.heap.size w w3 := ((bnext' H.out.2.2 hb1).alloc hsz _).grown hgrow3 (by simp; omega) (fun q hq => (HO.out.lt q hq).1); have HA : Hid (LR w.heap.size w3 4 (.slice (some ⟨g, 0, none⟩) (k + 1) cap) (es ++ [⟨s1, p1, n1, n1⟩]) (xs.take k ++ [gx xs k])) := lr_app H.out.1 H.out.2.1 hb1 HE.out hF1 hown3 hgrow3 hat3; clear hown3 hgrow3 hat3)
      refine ⟨⟨k + 1, es ++ [⟨s1, p1, n1, n1⟩], by omega, by go_num, by have := H.out.1; simp; omega, by rw [take_snocg xs k (by omega)]; exact HA.out, hB3⟩, by simp [intOf]; omega⟩
    · obtain rfl : k = n := by omega
      obtain ⟨hel, hLR, hB⟩ := H.out
      rw [List.take_of_length_le (by omega)] at hLR
      obtain ⟨q, cap, hv, hPR, hF⟩ := hLR.pr
      subst hv
      rw [hel] at hPR ⊢
      have HB : Hid (Below w.heap.size w wr) := hB
      clear H hLR hB hge hk
      go_wp2_with fail
      refine (rTrim_any 4 q k cap es xs _ hPR hn).mono ?_
      rintro e w1 ⟨rfl, hb1⟩
      have HP : Hid (PR wr 4 q k cap es xs) := hPR
      clear hPR
      go_wp2
      go_ret
      have htl := tlen_le xs
      have hcap := HP.out.cap
      have hT := (HP.out.below hb1).take (tlen xs) (tlen xs) (by omega) (Nat.le_refl _) (by omega)
      exact ⟨q, tlen xs, es.take (tlen xs), rfl, hT, hF, tlen_tr xs, bnext' HB.out hb1⟩
end Go.Proofs.YtmjokfcojilidaaGreatDoor
/-
  The reference's operators: Is, Eq, Lead, Order, Degree, Bits, Sub.
-/
namespace Go.Proofs.YtmjokfcojilidaaGreatDoor
open Go.RowKit
set_option linter.unusedVariables false
set_option linter.unusedSimpArgs false

set_option maxHeartbeats 2000000 in
set_option maxRecDepth 100000 in
/-- ashlarref8.Is, of what is so. -/
theorem rIs8_any {w : World} {B B2 T2 K E N E2 D : Nat} {l : List (List Int)} {p q : Option Addr} {n m c : Nat} {hs : List Hdr} (H : NO B w K E l p n hs) (G : HR D (EY N E2) w B2 T2 l ⟨q, m, c⟩) (hT : T2 ≤ w.heap.size) (hD : D ≤ 1000) (hK : K ≤ 1000) (hN : N ≤ 1000) (hE : E ≤ 1000000) :
    Calls Tryz.prog 23 #[.slice p n n, .slice q m c] w fun r w' => r = .returned (.bool true) ∧ Below w.heap.size w w' := by
  obtain ⟨rs, k⟩ := G
  have hm : m ≤ D := k.few
  obtain rfl : m = n := by have h1 := k.tl; have h2 := H.tl; simp only at h1; omega
  have HX : Hid (NO B w K E l p m hs) := H
  have HY : Hid (HRow D (EY N E2) w B2 T2 l ⟨q, m, c⟩ rs ∧ T2 ≤ w.heap.size) := ⟨k, hT⟩
  clear H k hT
  go_enter Tryz.func23, Tryz.ntmps23
  go_wp2_with fail
  go_loopw [5] (fun iv wr => ∃ j : Nat, j ≤ m ∧ iv = .int .i64 j ∧ Hid (Below w.heap.size w wr)) (fun iv _ => m - (intOf iv).toNat)
  case atStart => exact ⟨0, Nat.zero_le _, by go_num, Below.refl _ _⟩
  case round =>
    obtain ⟨j, hj, rfl, G⟩ := hrel
    rcases Nat.lt_or_ge j m with hlt | hge
    · have g4 := G.out
      obtain ⟨b, o, hp, hc⟩ := HX.out.hl (by rw [HX.out.el]; show 0 < m; omega)
      obtain ⟨b', o', hq, hd⟩ := HY.out.1.hl (by rw [HY.out.1.el]; show 0 < m; omega)
      simp only at hp hq
      subst hp hq
      have c0 := cell_later' g4 (hc j (by rw [HX.out.el]; exact hlt))
      have d0 := cell_later' g4 (hd j (by rw [HY.out.1.el]; exact hlt))
      obtain ⟨e1, e2, es2, hN2⟩ := HX.out.ev j hlt
      have hE3 := (lasts_EY N E2).below (HY.out.1.ev j hlt) HY.out.2 g4
      have hN3 := hN2.below g4
      generalize gh hs j = hd2 at c0 hN3 e1 e2
      generalize gh rs j = hd3 at d0 hE3
      obtain ⟨p2, n2, nc2⟩ := hd2
      obtain ⟨p3, n3, nc3⟩ := hd3
      obtain ⟨es3, hP3, f1, -, -, -⟩ := hE3
      simp only [Hdr.val] at c0 d0 e1 e2 hN3 hP3 f1
      subst e1 f1
      obtain rfl : nc3 = nc2 := by rw [← hP3.zl, ← hN3.zl]
      have i1 : (j : Int) < (m : Int) := by omega
      have hcall := fun w' (hb : Below wr.heap.size wr w') => rpIs_any (hN3.below hb) (hP3.below hb) hK hN (by omega)
      clear hc hd hP3 hN2 hN3 g4
      go_wp2_with fail
      go_region_held3 (fun w' => w'.cell? ⟨b, o + j, none⟩ = some (.slice p2 nc3 nc3) ∧ w'.cell? ⟨b', o' + j, none⟩ = some (.slice p3 nc3 nc3)) (first | with_reducible exact ⟨c0, d0⟩ | with_reducible exact keepc2 ⟨c0, d0⟩ hV1 | (simp [go_sem, *]; done))
        (first
          | (go_at_call 12; go_fit (hcall _ (Below.refl _ _).drew); rintro e w1 ⟨rfl, hb1⟩; have hV1 := undrew hb1))
      have HB : Hid (Below w.heap.size w w1) := bnext' G.out hV1
      clear c0 d0 hcall hV1 hb1
      go_wp2
      go_roundw
      case rel => exact ⟨j + 1, by omega, by go_num, HB.out⟩
      case measure => simp [intOf]; omega
    · obtain rfl : j = m := by omega
      have i1 : ¬ (j : Int) < (j : Int) := by omega
      go_wp2
      go_ret
      exact ⟨rfl, G.out⟩
set_option maxHeartbeats 2000000 in
set_option maxRecDepth 100000 in
/-- ashlarref8.Eq. -/
theorem rEq8_any {w : World} {B T B2 T2 N M E D : Nat} {l r : List (List Int)} {h k : Hdr} (H : HR D (EY N E) w B T l h) (G : HR D (EY M E) w B2 T2 r k) (hT : T ≤ w.heap.size) (hT2 : T2 ≤ w.heap.size) (hD : D ≤ 1000) (hN : N ≤ 1000) (hM : M ≤ 1000) (hE : E ≤ 1000000) :
    Calls Tryz.prog 40 #[.slice h.p h.n h.c, .slice k.p k.n k.c] w fun e w' => e = .returned (.bool (decide (l = r))) ∧ Below w.heap.size w w' := by
  obtain ⟨hs, kh⟩ := H
  obtain ⟨rs, kk⟩ := G
  have HX : Hid (HRow D (EY N E) w B T l h hs ∧ T ≤ w.heap.size) := ⟨kh, hT⟩
  have HY : Hid (HRow D (EY M E) w B2 T2 r k rs ∧ T2 ≤ w.heap.size) := ⟨kk, hT2⟩
  have hn : h.n ≤ D := kh.few
  have hm0 : k.n ≤ D := kk.few
  have HL : Hid (l.length = h.n ∧ r.length = k.n) := ⟨kh.tl, kk.tl⟩
  obtain ⟨p, n, nc⟩ := h
  obtain ⟨q, m, mc⟩ := k
  simp only at hn hm0 HL ⊢
  clear kh kk hT hT2
  by_cases hnm : n = m
  · subst hnm
    have g1 : ((n : Int) != (n : Int)) = false := by simp
    go_enter Tryz.func40, Tryz.ntmps40
    go_wp2_with fail
    go_loopw [5] (fun iv wr => ∃ j : Nat, j ≤ n ∧ iv = .int .i64 j ∧ Hid ((∀ i, i < j → gt l i = gt r i) ∧ Below w.heap.size w wr)) (fun iv _ => n - (intOf iv).toNat)
    case atStart => exact ⟨0, Nat.zero_le _, by go_num, fun i hi => by omega, Below.refl _ _⟩
    case round =>
      obtain ⟨j, hj, rfl, G⟩ := hrel
      rcases Nat.lt_or_ge j n with hlt | hge
      · have g4 := G.out.2
        obtain ⟨b, o, hp, hc⟩ := HX.out.1.hl (by rw [HX.out.1.el]; show 0 < n; omega)
        obtain ⟨b', o', hq, hd⟩ := HY.out.1.hl (by rw [HY.out.1.el]; show 0 < n; omega)
        simp only at hp hq
        subst hp hq
        have c0 := cell_later' g4 (hc j (by rw [HX.out.1.el]; exact hlt))
        have d0 := cell_later' g4 (hd j (by rw [HY.out.1.el]; exact hlt))
        have hE2 := (lasts_EY N E).below (HX.out.1.ev j hlt) HX.out.2 g4
        have hE3 := (lasts_EY M E).below (HY.out.1.ev j hlt) HY.out.2 g4
        generalize gh hs j = hd2 at c0 hE2
        generalize gh rs j = hd3 at d0 hE3
        obtain ⟨p2, n2, nc2⟩ := hd2
        obtain ⟨p3, n3, nc3⟩ := hd3
        obtain ⟨es2, hP2, -, -, b2, -⟩ := hE2
        obtain ⟨es3, hP3, -, -, b3, -⟩ := hE3
        simp only [Hdr.val] at c0 d0 hP2 hP3 b2 b3
        have i1 : (j : Int) < (n : Int) := by omega
        have hcall := fun w' (hb : Below wr.heap.size wr w') => rpEq_any (hP2.below hb) (hP3.below hb) hN hM (by omega) (by omega)
        clear hc hd hP3 hP2 g4
        have hcs : Hid (gt l j = gt r j ∨ ¬ gt l j = gt r j) := Classical.em _
        generalize hdd : decide (gt l j = gt r j) = dd at hcall
        have HD2 := (show Hid _ from hdd)
        clear hdd
        go_wp2_with fail
        go_region_held3 (fun w' => w'.cell? ⟨b, o + j, none⟩ = some (.slice p2 n2 nc2) ∧ w'.cell? ⟨b', o' + j, none⟩ = some (.slice p3 n3 nc3)) (first | with_reducible exact ⟨c0, d0⟩ | with_reducible exact keepc2 ⟨c0, d0⟩ hV1 | (simp [go_sem, *]; done))
          (first
            | (go_at_call 82; go_fit (hcall _ (Below.refl _ _).drew); rintro e w1 ⟨rfl, hb1⟩; have hV1 := undrew hb1))
        have HB : Hid (Below w.heap.size w w1) := bnext' G.out.2 hV1
        clear c0 d0 hcall hV1 hb1
        rcases hcs.out with hz | hz
        · obtain rfl : dd = true := by rw [← HD2.out]; exact decide_eq_true hz
          have HZ : Hid (gt l j = gt r j) := hz
          clear hz hcs
          go_wp2
          go_roundw
          case rel => exact ⟨j + 1, by omega, by go_num, fun i hi => by
            rcases Nat.lt_or_ge i j with h' | h'
            · exact G.out.1 i h'
            · obtain rfl : i = j := by omega
              exact HZ.out, HB.out⟩
          case measure => simp [intOf]; omega
        · obtain rfl : dd = false := by rw [← HD2.out]; exact decide_eq_false hz
          have HDD : Hid (decide (l = r) = false) := decide_eq_false fun e => hz (by rw [e])
          clear hz hcs HD2
          go_wp2
          go_ret
          exact ⟨by rw [HDD.out]; rfl, HB.out⟩
      · obtain rfl : j = n := by omega
        have i1 : ¬ (j : Int) < (j : Int) := by omega
        have HDD : Hid (decide (l = r) = true) := by
          obtain ⟨l1, l2⟩ := HL.out
          refine decide_eq_true (List.ext_getElem (l1.trans l2.symm) fun i h1 h2 => ?_)
          have h3 := G.out.1 i (by rw [← l1]; exact h1)
          simpa [gt, h1, h2] using h3
        clear hge
        go_wp2
        go_ret
        exact ⟨by rw [HDD.out]; rfl, G.out.2⟩
  · have hne : ¬ l = r := fun e => hnm (by have h1 := HL.out; rw [e] at h1; omega)
    have HDD : Hid (decide (l = r) = false) := decide_eq_false hne
    have hI : ((n : Int) != (m : Int)) = true := by rw [bne_iff_ne]; omega
    clear hne
    generalize decide (l = r) = dd at *
    obtain rfl : dd = false := HDD.out
    go_enter Tryz.func40, Tryz.ntmps40
    go_wp2
    go_ret
    exact ⟨rfl, Below.refl _ _⟩
set_option maxHeartbeats 2000000 in
/-- ashlarref8.At behind nothing. -/
theorem rAt8_none (w : World) (p : Option Addr) (nc : Nat) :
    Calls Tryz.prog 70 #[.slice p 0 nc, .int .i64 (-1)] w fun e w' => e = .returned (.slice none 0 0) ∧ w' = w := by
  go_enter Tryz.func70, Tryz.ntmps70
  go_wp2
  go_ret
  exact ⟨rfl, rfl⟩
set_option maxHeartbeats 2000000 in
/-- ashlarref8.Lead. -/
theorem rLead8_any {w : World} {B T N E D : Nat} {l : List (List Int)} {h : Hdr} (H : HR D (EY N E) w B T l h) (hD : D ≤ 1000) :
    Calls Tryz.prog 32 #[.slice h.p h.n h.c] w fun e w' => ∃ hd, e = .returned (Hdr.val hd) ∧ EY N E w B T (gt l (l.length - 1)) hd ∧ w' = w := by
  have hl : l.length = h.n ∧ h.n ≤ D := by obtain ⟨_, k⟩ := H; exact ⟨k.tl, k.few⟩
  rw [hl.1]
  have hat := fun i hi => rAt8_any H i hD hi
  have HN : Hid (h.n = 0 → EY N E w B T (gt l (h.n - 1)) ⟨none, 0, 0⟩) := fun h0 => by
    rw [gt_over0 _ _ (by omega)]
    exact ey_nil N E w B T
  obtain ⟨p, n, nc⟩ := h
  have hn := hl.2
  simp only at hat hn HN ⊢
  clear H hl
  rcases Nat.eq_zero_or_pos n with h0 | h0
  · subst h0
    go_enter Tryz.func32, Tryz.ntmps32
    go_wp2_with fail
    go_fit (rAt8_none w p nc)
    rintro e w1 ⟨rfl, hw⟩
    subst w1
    go_wp2
    go_ret
    exact ⟨⟨none, 0, 0⟩, rfl, HN.out (by trivial), rfl⟩
  · obtain ⟨i, rfl⟩ : ∃ i, n = i + 1 := ⟨n - 1, by omega⟩
    have v1 : wrap64 ((i : Int) + 1 - 1) = (i : Int) := by unfold wrap64; omega
    have hat' := hat i (by omega)
    clear hat
    go_enter Tryz.func32, Tryz.ntmps32
    go_wp2_with fail
    go_fit hat'
    rintro e w1 ⟨⟨p2, n2, nc2⟩, rfl, he, hw⟩
    subst w1
    have HE : Hid (EY N E w B T (gt l (i + 1 - 1)) ⟨p2, n2, nc2⟩) := he
    clear he hat'
    simp only [Hdr.val]
    go_wp2
    go_ret
    exact ⟨⟨p2, n2, nc2⟩, rfl, HE.out, rfl⟩
set_option maxHeartbeats 2000000 in
/-- ashlarref8.Order. -/
theorem rOrder8_any (w : World) (p : Option Addr) (n nc : Nat) (hn : n ≤ 1000000) :
    Calls Tryz.prog 34 #[.slice p n nc] w fun e w' => e = .returned (.int .i64 ((n : Int) - 1)) ∧ w' = w := by
  have v1 : IntKind.i64.wrap ((n : Int) - 1) = (n : Int) - 1 := by rw [IntKind.wrap_i64]; omega
  go_enter Tryz.func34, Tryz.ntmps34
  go_wp2
  go_ret
  exact ⟨by simp [go_sem, v1], rfl⟩
end Go.Proofs.YtmjokfcojilidaaGreatDoor
/-
  Rows of one and two integers, made new (out of Di).
-/
namespace Go.Proofs.YtmjokfcojilidaaGreatDoor
open Go.RowKit
set_option linter.unusedVariables false
set_option linter.unusedSimpArgs false

theorem rd_one (w : World) (z : Int) (t : Nat) : Rd (w.alloc (.cells #[.int .i64 z] t)) (some ⟨w.heap.size, 0, none⟩) .i64 [z] := fun _ => ⟨w.heap.size, 0, rfl, fun j hj => by
  obtain rfl : j = 0 := by simp at hj; omega
  simp [go_sem, gx]⟩
theorem rd_two (w : World) (y z : Int) (t : Nat) : Rd (w.alloc (.cells #[.int .i64 y, .int .i64 z] t)) (some ⟨w.heap.size, 0, none⟩) .i64 [y, z] := fun _ => ⟨w.heap.size, 0, rfl, fun j hj => by
  match j, hj with
  | 0, _ => simp [go_sem, gx]
  | 1, _ => simp [go_sem, gx]⟩
end Go.Proofs.YtmjokfcojilidaaGreatDoor
