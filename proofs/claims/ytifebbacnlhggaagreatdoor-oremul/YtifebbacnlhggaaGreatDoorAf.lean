/-
  The reference's operators: From, Add, Scale.
-/
import Derived.Test.YtifebbacnlhggaaGreatDoorDsAeVuWxUpUqRm
import Derived.Test.YtifebbacnlhggaaGreatDoorUlUmVsUoDmVt
import Derived.Deep.DeepFit
namespace Go.Proofs.YtifebbacnlhggaaGreatDoor
open Go.RowKit
set_option linter.unusedVariables false
set_option linter.unusedSimpArgs false
set_option maxHeartbeats 8000000
set_option maxRecDepth 100000 in
theorem rFrom8_any {w : World} {B T K E D : Nat} {zss : List (List Int)} {h : Hdr} (H : HR D (EZ K E) w B T zss h) (hT : T ≤ w.heap.size) (hD : D ≤ 1000) (hE : E ≤ 1000) (hK : K ≤ 400) :
    Calls Tryz.prog 26 #[.slice h.p h.n h.c] w (OrP D (zss.map tr) (2 * K) E w) := by
  obtain ⟨I0, hi, hzz⟩ := Option.map_eq_some_iff.1 info_refP
  simp only [Prod.mk.injEq] at hzz
  obtain ⟨hz0, hz1, hz2⟩ := hzz
  have HI : Hid (Tryz.prog.info? 44 = some I0 ∧ I0.zero = some (.slice none 0 0) ∧ I0.size = 1 ∧ I0.bytes = 24) := ⟨hi, hz0, hz1, hz2⟩
  clear hi hz0 hz1 hz2
  obtain ⟨hs, k⟩ := H
  have HX : Hid (HRow D (EZ K E) w B T zss h hs ∧ T ≤ w.heap.size) := ⟨k, hT⟩
  have hn : h.n ≤ D := k.few
  have HL : Hid (zss.length = h.n) := k.tl
  obtain ⟨p, n, nc⟩ := h
  simp only at hn HL ⊢
  clear k hT
  go_enter Tryz.func26, Tryz.ntmps26
  go_wp2_with fail
  go_loopw [3, 4] (fun qv iv wr => ∃ (k : Nat) (ls : List Hdr), k ≤ n ∧ iv = .int .i64 k ∧ Hid (ls.length = k ∧ LH w.heap.size 44 (EY (2 * K) E) wr qv ls ((zss.take k).map tr) ∧ Below w.heap.size w wr)) (fun _ iv _ => n - (intOf iv).toNat)
  case atStart => exact ⟨0, [], Nat.zero_le _, by go_num, rfl, by rw [List.take_zero]; exact LH.nil _ _ _ _, Below.refl _ _⟩
  case round =>
    obtain ⟨k, ls, hk, rfl, G⟩ := hrel
    rcases Nat.lt_or_ge k n with hlt | hge
    · have g4 := G.out.2.2
      obtain ⟨b, o, hp, hc⟩ := HX.out.1.hl (by rw [HX.out.1.el]; show 0 < n; omega)
      simp only at hp
      subst hp
      have c0 := hc k (by rw [HX.out.1.el]; exact hlt)
      have c1 : wr.cell? ⟨b, o + k, none⟩ = some (gh hs k).val := by rw [g4.cell (block_lt_of_cell c0)]; exact c0
      have hE2 := (lasts_EZ K E).below (HX.out.1.ev k hlt) HX.out.2 g4
      generalize gh hs k = hd at c1 hE2
      obtain ⟨p2, n2, nc2⟩ := hd
      simp only [Hdr.val] at c1
      obtain ⟨es2, hP2, hd3, -, -⟩ := hE2
      simp only at hP2 hd3
      have i1 : (k : Int) < (n : Int) := by omega
      have hcall := rpFrom_new hP2 (by omega) hK
      have hlen : Hid (tlen (gt zss k) ≤ E) := by have h1 := tlen_le (gt zss k); have h2 := hP2.zl; show _ ≤ _; omega
      clear hc c0 hP2 g4
      go_wp2_with fail
      go_fit hcall
      rintro e w1 ⟨q, m, fs, rfl, hR1, hF1, ht1, hF2, hb1⟩
      have HE : Hid (EY (2 * K) E w1 wr.heap.size w1.heap.size (tr (gt zss k)) ⟨q, m, m⟩) := ey_of_from hR1 hF1 ht1 hF2 (by rw [← ht1, tlen_tr]; exact hlen.out)
      clear c1 hR1 hF1 hF2 hcall
      obtain ⟨hi, hz0, hz1, hz2⟩ := HI.out
      have hown0 := own_below G.out.2.1.own hb1
      rw [G.out.1] at hown0
      have HO : Hid (w1.ownsRow w.heap.size 44 1 u3 k (ls.map Hdr.val)) := hown0
      have hsz : w.heap.size ≤ w1.heap.size := Nat.le_trans G.out.2.2.size hb1.size
      clear hown0
      go_wp2_with (refine wpList_append_lies _ rfl _ _ 57 rfl w.heap.size 44 I0 (.slice none 0 0) 1 24 Tryz.underlying57 hi hz0 hz1 hz2 rfl (by decide) u3 k (ls.map Hdr.val) rfl (HO.out.alloc _) ⟨w1.heap.size, 0, none⟩ 1 1 [.slice q m m] rfl rfl ?_ (fun x hx => by simp at hx; subst hx; rfl) (by decide) (by unfold maxLen; omega) (by omega) (by simp; omega) _ rfl ?_; exact World.news_of_block (heap_alloc_new w1 _); intro g cap w3 hown3 hgrow3 hat3 hlt3; have hB3 : Below w.heap.size w w3 := ((bnext' G.out.2.2 hb1).alloc hsz _).grown hgrow3 (by simp; omega) (fun q hq => (HO.out.lt q hq).1); have HA : Hid (LH w.heap.size 44 (EY (2 * K) E) w3 (.slice (some ⟨g, 0, none⟩) (k + 1) cap) (ls ++ [⟨q, m, m⟩]) ((zss.take k).map tr ++ [tr (gt zss k)])) := LH.app (lasts_EY (2 * K) E) G.out.1 G.out.2.1 hb1 HE.out (Nat.le_refl _) (Nat.le_refl _) G.out.2.2.size hown3 hgrow3 hat3; clear hown3 hgrow3 hat3)
      refine ⟨⟨k + 1, ls ++ [⟨q, m, m⟩], by omega, by go_num, by have := G.out.1; simp; omega, by rw [take_map_snoc tr zss k (by have := HL.out; omega)]; exact HA.out, hB3⟩, by simp [intOf]; omega⟩
    · obtain rfl : k = n := by omega
      obtain ⟨hel, hLR, hB⟩ := G.out
      rw [List.take_of_length_le (by have := HL.out; omega)] at hLR
      obtain ⟨q, cap, hv, hRow⟩ := hLR.row (lasts_EY (2 * K) E) (D := D) (by omega)
      subst hv
      have ht2 := rTrim8_any ⟨_, hRow⟩ (Nat.le_refl _) (by omega) (by omega)
      have HRW : Hid (HRow D (EY (2 * K) E) wr w.heap.size wr.heap.size (zss.map tr) ⟨q, ls.length, cap⟩ ls ∧ Below w.heap.size w wr) := ⟨hRow, hB⟩
      simp only at ht2
      rw [hel] at ht2 ⊢
      clear hRow hLR hB G
      go_wp2_with fail
      go_fit ht2
      rintro e w1 ⟨rfl, hb1⟩
      have HR' : Hid (OrP D (zss.map tr) (2 * K) E w (.returned (.slice q (olen (zss.map tr)) (olen (zss.map tr)))) w1) := trim_end HRW.out.1 HRW.out.2 hb1
      clear hb1 ht2
      generalize olen (zss.map tr) = m at *
      go_wp2
      go_ret
      exact HR'.out
set_option maxRecDepth 100000 in
theorem rAdd8_any {w : World} {B T N E D B2 T2 M : Nat} {zss yss : List (List Int)} {h k : Hdr} (H : HR D (EY N E) w B T zss h) (G : HR D (EY M E) w B2 T2 yss k) (hT : T ≤ w.heap.size) (hT2 : T2 ≤ w.heap.size) (hD : D ≤ 1000) (hE : E ≤ 1000) (hN : N ≤ 400) (hM : M ≤ 400) (hN4 : 4 ≤ N) (hM4 : 4 ≤ M) :
    Calls Tryz.prog 69 #[.slice h.p h.n h.c, .slice k.p k.n k.c] w (OrP D ((List.range (max zss.length yss.length)).map fun i => tr (pz (· + ·) (gt zss i) (gt yss i))) (N + M + 1) E w) := by
  obtain ⟨I0, hi, hzz⟩ := Option.map_eq_some_iff.1 info_refP
  simp only [Prod.mk.injEq] at hzz
  obtain ⟨hz0, hz1, hz2⟩ := hzz
  have HI : Hid (Tryz.prog.info? 44 = some I0 ∧ I0.zero = some (.slice none 0 0) ∧ I0.size = 1 ∧ I0.bytes = 24) := ⟨hi, hz0, hz1, hz2⟩
  clear hi hz0 hz1 hz2
  have HX : Hid (HR D (EY N E) w B T zss h ∧ T ≤ w.heap.size) := ⟨H, hT⟩
  have HY : Hid (HR D (EY M E) w B2 T2 yss k ∧ T2 ≤ w.heap.size) := ⟨G, hT2⟩
  have hlx : zss.length = h.n ∧ h.n ≤ D := by obtain ⟨_, k⟩ := H; exact ⟨k.tl, k.few⟩
  have hly : yss.length = k.n ∧ k.n ≤ D := by obtain ⟨_, k⟩ := G; exact ⟨k.tl, k.few⟩
  rw [hlx.1, hly.1]
  have hn := hlx.2
  have hm := hly.2
  obtain ⟨p, n, nc⟩ := h
  obtain ⟨q, m, mc⟩ := k
  simp only at hn hm ⊢
  clear H G hT hT2 hlx hly
  go_enter Tryz.func69, Tryz.ntmps69
  go_wp2_with fail
  go_loopw [5, 6] (fun qv iv wr => ∃ (k : Nat) (ls : List Hdr), (k ≤ n ∨ k ≤ m) ∧ iv = .int .i64 k ∧ Hid (ls.length = k ∧ LH w.heap.size 44 (EY (N + M + 1) E) wr qv ls ((List.range k).map fun i => tr (pz (· + ·) (gt zss i) (gt yss i))) ∧ Below w.heap.size w wr)) (fun _ iv _ => max n m - (intOf iv).toNat)
  case atStart => exact ⟨0, [], .inl (Nat.zero_le _), by go_num, rfl, LH.nil _ _ _ _, Below.refl _ _⟩
  case round =>
    obtain ⟨k, ls, hk, rfl, G⟩ := hrel
    by_cases hlt : k < n ∨ k < m
    · have ha := rAt8_any ((lasts_HR (lasts_EY N E)).below HX.out.1 HX.out.2 G.out.2.2) k hD (by omega)
      have hb := rAt8_any ((lasts_HR (lasts_EY M E)).below HY.out.1 HY.out.2 G.out.2.2) k hD (by omega)
      simp only at ha hb
      rcases Nat.lt_or_ge k n with hkn | hkn
      · have i1 : (k : Int) < (n : Int) := by omega
        go_wp2_with fail
        go_fit ha
        rintro e v1 ⟨⟨p2, n2, nc2⟩, rfl, e2, hw⟩
        subst v1
        have HE2 : Hid (EY N E wr B T (gt zss k) ⟨p2, n2, nc2⟩) := e2
        clear e2 ha
        simp only [Hdr.val]
        go_wp2_with fail
        go_fit hb
        rintro e v1 ⟨⟨p3, n3, nc3⟩, rfl, e3, hw⟩
        subst v1
        have HE3 : Hid (EY M E wr B2 T2 (gt yss k) ⟨p3, n3, nc3⟩) := e3
        clear e3 hb
        obtain ⟨fs2, q2, a2, b2, d2, -⟩ := HE2.out
        obtain ⟨fs3, q3, a3, b3, d3, -⟩ := HE3.out
        simp only at q2 q3 a2 a3 b2 b3 d2 d3
        have hcall := rpAdd_new q2 q3 (by omega) (by omega) hN hM hN4 hM4
        have hlen : Hid (tlen (pz (· + ·) (gt zss k) (gt yss k)) ≤ E) := by
          refine Nat.le_trans (tlen_le _) ?_
          have h1 := q2.zl
          have h2 := q3.zl
          simp only [pz, List.length_map, List.length_range]
          omega
        clear q2 q3 a2 a3 b2 b3 d2 d3 HE2 HE3
        simp only [Hdr.val]
        go_wp2_with fail
        go_fit hcall
        rintro e w1 ⟨q, m', fs, rfl, hR1, hF1, ht1, hF2, hb1⟩
        have HE : Hid (EY (N + M + 1) E w1 wr.heap.size w1.heap.size (tr (pz (· + ·) (gt zss k) (gt yss k))) ⟨q, m', m'⟩) := ey_of_from hR1 hF1 ht1 hF2 (by rw [← ht1, tlen_tr]; exact hlen.out)
        clear hR1 hF1 hF2 hcall
        obtain ⟨hi, hz0, hz1, hz2⟩ := HI.out
        have hown0 := own_below G.out.2.1.own hb1
        rw [G.out.1] at hown0
        have HO : Hid (w1.ownsRow w.heap.size 44 1 u5 k (ls.map Hdr.val)) := hown0
        have hsz : w.heap.size ≤ w1.heap.size := Nat.le_trans G.out.2.2.size hb1.size
        clear hown0
        go_wp2_with (refine wpList_append_lies _ rfl _ _ 57 rfl w.heap.size 44 I0 (.slice none 0 0) 1 24 Tryz.underlying57 hi hz0 hz1 hz2 rfl (by decide) u5 k (ls.map Hdr.val) rfl (HO.out.alloc _) ⟨w1.heap.size, 0, none⟩ 1 1 [.slice q m' m'] rfl rfl ?_ (fun x hx => by simp at hx; subst hx; rfl) (by decide) (by unfold maxLen; omega) (by omega) (by simp; omega) _ rfl ?_; exact World.news_of_block (heap_alloc_new w1 _); intro g cap w3 hown3 hgrow3 hat3 hlt3; have hB3 : Below w.heap.size w w3 := ((bnext' G.out.2.2 hb1).alloc hsz _).grown hgrow3 (by simp; omega) (fun q hq => (HO.out.lt q hq).1); have HA : Hid (LH w.heap.size 44 (EY (N + M + 1) E) w3 (.slice (some ⟨g, 0, none⟩) (k + 1) cap) (ls ++ [⟨q, m', m'⟩]) ((List.range k).map (fun i => tr (pz (· + ·) (gt zss i) (gt yss i))) ++ [tr (pz (· + ·) (gt zss k) (gt yss k))])) := LH.app (lasts_EY (N + M + 1) E) G.out.1 G.out.2.1 hb1 HE.out (Nat.le_refl _) (Nat.le_refl _) G.out.2.2.size hown3 hgrow3 hat3; clear hown3 hgrow3 hat3)
        refine ⟨⟨k + 1, ls ++ [⟨q, m', m'⟩], by omega, by go_num, by have := G.out.1; simp; omega, by rw [List.range_succ, List.map_append]; exact HA.out, hB3⟩, by simp [intOf]; omega⟩
      · have i1 : ¬ (k : Int) < (n : Int) := by omega
        have i2 : (k : Int) < (m : Int) := by omega
        go_wp2_with fail
        go_fit ha
        rintro e v1 ⟨⟨p2, n2, nc2⟩, rfl, e2, hw⟩
        subst v1
        have HE2 : Hid (EY N E wr B T (gt zss k) ⟨p2, n2, nc2⟩) := e2
        clear e2 ha
        simp only [Hdr.val]
        go_wp2_with fail
        go_fit hb
        rintro e v1 ⟨⟨p3, n3, nc3⟩, rfl, e3, hw⟩
        subst v1
        have HE3 : Hid (EY M E wr B2 T2 (gt yss k) ⟨p3, n3, nc3⟩) := e3
        clear e3 hb
        obtain ⟨fs2, q2, a2, b2, d2, -⟩ := HE2.out
        obtain ⟨fs3, q3, a3, b3, d3, -⟩ := HE3.out
        simp only at q2 q3 a2 a3 b2 b3 d2 d3
        have hcall := rpAdd_new q2 q3 (by omega) (by omega) hN hM hN4 hM4
        have hlen : Hid (tlen (pz (· + ·) (gt zss k) (gt yss k)) ≤ E) := by
          refine Nat.le_trans (tlen_le _) ?_
          have h1 := q2.zl
          have h2 := q3.zl
          simp only [pz, List.length_map, List.length_range]
          omega
        clear q2 q3 a2 a3 b2 b3 d2 d3 HE2 HE3
        simp only [Hdr.val]
        go_wp2_with fail
        go_fit hcall
        rintro e w1 ⟨q, m', fs, rfl, hR1, hF1, ht1, hF2, hb1⟩
        have HE : Hid (EY (N + M + 1) E w1 wr.heap.size w1.heap.size (tr (pz (· + ·) (gt zss k) (gt yss k))) ⟨q, m', m'⟩) := ey_of_from hR1 hF1 ht1 hF2 (by rw [← ht1, tlen_tr]; exact hlen.out)
        clear hR1 hF1 hF2 hcall
        obtain ⟨hi, hz0, hz1, hz2⟩ := HI.out
        have hown0 := own_below G.out.2.1.own hb1
        rw [G.out.1] at hown0
        have HO : Hid (w1.ownsRow w.heap.size 44 1 u5 k (ls.map Hdr.val)) := hown0
        have hsz : w.heap.size ≤ w1.heap.size := Nat.le_trans G.out.2.2.size hb1.size
        clear hown0
        go_wp2_with (refine wpList_append_lies _ rfl _ _ 57 rfl w.heap.size 44 I0 (.slice none 0 0) 1 24 Tryz.underlying57 hi hz0 hz1 hz2 rfl (by decide) u5 k (ls.map Hdr.val) rfl (HO.out.alloc _) ⟨w1.heap.size, 0, none⟩ 1 1 [.slice q m' m'] rfl rfl ?_ (fun x hx => by simp at hx; subst hx; rfl) (by decide) (by unfold maxLen; omega) (by omega) (by simp; omega) _ rfl ?_; exact World.news_of_block (heap_alloc_new w1 _); intro g cap w3 hown3 hgrow3 hat3 hlt3; have hB3 : Below w.heap.size w w3 := ((bnext' G.out.2.2 hb1).alloc hsz _).grown hgrow3 (by simp; omega) (fun q hq => (HO.out.lt q hq).1); have HA : Hid (LH w.heap.size 44 (EY (N + M + 1) E) w3 (.slice (some ⟨g, 0, none⟩) (k + 1) cap) (ls ++ [⟨q, m', m'⟩]) ((List.range k).map (fun i => tr (pz (· + ·) (gt zss i) (gt yss i))) ++ [tr (pz (· + ·) (gt zss k) (gt yss k))])) := LH.app (lasts_EY (N + M + 1) E) G.out.1 G.out.2.1 hb1 HE.out (Nat.le_refl _) (Nat.le_refl _) G.out.2.2.size hown3 hgrow3 hat3; clear hown3 hgrow3 hat3)
        refine ⟨⟨k + 1, ls ++ [⟨q, m', m'⟩], by omega, by go_num, by have := G.out.1; simp; omega, by rw [List.range_succ, List.map_append]; exact HA.out, hB3⟩, by simp [intOf]; omega⟩
    · have i1 : ¬ (k : Int) < (n : Int) := by omega
      have i2 : ¬ (k : Int) < (m : Int) := by omega
      obtain ⟨hel, hLR, hB⟩ := G.out
      have HKM : Hid (max n m = k) := by show _ = _; omega
      obtain ⟨q', cap, hv, hRow⟩ := hLR.row (lasts_EY (N + M + 1) E) (D := D) (by omega)
      subst hv
      have ht2 := rTrim8_any ⟨_, hRow⟩ (Nat.le_refl _) (by omega) (by omega)
      have HRW : Hid (HRow D (EY (N + M + 1) E) wr w.heap.size wr.heap.size ((List.range k).map fun i => tr (pz (· + ·) (gt zss i) (gt yss i))) ⟨q', ls.length, cap⟩ ls ∧ Below w.heap.size w wr) := ⟨hRow, hB⟩
      simp only at ht2
      rw [hel] at ht2 ⊢
      clear hRow hLR hB G
      go_wp2_with fail
      go_fit ht2
      rintro e w1 ⟨rfl, hb1⟩
      have HR' : Hid (OrP D ((List.range k).map fun i => tr (pz (· + ·) (gt zss i) (gt yss i))) (N + M + 1) E w (.returned (.slice q' (olen ((List.range k).map fun i => tr (pz (· + ·) (gt zss i) (gt yss i)))) (olen ((List.range k).map fun i => tr (pz (· + ·) (gt zss i) (gt yss i)))))) w1) := trim_end HRW.out.1 HRW.out.2 hb1
      clear hb1 ht2
      generalize olen ((List.range k).map fun i => tr (pz (· + ·) (gt zss i) (gt yss i))) = m' at *
      go_wp2
      go_ret
      rw [HKM.out]
      exact HR'.out
theorem pr_bdk {w : World} {K : Nat} {p : Option Addr} {n nc : Nat} {es : List Ent} {zs : List Int} (h : PR w (2 * K) p n nc es zs) (i : Nat) : ((gx zs i).natAbs : Int) < pw K := by
  have e : pd (2 * K) = pw K := by unfold pd pw; rw [Int.pow_mul]; rfl
  rcases Nat.lt_or_ge i n with hi | hi
  · rw [← e]
    exact (h.ev i hi).1.bd
  · have h0 : gx zs i = 0 := by simp [gx, h.zl, hi]
    rw [h0]
    exact pw_pos K
theorem mulp_le (zs ys : List Int) : (mulp zs ys).length ≤ zs.length + ys.length := by
  unfold mulp
  split
  · simp
  · rw [length_mulz]; omega
set_option maxRecDepth 100000 in
theorem rScale8_any {w : World} {A K L B T E D E' : Nat} {p : Option Addr} {n nc : Nat} {es : List Ent} {zs : List Int} {yss : List (List Int)} {k : Hdr} (H : PR w A p n nc es zs) (hz : tlen zs = zs.length) (hA : A ≤ 200) (hX : ∀ i, ((gx zs i).natAbs : Int) < pw K) (G : HR D (EY (2 * L) E) w B T yss k) (hT : T ≤ w.heap.size) (hD : D ≤ 1000) (hE : E ≤ 900) (hn : n ≤ 100) (hKL : K + L ≤ 100) (hE' : n + E ≤ E') (hE2 : E' ≤ 1000) :
    Calls Tryz.prog 70 #[.slice p n nc, .slice k.p k.n k.c] w (OrP D (yss.map (mulp zs)) (2 * (K + L + 1)) E' w) := by
  obtain ⟨I0, hi, hzz⟩ := Option.map_eq_some_iff.1 info_refP
  simp only [Prod.mk.injEq] at hzz
  obtain ⟨hz0, hz1, hz2⟩ := hzz
  have HI : Hid (Tryz.prog.info? 44 = some I0 ∧ I0.zero = some (.slice none 0 0) ∧ I0.size = 1 ∧ I0.bytes = 24) := ⟨hi, hz0, hz1, hz2⟩
  clear hi hz0 hz1 hz2
  obtain ⟨hs, g⟩ := G
  have HX : Hid (HRow D (EY (2 * L) E) w B T yss k hs ∧ T ≤ w.heap.size) := ⟨g, hT⟩
  have HP : Hid (PR w A p n nc es zs ∧ tlen zs = zs.length ∧ ∀ i, ((gx zs i).natAbs : Int) < pw K) := ⟨H, hz, hX⟩
  have hm : k.n ≤ D := g.few
  have HL : Hid (yss.length = k.n) := g.tl
  obtain ⟨q, m, mc⟩ := k
  simp only at hm HL ⊢
  clear g hT H hX hz
  go_enter Tryz.func70, Tryz.ntmps70
  go_wp2_with fail
  go_loopw [5, 6] (fun qv iv wr => ∃ (k : Nat) (ls : List Hdr), k ≤ m ∧ iv = .int .i64 k ∧ Hid (ls.length = k ∧ LH w.heap.size 44 (EY (2 * (K + L + 1)) E') wr qv ls ((yss.take k).map (mulp zs)) ∧ Below w.heap.size w wr)) (fun _ iv _ => m - (intOf iv).toNat)
  case atStart => exact ⟨0, [], Nat.zero_le _, by go_num, rfl, by rw [List.take_zero]; exact LH.nil _ _ _ _, Below.refl _ _⟩
  case round =>
    obtain ⟨k, ls, hk, rfl, G⟩ := hrel
    rcases Nat.lt_or_ge k m with hlt | hge
    · have g4 := G.out.2.2
      obtain ⟨b, o, hp, hc⟩ := HX.out.1.hl (by rw [HX.out.1.el]; show 0 < m; omega)
      simp only at hp
      subst hp
      have c0 := hc k (by rw [HX.out.1.el]; exact hlt)
      have c1 : wr.cell? ⟨b, o + k, none⟩ = some (gh hs k).val := by rw [g4.cell (block_lt_of_cell c0)]; exact c0
      have hE2 := (lasts_EY (2 * L) E).below (HX.out.1.ev k hlt) HX.out.2 g4
      generalize gh hs k = hd at c1 hE2
      obtain ⟨p2, n2, nc2⟩ := hd
      simp only [Hdr.val] at c1
      obtain ⟨es2, hP2, a2, b2, hd3, -⟩ := hE2
      simp only at hP2 hd3 a2 b2
      have i1 : (k : Int) < (m : Int) := by omega
      have hcall := rpMul_new (HP.out.1.below g4) hP2 HP.out.2.1 (by rw [b2, hP2.zl]) (by omega) (by omega) hA (by omega) HP.out.2.2 (pr_bdk hP2) hKL
      have hlen : Hid ((mulp zs (gt yss k)).length ≤ E') := by have h1 := mulp_le zs (gt yss k); have h2 := hP2.zl; have h3 := HP.out.1.zl; show _ ≤ _; omega
      clear hc c0 hP2 g4 a2 b2
      go_wp2_with fail
      go_fit hcall
      rintro e w1 ⟨q1, m', fs, rfl, hR1, hF1, ht1, hF2, hb1⟩
      have HE : Hid (EY (2 * (K + L + 1)) E' w1 wr.heap.size w1.heap.size (mulp zs (gt yss k)) ⟨q1, m', m'⟩) := ey_of_from hR1 hF1 ht1 hF2 (by rw [← hR1.zl]; exact hlen.out)
      clear c1 hR1 hF1 hF2 hcall
      obtain ⟨hi, hz0, hz1, hz2⟩ := HI.out
      have hown0 := own_below G.out.2.1.own hb1
      rw [G.out.1] at hown0
      have HO : Hid (w1.ownsRow w.heap.size 44 1 u5 k (ls.map Hdr.val)) := hown0
      have hsz : w.heap.size ≤ w1.heap.size := Nat.le_trans G.out.2.2.size hb1.size
      clear hown0
      go_wp2_with (refine wpList_append_lies _ rfl _ _ 57 rfl w.heap.size 44 I0 (.slice none 0 0) 1 24 Tryz.underlying57 hi hz0 hz1 hz2 rfl (by decide) u5 k (ls.map Hdr.val) rfl (HO.out.alloc _) ⟨w1.heap.size, 0, none⟩ 1 1 [.slice q1 m' m'] rfl rfl ?_ (fun x hx => by simp at hx; subst hx; rfl) (by decide) (by unfold maxLen; omega) (by omega) (by simp; omega) _ rfl ?_; exact World.news_of_block (heap_alloc_new w1 _); intro g cap w3 hown3 hgrow3 hat3 hlt3; have hB3 : Below w.heap.size w w3 := ((bnext' G.out.2.2 hb1).alloc hsz _).grown hgrow3 (by simp; omega) (fun q hq => (HO.out.lt q hq).1); have HA : Hid (LH w.heap.size 44 (EY (2 * (K + L + 1)) E') w3 (.slice (some ⟨g, 0, none⟩) (k + 1) cap) (ls ++ [⟨q1, m', m'⟩]) ((yss.take k).map (mulp zs) ++ [mulp zs (gt yss k)])) := LH.app (lasts_EY (2 * (K + L + 1)) E') G.out.1 G.out.2.1 hb1 HE.out (Nat.le_refl _) (Nat.le_refl _) G.out.2.2.size hown3 hgrow3 hat3; clear hown3 hgrow3 hat3)
      refine ⟨⟨k + 1, ls ++ [⟨q1, m', m'⟩], by omega, by go_num, by have := G.out.1; simp; omega, by rw [take_map_snoc (mulp zs) yss k (by have := HL.out; omega)]; exact HA.out, hB3⟩, by simp [intOf]; omega⟩
    · obtain rfl : k = m := by omega
      obtain ⟨hel, hLR, hB⟩ := G.out
      rw [List.take_of_length_le (by have := HL.out; omega)] at hLR
      obtain ⟨q', cap, hv, hRow⟩ := hLR.row (lasts_EY (2 * (K + L + 1)) E') (D := D) (by omega)
      subst hv
      have ht2 := rTrim8_any ⟨_, hRow⟩ (Nat.le_refl _) (by omega) (by omega)
      have HRW : Hid (HRow D (EY (2 * (K + L + 1)) E') wr w.heap.size wr.heap.size (yss.map (mulp zs)) ⟨q', ls.length, cap⟩ ls ∧ Below w.heap.size w wr) := ⟨hRow, hB⟩
      simp only at ht2
      rw [hel] at ht2 ⊢
      clear hRow hLR hB G
      go_wp2_with fail
      go_fit ht2
      rintro e w1 ⟨rfl, hb1⟩
      have HR' : Hid (OrP D (yss.map (mulp zs)) (2 * (K + L + 1)) E' w (.returned (.slice q' (olen (yss.map (mulp zs))) (olen (yss.map (mulp zs))))) w1) := trim_end HRW.out.1 HRW.out.2 hb1
      clear hb1 ht2
      generalize olen (yss.map (mulp zs)) = m' at *
      go_wp2
      go_ret
      exact HR'.out
end Go.Proofs.YtifebbacnlhggaaGreatDoor
