/-
  The set-up of layer 7's laws answers true, in whatever memory, and leaves what was there.
-/
import Derived.Test.YtlhgpejapmpcmaaGreatDoorG9
import Derived.Test.YtlhgpejapmpcmaaGreatDoorProg
import Derived.Test.YtlhgpejapmpcmaaGreatDoorOu
import Derived.Test.YtlhgpejapmpcmaaGreatDoorOt
import Derived.Test.YtlhgpejapmpcmaaGreatDoorRkVq
import Derived.Test.YtlhgpejapmpcmaaGreatDoorUl
import Derived.Test.YtlhgpejapmpcmaaGreatDoorUmUoDmDnOyVuWx
import Derived.Deep.DeepFit
namespace Go.Proofs.YtlhgpejapmpcmaaGreatDoor
open Go.RowKit
theorem nong7 : Ev.NoNG Tryz.prog := Ev.nong_of (by kernel_rfl)
theorem begun7_any (w : World) : Calls Tryz.prog 5 #[] w fun r w' => r = .returned (.bool true) ∧ Below w.heap.size w w' :=
  Ev.closed_call nong7 (by kernel_rfl) (n := 100000) (by kernel_rfl) w
end Go.Proofs.YtlhgpejapmpcmaaGreatDoor
/-
  MatCost's walk.
-/
namespace Go.Proofs.YtlhgpejapmpcmaaGreatDoor
open Go.RowKit
set_option linter.unusedVariables false
set_option linter.unusedSimpArgs false

theorem gt_map {α β : Type} [Inhabited α] [Inhabited β] (f : α → β) (l : List α) (j : Nat) (h : j < l.length) : gt (l.map f) j = f (gt l j) := by simp [gt, h]
theorem gt_over {α : Type} [Inhabited α] (l : List α) (j : Nat) (h : l.length ≤ j) : gt l j = default := by simp [gt, h]
theorem pbs_tr {w : World} {B T R C : Nat} {ts : List (List (List Int))} {h : Hdr} (H : HR R (HR C (EZ 1 3)) w B T ts h) (i j : Nat) : pb (gt (gt (ts.map (·.map tr)) i) j) ≤ 32 := by
  obtain ⟨hs, k⟩ := H
  rcases Nat.lt_or_ge i ts.length with hi | hi
  · rw [gt_map _ _ _ hi]
    obtain ⟨rs, k2⟩ := k.ev i (by rw [← k.tl]; exact hi)
    rcases Nat.lt_or_ge j (gt ts i).length with hj | hj
    · rw [gt_map _ _ _ hj, pb_trim]
      obtain ⟨fs, hP, -⟩ := k2.ev j (by rw [← k2.tl]; exact hj)
      have := pb_few hP
      omega
    · rw [gt_over _ _ (by rw [List.length_map]; exact hj)]
      exact Nat.zero_le _
  · have h1 : gt (ts.map (·.map tr)) i = default := gt_over _ _ (by rw [List.length_map]; exact hi)
    have h2 : gt (default : List (List Int)) j = default := gt_over _ _ (Nat.zero_le _)
    rw [h1, h2]
    exact Nat.zero_le _
theorem mtx_tr {ts : List (List (List Int))} (h : Mtx ts) : Mtx (ts.map (·.map tr)) := by
  refine ⟨by rw [List.length_map]; exact h.1, by rw [gt_map _ _ _ h.1, List.length_map]; exact h.2.1, fun j hj => ?_⟩
  rw [List.length_map] at hj
  rw [gt_map _ _ _ h.1, gt_map _ _ _ hj, List.length_map, List.length_map]
  exact h.2.2 j hj
set_option maxHeartbeats 4000000 in
set_option maxRecDepth 100000 in
theorem MatCost_walk {w : World} {p : Option Addr} {n nc : Nat} {hs0 : List Hdr} (h : MZ w p n nc hs0) :
    Calls Tryz.prog 3 #[.slice p n nc] w fun e w' => e = .returned (.bool true) ∧ Below w.heap.size w w' := by
  go_enter Tryz.func3, Tryz.ntmps3
  go_wp2_with fail
  refine (begun7_any w).mono ?_
  rintro e w1 ⟨rfl, hb1⟩
  have HZ : Hid (MZ w1 p n nc hs0) := h.below hb1
  have HB1 : Hid (Below w.heap.size w w1) := hb1
  clear h hb1
  go_wp2_with fail
  refine (cut7_any HZ.out 5 5 (by decide) (by decide)).mono ?_
  rintro e w2 ⟨hd, ts, rfl, hdn, hH, hb2⟩
  have HB2 : Hid (Below w.heap.size w w2) := bnext' HB1.out hb2
  obtain ⟨q, m, mc⟩ := hd
  have HH : Hid (HR 5 (HR 5 (EZ 1 3)) w2 w1.heap.size w2.heap.size ts ⟨q, m, mc⟩) := hH
  clear hdn hb2 hH HZ
  simp only [Hdr.val]
  go_wp2_with fail
  refine (read7_any HH.out (Nat.le_refl _) (by decide) (by decide)).mono ?_
  rintro e w3 ⟨hb3, hor⟩
  have HB3 : Hid (Below w.heap.size w w3) := bnext' HB2.out hb3
  have HH3 : Hid (HR 5 (HR 5 (EZ 1 3)) w3 w1.heap.size w2.heap.size ts ⟨q, m, mc⟩ ∧ w2.heap.size ≤ w3.heap.size) := ⟨(lasts_HR (lasts_HR (lasts_EZ 1 3))).below HH.out (Nat.le_refl _) hb3, hb3.size⟩
  rcases hor with ⟨hM, hd3, rfl, hY⟩ | ⟨hM, rfl⟩
  · obtain ⟨q3, m3, mc3⟩ := hd3
    have HY : Hid (HR 5 (HR 5 (EY 2 3)) w3 w2.heap.size w3.heap.size (ts.map (·.map tr)) ⟨q3, m3, mc3⟩ ∧ Mtx ts) := ⟨hY, hM⟩
    clear hY hM hb3
    simp only [Hdr.val]
    go_wp2_with fail
    refine (Cost_any HH3.out.1 HH3.out.2 (by decide) (by decide) HY.out.2).mono ?_
    rintro e w4 ⟨rfl, hb4⟩
    have HY4 : Hid (HR 5 (HR 5 (EY 2 3)) w4 w2.heap.size w3.heap.size (ts.map (·.map tr)) ⟨q3, m3, mc3⟩ ∧ w3.heap.size ≤ w4.heap.size) := ⟨(lasts_HR (lasts_HR (lasts_EY 2 3))).below HY.out.1 (Nat.le_refl _) hb4, hb4.size⟩
    have HB4 : Hid (Below w.heap.size w w4) := bnext' HB3.out hb4
    have hc := rcost_any HY4.out.1 HY4.out.2 (by decide) (by decide) (mtx_tr HY.out.2) (pbs_tr HH.out)
    rw [DM_tr, BM_tr, gt_map _ _ _ HY.out.2.1, List.length_map, List.length_map] at hc
    clear hb4
    generalize tms [(ts.length : Int) + 1, ((gt ts 0).length : Int) + 1, min (ts.length : Int) ((gt ts 0).length : Int) + 1, DM ts + 2, BM ts + 8] = v at *
    go_wp2_with fail
    refine hc.mono ?_
    rintro e w5 ⟨rfl, hb5⟩
    have HB5 : Hid (Below w.heap.size w w5) := bnext' HB4.out hb5
    clear hc hb5
    go_wp2
    go_ret
    refine ⟨by simp, HB5.out⟩
  · have HM : Hid (¬ Mtx ts) := hM
    clear hM hb3
    go_wp2_with fail
    refine (Cost_none HH3.out.1 (by decide) (by decide) HM.out).mono ?_
    rintro e w4 ⟨rfl, hb4⟩
    have HB4 : Hid (Below w.heap.size w w4) := bnext' HB3.out hb4
    have HH4 : Hid (HR 5 (HR 5 (EZ 1 3)) w4 w1.heap.size w2.heap.size ts ⟨q, m, mc⟩) := (lasts_HR (lasts_HR (lasts_EZ 1 3))).below HH3.out.1 HH3.out.2 hb4
    clear hb4
    go_wp2_with fail
    refine (Null_none HH4.out (by decide) (by decide) HM.out).mono ?_
    rintro e w5 ⟨rfl, hb5⟩
    have HB5 : Hid (Below w.heap.size w w5) := bnext' HB4.out hb5
    clear hb5
    go_wp2
    go_ret
    exact ⟨rfl, HB5.out⟩
end Go.Proofs.YtlhgpejapmpcmaaGreatDoor
/-
  Plain: lists that read alike; ashlarref1.Of for entries below 0.
-/
namespace Go.Proofs.YtlhgpejapmpcmaaGreatDoor
open Go.RowKit
set_option linter.unusedVariables false
set_option linter.unusedSimpArgs false

theorem tlen_same {a b : List Int} (h : ∀ j, gx a j = gx b j) : tlen a = tlen b := by
  refine tlen_eq _ _ (fun j hj => by rw [h]; exact tlen_zero b j hj) ?_
  rcases Nat.eq_zero_or_pos (tlen b) with h0 | h0
  · exact .inl h0
  · exact .inr (by rw [h]; exact tlen_top b h0)
theorem tr_same {a b : List Int} (h : ∀ j, gx a j = gx b j) : tr a = tr b := by
  refine gx_ext _ _ (by rw [length_tr, length_tr, tlen_same h]) fun j hj => ?_
  rw [gx_tr, gx_tr, h]
theorem gx_pz0 (op : Int → Int → Int) (h0 : op 0 0 = 0) (zs ys : List Int) (j : Nat) : gx (pz op zs ys) j = op (gx zs j) (gx ys j) := by
  rcases Nat.lt_or_ge j (max zs.length ys.length) with h | h
  · exact gx_pz' op zs ys j h
  · rw [gx_past _ (max zs.length ys.length) (by rw [length_pz]; exact Nat.le_refl _) j h, gx_past zs zs.length (Nat.le_refl _) j (by omega), gx_past ys ys.length (Nat.le_refl _) j (by omega), h0]
theorem pz_sub (zs ys : List Int) : tr (pz (· + ·) zs (tr (ys.map (-1 * ·)))) = tr (pz (· - ·) zs ys) := by
  refine tr_same fun j => ?_
  rw [gx_pz0 _ rfl, gx_pz0 _ rfl, gx_tr, gx_map0 (-1 * ·) rfl]
  omega
theorem rOf_n (a : Int) (w : World) (h0 : -9223372036854775808 ≤ a) (h1 : a ≤ 9223372036854775807) :
    Calls Tryz.prog 60 #[.int .i64 a] w fun r w' => ∃ u : Ent, r = .returned (.agg #[.bool u.s, .slice u.p u.n u.c]) ∧ RE w' 4 a u ∧ Go.Proofs.YtlhgpejapmpcmaaGreatDoor.From w.heap.size u.p ∧ Below w.heap.size w w' := by
  refine (rOf_any a w h0 h1).mono ?_
  rintro e w1 ⟨s1, p1, n1, d1, rfl, hR1, hv1, hn1, hF1, hb1⟩
  exact ⟨⟨s1, p1, n1, n1⟩, rfl, ⟨⟨d1, hR1, hv1, hn1⟩, rfl⟩, hF1, hb1⟩
end Go.Proofs.YtlhgpejapmpcmaaGreatDoor
/-
  ashlarref3.Mul.
-/
namespace Go.Proofs.YtlhgpejapmpcmaaGreatDoor
open Go.RowKit
set_option linter.unusedVariables false
set_option linter.unusedSimpArgs false

theorem mk_rpoly (n : Nat) (h : n ≤ 1000000000) (w : World) : (Instr.makeSlice 43 (.int .i64 n) (.int .i64 n)).run Tryz.prog w =
    .ok (.slice (some ⟨w.heap.size, 0, none⟩) n n) (w.alloc (.cells (ca2 (ezs n)) 62)) := by
  have hi := info_ref
  cases hq : Tryz.prog.info? 62 with
  | none => rw [hq] at hi; cases hi
  | some i =>
    rw [hq] at hi
    simp only [Option.map_some, Option.some.injEq, Prod.mk.injEq] at hi
    obtain ⟨h1, h2, h3⟩ := hi
    have hr := run_make (P := Tryz.prog) w 43 62 i (.agg #[.bool false, .slice none 0 0]) Tryz.underlying43 hq h1 .i64 .i64 n n (by omega) (Int.le_refl _) (by rw [h3]; omega) (by omega)
    rw [Int.toNat_natCast, h2] at hr
    rw [hr]
    exact congrArg (fun c => Result.ok (Value.slice (some ⟨w.heap.size, 0, none⟩) n n) (w.alloc (.cells c 62))) (made_ez n)
/-- A number of the reference that lies from block B on. -/
def RF (B : Nat) (w : World) (N : Nat) (z : Int) (e : Ent) : Prop := RE w N z e ∧ Go.Proofs.YtlhgpejapmpcmaaGreatDoor.From B e.p
theorem RF.below {B : Nat} {w w' : World} {N : Nat} {z : Int} {e : Ent} (h : RF B w N z e) (hb : Below w.heap.size w w') : RF B w' N z e := ⟨h.1.below hb, h.2⟩
theorem RF.mono {B B' : Nat} {w : World} {N : Nat} {z : Int} {e : Ent} (h : RF B w N z e) (hB : B' ≤ B) : RF B' w N z e := ⟨h.1, fun a ha => Nat.le_trans hB (h.2 a ha)⟩
theorem RF.set2 {B : Nat} {w : World} {N : Nat} {z : Int} {e : Ent} {g o : Nat} (h : RF B w N z e) (hg : g < B) (u v : Value) : RF B ((w.setCell ⟨g, o, none⟩ u).setCell ⟨g, o + 1, none⟩ v) N z e :=
  ⟨h.1.set2 (fun _ a ha => by have := h.2 a ha; omega), h.2⟩
theorem RF.le {B : Nat} {w : World} {N M : Nat} {z : Int} {e : Ent} (h : RF B w N z e) (hz : (z.natAbs : Int) < pd M) : RF B w M z e := by
  obtain ⟨⟨⟨ds, h1, h2, h3⟩, h4⟩, h5⟩ := h
  exact ⟨⟨⟨ds, h1, h2, h1.fit (by rw [h2]; exact hz)⟩, h4⟩, h5⟩
theorem RF.ez (B : Nat) (w : World) (N : Nat) : RF B w N 0 ez := ⟨⟨⟨[], ⟨rfl, Rd.nil, fun j => by simp [gx], by decide, fun _ => rfl, Nat.zero_le _⟩, by decide, Nat.zero_le _⟩, rfl⟩, fun a ha => by cases ha⟩
/-- Behind some rows of a product. -/
def PrR (F : Nat → Int) (M g N : Nat) (W0 wr : World) : Prop :=
  ∃ es, Row2 wr g 62 es ∧ es.length = N ∧ (∀ t, t < N → RF (g + 1) wr M (F t) (ge es t)) ∧ Below g W0 wr
/-- One entry of a row. -/
theorem rrows_step {w W0 W2 v2 v3 : World} {M M' N i j t : Nat} {zs ys : List Int} {us : List Ent} {e2 : Ent} (hR1 : Row2 W2 w.heap.size 62 us) (hul : us.length = N) (hev : ∀ t, t < N → RF (w.heap.size + 1) W2 M (pj zs ys i j t) (ge us t)) (hB1 : Below w.heap.size W0 W2)
    (hpb : ((pj zs ys i (j + 1) t).natAbs : Int) < pd M) (ht : t = i + j) (htN : t < N) (hs0 : w.heap.size + 1 ≤ W0.heap.size)
    (hV2 : Below W2.heap.size W2 v2) (hb3 : Below v2.heap.size v2 v3) (hN2 : RF v2.heap.size v3 M' (pj zs ys i j t + gx zs i * gx ys j) e2) :
    PrR (pj zs ys i (j + 1)) M w.heap.size N W0 ((v3.setCell ⟨w.heap.size, t * 2, none⟩ (.bool e2.s)).setCell ⟨w.heap.size, t * 2 + 1, none⟩ (.slice e2.p e2.n e2.c)) := by
  have hb := bnext' hV2 hb3
  have hR3 := hR1.below hb hR1.lt
  have hs1 := hB1.size
  have hs2 := hV2.size
  have hval : pj zs ys i j t + gx zs i * gx ys j = pj zs ys i (j + 1) t := by subst ht; exact (pj_succ_same zs ys i j).symm
  rw [hval] at hN2
  refine ⟨us.set t e2, hR3.set t e2 (by omega), by simpa using hul, fun t' ht' => ?_, ?_⟩
  · by_cases he : t' = t
    · subst he
      rw [ge_set_same _ _ _ (by omega)]
      exact ((hN2.le hpb).mono (by omega)).set2 (by omega) _ _
    · rw [ge_set_other _ _ _ _ he, pj_succ_other _ _ _ _ _ (by omega)]
      exact ((hev t' ht').below hb).set2 (by omega) _ _
  · exact ((hB1.trans (hb.mono (by omega))).setCell (p := ⟨w.heap.size, t * 2, none⟩) (Nat.le_refl _) _).setCell (p := ⟨w.heap.size, t * 2 + 1, none⟩) (Nat.le_refl _) _
set_option maxHeartbeats 4000000 in
set_option maxRecDepth 100000 in
/-- ashlarref3.Mul of two that are not zero. -/
theorem rpMul_some {w : World} {A B K L : Nat} {p q : Option Addr} {n nc m mc : Nat} {es fs : List Ent} {zs ys : List Int} (h : PR w A p n nc es zs) (k : PR w B q m mc fs ys) (hn : n ≤ 1000) (hm : m ≤ 1000) (hn1 : 1 ≤ n) (hm1 : 1 ≤ m) (hA : A ≤ 200) (hB : B ≤ 200) (hX : ∀ i, ((gx zs i).natAbs : Int) < pw K) (hY : ∀ i, ((gx ys i).natAbs : Int) < pw L) (hKL : K + L ≤ 100) :
    Calls Tryz.prog 14 #[.slice p n nc, .slice q m mc] w (PrP (tr (mulz zs ys)) (2 * (K + L + 1)) w) := by
  have hel := h.el
  have hfl := k.el
  have hzl := h.zl
  have hyl := k.zl
  obtain ⟨N, hN⟩ : ∃ N, N = n + m - 1 := ⟨_, rfl⟩
  have hNI : (n : Int) + (m : Int) - 1 = (N : Int) := by omega
  have w1 : IntKind.i64.wrap ((n : Int) + (m : Int)) = (n : Int) + (m : Int) := by rw [IntKind.wrap_i64]; omega
  have w2 : IntKind.i64.wrap (N : Int) = (N : Int) := by rw [IntKind.wrap_i64]; omega
  have g1 : ((n : Int) == 0) = false := by rw [beq_eq_false_iff_ne]; omega
  have g2 : ((m : Int) == 0) = false := by rw [beq_eq_false_iff_ne]; omega
  have g3 : ¬ (n : Int) = 0 := by omega
  have g4 : ¬ (m : Int) = 0 := by omega
  have HN : Hid (N = n + m - 1) := hN
  have hN3 : N ≤ 2000 := by omega
  obtain ⟨S, hS⟩ : ∃ S, S = 2 * (K + L + 1) := ⟨_, rfl⟩
  rw [← hS]
  have HS : Hid (S = 2 * (K + L + 1)) := hS
  have hS2 : S ≤ 202 := by omega
  clear hN hS
  have hmk := mk_rpoly N (by omega)
  have HX := (show Hid (∀ i, ((gx zs i).natAbs : Int) < pw K) from hX)
  have HY := (show Hid (∀ i, ((gx ys i).natAbs : Int) < pw L) from hY)
  clear hX hY
  go_enter Tryz.func14, Tryz.ntmps14
  go_wp2_with fail
  have hR0 := Row2.new w 62 (ezs N)
  have hW0 : Below w.heap.size w (w.alloc (.cells (ca2 (ezs N)) 62)) := (Below.refl _ _).alloc (Nat.le_refl _) _
  have hs0 : w.heap.size + 1 ≤ (w.alloc (.cells (ca2 (ezs N)) 62)).heap.size := by simp
  generalize w.alloc (.cells (ca2 (ezs N)) 62) = W0 at *
  clear hmk
  go_loopw [6, 7] (fun iv jv wr => ∃ i : Nat, i ≤ n ∧ iv = .int .i64 i ∧ Hid (PrR (ps zs ys i) S w.heap.size N W0 wr)) (fun iv _ _ => n - (intOf iv).toNat)
  case atStart => exact ⟨0, Nat.zero_le _, by go_num, ezs N, hR0, length_ezs N, fun t ht => by rw [ge_ezs]; exact RF.ez _ _ _, Below.refl _ _⟩
  case round =>
    obtain ⟨i, hi, rfl, H⟩ := hrel
    rcases Nat.lt_or_ge i n with hlt | hge
    · have i1 : (i : Int) < (n : Int) := by omega
      go_wp2_with fail
      go_loopw [7] (fun jv w3 => ∃ j : Nat, j ≤ m ∧ jv = .int .i64 j ∧ Hid (PrR (pj zs ys i j) S w.heap.size N W0 w3)) (fun jv _ => m - (intOf jv).toNat)
      case atStart =>
        obtain ⟨es', hR, hel', hev, hB⟩ := H.out
        exact ⟨0, Nat.zero_le _, by go_num, es', hR, hel', fun t ht => by rw [pj_zero]; exact hev t ht, hB⟩
      case round =>
        obtain ⟨j, hj, rfl, HJ⟩ := hrel
        rcases Nat.lt_or_ge j m with hjm | hjm
        · obtain ⟨us, hR1, hul, hev, hB1⟩ := HJ.out
          have hBw : Below w.heap.size w wr := hW0.trans hB1
          have hPA := h.below hBw
          have hQA := k.below hBw
          obtain ⟨b, o, hp, hc⟩ := hPA.pl (by omega)
          obtain ⟨c, r, hq, hd⟩ := hQA.pl (by omega)
          subst hp hq
          obtain ⟨c0, c1⟩ := hc i (by omega)
          obtain ⟨d0, d1⟩ := hd j (by omega)
          have hv := hPA.ev i hlt
          have hu := hQA.ev j hjm
          have j1 : (j : Int) < (m : Int) := by omega
          obtain ⟨t, ht⟩ : ∃ t, t = i + j := ⟨_, rfl⟩
          have hwt : IntKind.i64.wrap ((i : Int) + (j : Int)) = (t : Int) := by rw [IntKind.wrap_i64]; omega
          have htN : t < N := by have := HN.out; omega
          have HT : Hid (t = i + j) := ht
          obtain ⟨x0, x1⟩ := hR1.cell t (by omega)
          have HE : Hid (∀ t, t < N → RF (w.heap.size + 1) wr S (pj zs ys i j t) (ge us t)) := hev
          have hpb : Hid (((pj zs ys i (j + 1) t).natAbs : Int) < pd S) := by
            show _ < _
            rw [HS.out, pd_two]
            exact pj_bd HX.out HY.out i (j + 1) t (by omega)
          have hmu := rMul_e hv.drew hu.drew (by omega) (by omega)
          clear ht hev hc hd hPA hQA HJ
          go_wp2_with fail
          go_region_with (first
            | (go_at_call 33; go_fit hmu; rintro r v2 ⟨e1, rfl, hN1, hF1, hb2⟩; have hV2 := undrew hb2; have hR2 := hR1.below hV2 hR1.lt; obtain ⟨y0, y1⟩ := hR2.cell t (by omega); have had := rAdd_e ((HE.out t htN).1.below hV2) hN1 (by omega) (by omega))
            | (go_at_call 30; go_fit had; rintro r v3 ⟨e2, rfl, hN2, hF2, hb3⟩; have hR3 := hR2.below hb3 hR2.lt; obtain ⟨z0, z1⟩ := hR3.cell t (by omega); have f0 := hR3.frozen (t * 2); have f1 := hR3.frozen (t * 2 + 1)))
          all_goals
            have hstep := rrows_step (zs := zs) (ys := ys) (i := i) (j := j) hR1 hul HE.out hB1 hpb.out HT.out htN hs0 hV2 hb3 ⟨hN2, hF2⟩
            have HST := (show Hid _ from hstep)
            clear hstep x0 x1 y0 y1 c0 c1 d0 d1 hR1 hB1 HE hN1 hN2 hR2 hR3 hv hu hmu had
            go_wp2
            refine ⟨⟨j + 1, by omega, by go_num, HST.out⟩, by simp [intOf]; omega⟩
        · obtain rfl : j = m := by omega
          have HQ : Hid (PrR (ps zs ys (i + 1)) S w.heap.size N W0 wr) := by
            obtain ⟨us, hR, hul, hev, hB⟩ := HJ.out
            exact ⟨us, hR, hul, fun t ht => by rw [← pj_all, hyl]; exact hev t ht, hB⟩
          clear HJ hjm
          go_wp2
          refine ⟨⟨i + 1, by omega, by go_num, HQ.out⟩, by simp [intOf]; omega⟩
    · obtain rfl : i = n := by omega
      obtain ⟨us, hR, hul, hev, hB⟩ := H.out
      have hvl := length_mulz zs ys
      have hPR : PR wr S (some ⟨w.heap.size, 0, none⟩) N N us (mulz zs ys) := ⟨hul, by have := HN.out; omega, Nat.le_refl _, by unfold maxLen; omega, hR.pl, fun t ht => by
        rw [gx_mulz _ _ _ (by have := HN.out; omega), hzl]
        exact (hev t ht).1⟩
      have HB : Hid (Below w.heap.size w wr) := hW0.trans hB
      clear H hge hR hev hB
      go_wp2_with fail
      refine (rTrim_any S _ N N us (mulz zs ys) _ hPR (by omega)).mono ?_
      rintro e w1 ⟨rfl, hb1⟩
      have HP : Hid (PR wr S (some ⟨w.heap.size, 0, none⟩) N N us (mulz zs ys)) := hPR
      clear hPR
      go_wp2
      go_ret
      have htl := tlen_le (mulz zs ys)
      have hvk := HP.out.zl
      have hT := (HP.out.below hb1).take (tlen (mulz zs ys)) (tlen (mulz zs ys)) (by omega) (Nat.le_refl _) (by omega)
      exact ⟨_, tlen (mulz zs ys), us.take (tlen (mulz zs ys)), rfl, hT, (fun a ha => by cases ha; exact Nat.le_refl _), tlen_tr _, bnext' HB.out hb1⟩
end Go.Proofs.YtlhgpejapmpcmaaGreatDoor
/-
  ashlarref3.Mul.
-/
namespace Go.Proofs.YtlhgpejapmpcmaaGreatDoor
open Go.RowKit
set_option linter.unusedVariables false
set_option linter.unusedSimpArgs false

theorem pr_nil (w : World) (N : Nat) : PR w N none 0 0 [] [] := ⟨rfl, rfl, Nat.le_refl _, Nat.zero_le _, PL.nil, fun j hj => by omega⟩
set_option maxHeartbeats 2000000 in
set_option maxRecDepth 100000 in
theorem rpMul_nil (w : World) (N : Nat) (p q : Option Addr) (n m nc mc : Nat) (hn : n ≤ 1000000) (hm : m ≤ 1000000) (h : n = 0 ∨ m = 0) :
    Calls Tryz.prog 14 #[.slice p n nc, .slice q m mc] w (PrP [] N w) := by
  by_cases h0 : n = 0
  · subst h0
    go_enter Tryz.func14, Tryz.ntmps14
    go_wp2
    go_ret
    exact ⟨none, 0, [], rfl, pr_nil _ _, (fun a ha => by cases ha), rfl, Below.refl _ _⟩
  · have h1 : m = 0 := by omega
    subst h1
    have g1 : ((n : Int) == 0) = false := by rw [beq_eq_false_iff_ne]; omega
    have g3 : ¬ (n : Int) = 0 := by omega
    go_enter Tryz.func14, Tryz.ntmps14
    go_wp2
    go_ret
    exact ⟨none, 0, [], rfl, pr_nil _ _, (fun a ha => by cases ha), rfl, Below.refl _ _⟩
/-- ashlarref3.Mul of two normal polynomials. -/
theorem rpMul_any {w : World} {A B K L : Nat} {p q : Option Addr} {n nc m mc : Nat} {es fs : List Ent} {zs ys : List Int} (h : PR w A p n nc es zs) (k : PR w B q m mc fs ys) (hz : tlen zs = zs.length) (hy : tlen ys = ys.length) (hn : n ≤ 1000) (hm : m ≤ 1000) (hA : A ≤ 200) (hB : B ≤ 200) (hX : ∀ i, ((gx zs i).natAbs : Int) < pw K) (hY : ∀ i, ((gx ys i).natAbs : Int) < pw L) (hKL : K + L ≤ 100) :
    Calls Tryz.prog 14 #[.slice p n nc, .slice q m mc] w (PrP (mulp zs ys) (2 * (K + L + 1)) w) := by
  rw [mulp, h.zl, k.zl]
  by_cases h0 : n = 0 ∨ m = 0
  · rw [if_pos h0]
    exact rpMul_nil w _ p q n m nc mc (by omega) (by omega) h0
  · rw [if_neg h0]
    have hzl := h.zl
    have hyl := k.zl
    have := rpMul_some h k hn hm (by omega) (by omega) hA hB hX hY hKL
    rwa [tr_of_tlen (by rw [mulz_top hz hy (by omega) (by omega), length_mulz])] at this
end Go.Proofs.YtlhgpejapmpcmaaGreatDoor
