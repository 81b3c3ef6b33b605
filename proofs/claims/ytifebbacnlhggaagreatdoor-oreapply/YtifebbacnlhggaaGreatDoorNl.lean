/-
  (*ore.Rule).Apply.
-/
import Derived.Test.YtifebbacnlhggaaGreatDoorCbNgNkPq
import Derived.Test.YtifebbacnlhggaaGreatDoorKqOr
import Derived.Test.YtifebbacnlhggaaGreatDoorAvAwAy
import Derived.Test.YtifebbacnlhggaaGreatDoorUiWiWj
import Derived.Deep.DeepFit
namespace Go.Proofs.YtifebbacnlhggaaGreatDoor
open Go.RowKit
set_option linter.unusedVariables false
set_option linter.unusedSimpArgs false
/-- The estimate of Apply. -/
def estA (zss : List (List Int)) (zs : List Int) (y : Int) : Int := tms [sms [max ((olen zss : Int) - 1) 0, 1], sms [max (odeg zss) 0, ((tlen zs : Int) - 1) + 3], sms [(obit zss : Int), (pb zs : Int), pms [sms [max ((olen zss : Int) - 1) 0, 1], ((tlen zs : Int) - 1) + 2, sms [(zb y : Int), 8]]]]
/-- What Apply answers. -/
def ApP (al y : Int) (zss : List (List Int)) (zs : List Int) (w : World) (r : Ending) (w' : World) : Prop :=
  (1048576 < estA zss zs y → r = .returned (.tuple #[.slice none 0 0, .int .i64 4])) ∧ (¬ 1048576 < estA zss zs y → ∃ q m fs, r = .returned (.tuple #[.slice q m m, .int .i64 0]) ∧ PN w.heap.size w' 310 q m fs (Ozs al y zss zs (olen zss))) ∧ Below w.heap.size w w'
/-- What the letter does. -/
def LetOK (J g : Nat) (al y : Int) : Prop := ∀ (v : World) (K : Nat) (p : Option Addr) (n nc : Nat) (es : List Ent) (zf : List Int), RuleQ v g al y → PA v K p n nc es zf → n ≤ 15 → K ≤ 60 → Calls Tryz.prog J #[.pointer (some ⟨g, 0, none⟩), .slice p n nc] v (PnP (LTR al y zf) (K + n * 2) v)
theorem let_sigma {g : Nat} {al y : Int} (h : ¬ al = 2) : LetOK 16 g al y := fun v K p n nc es zf h1 h2 h3 h4 => by
  rw [LTR, if_neg h]
  exact oSigma_all h1 h2 h3 h4
theorem let_delta {g : Nat} {y : Int} : LetOK 19 g 2 y := fun v K p n nc es zf h1 h2 h3 h4 => by
  rw [LTR, if_pos rfl]
  exact oDelta_all h1 h2 h3 h4
theorem obd_of {w : World} {B T K E D : Nat} {zss : List (List Int)} {h : Hdr} (H : HR D (EZ K E) w B T zss h) (hE : E ≤ 1000000 := by decide) : odeg zss ≤ E ∧ obit zss ≤ 32 * K := by
  have h1 := (odeg_bd zss (hr_len H) zss.length (Nat.le_refl _)).2
  obtain ⟨hs, k⟩ := H
  have h2 := obit_bd (E := 32 * K) zss (fun j hj => by
    obtain ⟨es, hP, hn, -, -⟩ := k.ev j (by rw [← k.tl]; exact hj)
    exact pb_le hP (by omega)) zss.length (Nat.le_refl _)
  rw [List.take_length] at h1 h2
  exact ⟨h1, h2⟩
/-- Behind some rounds of Apply. -/
structure ApI (w wr : World) (g : Nat) (al y : Int) (B T : Nat) (zss : List (List Int)) (h : Hdr) (zs : List Int) (i : Nat) (fp : Option Addr) (fn fc : Nat) (op : Option Addr) (on : Nat) : Prop where
  r : RuleQ wr g al y
  a : HR 5 (EZ 2 4) wr B T zss h
  t : T ≤ wr.heap.size
  f : ∃ fe zf, PA wr (2 + (i - 1) * 14) fp fn fc fe zf ∧ tr zf = Fit al y zs (i - 1) ∧ fn ≤ 7
  o : ∃ oe, PN w.heap.size wr (62 * i) op on oe (Ozs al y zss zs i)
  on : on ≤ 100
  zl : zs.length ≤ 7
  b : Below w.heap.size w wr
theorem ApI.start {w v : World} {g : Nat} {al y : Int} {B T : Nat} {zss : List (List Int)} {h : Hdr} {zs : List Int} {p : Option Addr} {n nc : Nat} {es : List Ent} (hr : RuleQ v g al y) (ha : HR 5 (EZ 2 4) v B T zss h) (ht : T ≤ v.heap.size) (hp : PA v 2 p n nc es zs) (hn : n ≤ 7) (hb : Below w.heap.size w v) : ApI w v g al y B T zss h zs 0 p n nc none 0 :=
  ⟨hr, ha, ht, ⟨es, zs, hp, rfl, hn⟩, ⟨[], pn_nil _ _ _⟩, by decide, by rw [hp.zl]; exact hn, hb⟩
theorem ApI.entry {w wr : World} {g : Nat} {al y : Int} {B T : Nat} {zss : List (List Int)} {h : Hdr} {zs : List Int} {i : Nat} {fp : Option Addr} {fn fc : Nat} {op : Option Addr} {on : Nat} (k : ApI w wr g al y B T zss h zs i fp fn fc op on) (hi : i < olen zss) : ∃ b o p n nc es, h.p = some ⟨b, o, none⟩ ∧ wr.cell? ⟨b, o + i, none⟩ = some (.slice p n nc) ∧ PA wr 2 p n nc es (gt zss i) ∧ n ≤ 4 := by
  obtain ⟨hs, q⟩ := k.a
  have h1 := olen_le zss
  have h2 := q.tl
  obtain ⟨b, o, hp, hc⟩ := q.hl (by rw [q.el]; omega)
  have c0 := hc i (by rw [q.el]; omega)
  obtain ⟨es2, hP2, hd3, -, -⟩ := q.ev i (by omega)
  exact ⟨b, o, _, _, _, es2, hp, c0, hP2, hd3⟩
theorem len_add (a b : List Int) : (tr (pz (· + ·) a b)).length ≤ max a.length b.length := by
  rw [length_tr]
  refine Nat.le_trans (tlen_le _) ?_
  simp [pz]
theorem ApI.next {w wr w2 w3 : World} {g : Nat} {al y : Int} {B T : Nat} {zss : List (List Int)} {h : Hdr} {zs : List Int} {i : Nat} {fp gp : Option Addr} {fn fc gn gc : Nat} {op q : Option Addr} {on m : Nat} {e4 ge' : List Ent} {zg : List Int} {K : Nat} (k : ApI w wr g al y B T zss h zs i fp fn fc op on) (hb2 : Below wr.heap.size wr w2) (hb3 : Below w2.heap.size w2 w3) (hA : PN w2.heap.size w3 K q m e4 (tr (pz (· + ·) (Ozs al y zss zs i) (mulp (tr (gt zss i)) (Fit al y zs i))))) (hK : K ≤ 62 * (i + 1)) (hc : (gt zss i).length ≤ 4) (hg : PA w3 (2 + i * 14) gp gn gc ge' zg) (hgt : tr zg = Fit al y zs i) (hgn : gn ≤ 7) : ApI w w3 g al y B T zss h zs (i + 1) gp gn gc q m := by
  have hb := bnext' hb2 hb3
  have hs : w.heap.size ≤ w2.heap.size := Nat.le_trans k.b.size hb2.size
  refine ⟨k.r.below hb, (lasts_HR (lasts_EZ 2 4)).below k.a k.t hb, Nat.le_trans k.t hb.size, ⟨ge', zg, hg, hgt, hgn⟩, ⟨e4, (hA.wider hK).mono hs⟩, ?_, k.zl, bnext' k.b hb⟩
  have h1 := len_add (Ozs al y zss zs i) (mulp (tr (gt zss i)) (Fit al y zs i))
  have h2 := mulp_le (tr (gt zss i)) (Fit al y zs i)
  have h3 := length_tr (gt zss i)
  have h4 := tlen_le (gt zss i)
  have h5 := Fit_len al y zs i
  have h6 := k.zl
  have h7 := hA.zl
  obtain ⟨oe, h8⟩ := k.o
  have h9 := h8.zl
  have h10 := k.on
  omega
theorem ApI.first {w wr w2 w3 : World} {g : Nat} {al y : Int} {B T : Nat} {zss : List (List Int)} {h : Hdr} {zs : List Int} {fp : Option Addr} {fn fc : Nat} {op q : Option Addr} {on m : Nat} {e4 : List Ent} {K : Nat} (k : ApI w wr g al y B T zss h zs 0 fp fn fc op on) (hb2 : Below wr.heap.size wr w2) (hb3 : Below w2.heap.size w2 w3) (hA : PN w2.heap.size w3 K q m e4 (tr (pz (· + ·) (Ozs al y zss zs 0) (mulp (tr (gt zss 0)) (Fit al y zs 0))))) (hK : K ≤ 62) (hc : (gt zss 0).length ≤ 4) : ApI w w3 g al y B T zss h zs (0 + 1) fp fn fc q m := by
  obtain ⟨fe, zf, h1, h2, h3⟩ := k.f
  exact k.next hb2 hb3 hA (by omega) hc (h1.below (bnext' hb2 hb3)) h2 h3
set_option maxHeartbeats 4000000 in
set_option maxRecDepth 100000 in
theorem oApply_any {w : World} {g : Nat} {al y : Int} (hr : RuleQ w g al y) {B T : Nat} {zss : List (List Int)} {h : Hdr} (H : HR 5 (EZ 2 4) w B T zss h) (hT : T ≤ w.heap.size) {p : Option Addr} {n nc : Nat} {es : List Ent} {zs : List Int} (hP : PA w 2 p n nc es zs) (hn : n ≤ 7) :
    Calls Tryz.prog 34 #[.pointer (some ⟨g, 0, none⟩), .slice h.p h.n h.c, .slice p n nc] w (ApP al y zss zs w) := by
  have HX : Hid (RuleQ w g al y ∧ HR 5 (EZ 2 4) w B T zss h ∧ T ≤ w.heap.size ∧ PA w 2 p n nc es zs) := ⟨hr, H, hT, hP⟩
  have ha0 : ¬ al = 0 := by have := hr.a; omega
  have ha1 : (al == 0) = false := by rw [beq_eq_false_iff_ne]; exact ha0
  obtain ⟨e, hR, hE⟩ := hr.r
  have hAl := oAlg_any hR
  have HR' : Hid (RuleAt w g al e ∧ EV w 1 y e) := ⟨hR, hE⟩
  obtain ⟨hp, hn', hc⟩ := h
  clear hr H hT hP hR hE
  go_enter Tryz.func34, Tryz.ntmps34
  go_wp2_with fail
  go_fit hAl
  rintro r w1 ⟨rfl, hb1⟩
  clear hAl
  go_wp2_with fail
  have HY : Hid (RuleAt w1 g al e ∧ EV w1 1 y e ∧ RuleQ w1 g al y ∧ HR 5 (EZ 2 4) w1 B T zss ⟨hp, hn', hc⟩ ∧ T ≤ w1.heap.size ∧ PA w1 2 p n nc es zs ∧ Below w.heap.size w w1) := ⟨HR'.out.1.below hb1, HR'.out.2.below hb1, HX.out.1.below hb1, (lasts_HR (lasts_EZ 2 4)).below HX.out.2.1 HX.out.2.2.1 hb1, Nat.le_trans HX.out.2.2.1 hb1.size, HX.out.2.2.2.below hb1, hb1⟩
  have k0 := HY.out.1.c0
  have k1 := HY.out.1.c1
  have k2 := HY.out.1.c2
  have hlenD := hr_len HY.out.2.2.2.1
  have hsz := fun v (hb : Below w1.heap.size w1 v) => osize_any ((lasts_HR (lasts_EZ 2 4)).below HY.out.2.2.2.1 HY.out.2.2.2.2.1 hb) (Nat.le_trans HY.out.2.2.2.2.1 hb.size) (by decide) (by decide) (by decide)
  have hszl : olen zss ≤ 5 := by
    obtain ⟨hs, k⟩ := HY.out.2.2.2.1
    have h1 := k.few
    have h2 := k.tl
    have h3 := olen_le zss
    simp only at h1 h2
    omega
  have HI : Hid (InI (max ((olen zss : Int) - 1) 0) ∧ InI (max (odeg zss) 0) ∧ InI (obit zss : Int) ∧ (-1 ≤ (tlen zs : Int) - 1 ∧ (tlen zs : Int) - 1 ≤ 1000000000) ∧ InI (pb zs : Int) ∧ InI (zb y : Int)) := by
    have b1 := (obd_of HY.out.2.2.2.1).1
    have b2 := (obd_of HY.out.2.2.2.1).2
    have b3 := pb_le HY.out.2.2.2.2.2.1 (by omega)
    have b4 := zb_le HY.out.2.1
    have b5 := tlen_le zs
    have b6 := HY.out.2.2.2.2.2.1.zl
    exact ⟨⟨by omega, by omega⟩, ⟨by omega, by omega⟩, ⟨by omega, by omega⟩, ⟨by omega, by omega⟩, ⟨by omega, by omega⟩, ⟨by omega, by omega⟩⟩
  have HE : Hid (tms [sms [max ((olen zss : Int) - 1) 0, 1], sms [max (odeg zss) 0, ((tlen zs : Int) - 1) + 3], sms [(obit zss : Int), (pb zs : Int), pms [sms [max ((olen zss : Int) - 1) 0, 1], ((tlen zs : Int) - 1) + 2, sms [(zb y : Int), 8]]]] = estA zss zs y) := rfl
  generalize max ((olen zss : Int) - 1) 0 = E1 at *
  generalize max (odeg zss) 0 = E2 at *
  generalize (obit zss : Int) = E3 at *
  go_region_held3 (fun w' => w'.cell? ⟨g, 0, none⟩ = some (.int .i64 al) ∧ w'.cell? ⟨g, 1, none⟩ = some (.bool e.s) ∧ w'.cell? ⟨g, 2, none⟩ = some (.slice e.p e.n e.c)) (first | with_reducible exact ⟨k0, k1, k2⟩ | with_reducible exact ⟨p0, p1, p2⟩ | with_reducible exact ⟨q0, q1, q2⟩ | with_reducible exact ⟨r0, r1, r2⟩ | with_reducible exact ⟨s0, s1, s2⟩ | with_reducible exact ⟨t0, t1, t2⟩ | (simp [go_sem, *]; done))
    (first
      | (go_at_call 60; go_fit (hsz _ (Below.refl _ _).drew); rintro r v1 ⟨rfl, hv1⟩; have hV1 := undrew hv1; have p0 := cell_later hV1 k0; have p1 := cell_later hV1 k1; have p2 := cell_later hV1 k2)
      | (go_at_call 74; go_fit (uDeg_any 2 p n nc es zs v1 (HY.out.2.2.2.2.2.1.below hV1) (by omega)); rintro r v2 ⟨rfl, hv2⟩; have hV2 := bnext' hV1 hv2; have q0 := cell_later hv2 p0; have q1 := cell_later hv2 p1; have q2 := cell_later hv2 p2)
      | (go_at_call 75; go_fit (uBits_any (HY.out.2.2.2.2.2.1.below hV2) (by omega) (by decide)); rintro r v3 ⟨rfl, -, hv3⟩; have hV3 := bnext' hV2 hv3; have r0 := cell_later hv3 q0; have r1 := cell_later hv3 q1; have r2 := cell_later hv3 q2)
      | (go_at_call 61; go_fit (Bits_ev (HY.out.2.1.below hV3)); rintro r v4 ⟨rfl, hv4⟩; have hV4 := bnext' hV3 hv4; have s0 := cell_later hv4 r0; have s1 := cell_later hv4 r1; have s2 := cell_later hv4 r2)
      | (go_at_call 73; go_fit (eApply_any v4 E1 E2 E3 ((tlen zs : Int) - 1) (pb zs) (zb y) HI.out.1 HI.out.2.1 HI.out.2.2.1 HI.out.2.2.2.1 HI.out.2.2.2.2.1 HI.out.2.2.2.2.2); rintro r v5 ⟨rfl, hv5⟩; have hV5 := bnext' hV4 hv5; have t0 := cell_later hv5 s0; have t1 := cell_later hv5 s1; have t2 := cell_later hv5 s2))
  have hz := HE.out
  rw [hz]
  have HB : Hid (Below w.heap.size w v5) := bnext' HY.out.2.2.2.2.2.2 hV5
  have HZ : Hid (RuleQ v5 g al y ∧ HR 5 (EZ 2 4) v5 B T zss ⟨hp, hn', hc⟩ ∧ T ≤ v5.heap.size ∧ PA v5 2 p n nc es zs ∧ RuleAt v5 g al e) := ⟨HY.out.2.2.1.below hV5, (lasts_HR (lasts_EZ 2 4)).below HY.out.2.2.2.1 HY.out.2.2.2.2.1 hV5, Nat.le_trans HY.out.2.2.2.2.1 hV5.size, HY.out.2.2.2.2.2.1.below hV5, HY.out.1.below hV5⟩
  generalize hES : estA zss zs y = ES at *
  have HES : Hid (estA zss zs y = ES) := hES
  clear hES hz HE HI hsz hv1 hv2 hv3 hv4 hv5 hV1 hV2 hV3 hV4 hV5 p0 p1 p2 q0 q1 q2 r0 r1 r2 s0 s1 s2 t0 t1 t2 k0 k1 k2 HY HX HR' hb1
  by_cases hbig : 1048576 < ES
  · go_wp2_with fail
    exact bodyPost_ret (v := .tuple #[.slice none 0 0, .int .i64 4]) (by simp [results, Tryz.results34, go_sem]) rfl ⟨fun _ => rfl, fun h => absurd hbig (by rw [← HES.out]; exact h), HB.out⟩
  have hbig' : ES ≤ 1048576 := by omega
  have hot := otrim_any HZ.out.2.1 HZ.out.2.2.1 (by decide) (by decide)
  dsimp only at hot
  have c0 := HZ.out.2.2.2.2.c0
  by_cases h2 : al = 2
  · subst h2
    have HJ : Hid (LetOK 19 g 2 y) := let_delta
    go_wp2_with fail
    go_fit hot
    rintro r w6 ⟨rfl, hb6⟩
    have HW : Hid (RuleQ w6 g 2 y ∧ HR 5 (EZ 2 4) w6 B T zss ⟨hp, hn', hc⟩ ∧ T ≤ w6.heap.size ∧ PA w6 2 p n nc es zs ∧ Below w.heap.size w w6) := ⟨HZ.out.1.below hb6, (lasts_HR (lasts_EZ 2 4)).below HZ.out.2.1 HZ.out.2.2.1 hb6, Nat.le_trans HZ.out.2.2.1 hb6.size, HZ.out.2.2.2.1.below hb6, bnext' HB.out hb6⟩
    clear HB HZ hb6 c0 hot
    go_wp2_with fail
    go_loopw [2, 9, 10, 11, 40] (fun fv ov _ _ kv wr => ∃ (i : Nat) (fp : Option Addr) (fn fc : Nat) (op : Option Addr) (on : Nat), i ≤ olen zss ∧ fv = .slice fp fn fc ∧ ov = .slice op on on ∧ kv = .int .i64 i ∧ Hid (ApI w wr g 2 y B T zss ⟨hp, hn', hc⟩ zs i fp fn fc op on)) (fun _ _ _ _ kv _ => olen zss - (intOf kv).toNat)
    case atStart => exact ⟨0, p, n, nc, none, 0, Nat.zero_le _, rfl, rfl, by go_num, ApI.start HW.out.1 HW.out.2.1 HW.out.2.2.1 HW.out.2.2.2.1 hn HW.out.2.2.2.2⟩
    case round =>
      obtain ⟨i, fp, fn, fc, op, on, hi, rfl, rfl, rfl, G⟩ := hrel
      rcases Nat.lt_or_ge i (olen zss) with hlt | hge
      · obtain ⟨b, o, p2, n2, nc2, es2, hpb, c1, hP2, hn2⟩ := G.out.entry hlt
        subst hpb
        have i1 : (i : Int) < ((olen zss : Nat) : Int) := by omega
        have HP2 : Hid (PA wr 2 p2 n2 nc2 es2 (gt zss i) ∧ n2 ≤ 4) := ⟨hP2, hn2⟩
        clear hP2 hn2
        by_cases hi0 : i = 0
        · subst hi0
          rw [Nat.add_zero] at c1
          obtain ⟨fe, zf, hF0, hFt0, hFn⟩ := G.out.f
          have hF : PA wr 2 fp fn fc fe zf := hF0
          have hFt : tr zf = Fit 2 y zs 0 := hFt0
          clear hF0 hFt0
          have hm := uMul_pk HP2.out.1 hF (by have := HP2.out.2; omega) (by omega) (by omega)
          rw [hFt] at hm
          have hFn' := hFn
          clear hF hFt hFn
          go_wp2_with fail
          go_fit hm
          rintro r w2 ⟨p3, n3, e3, rfl, hM, hb2⟩
          obtain ⟨oe, hO⟩ := G.out.o
          have hadd := uAdd_any ((hO.pa (by omega) (by have := G.out.on; omega)).below hb2) (hM.pa (by omega) (by have := mulp_le (tr (gt zss 0)) (Fit 2 y zs 0); have := hM.zl; have := HP2.out.1.zl; have := HP2.out.2; have h8 := length_tr (gt zss 0); have := tlen_le (gt zss 0); have := Fit_len 2 y zs 0; have := G.out.zl; omega)) (by have := G.out.on; omega) (by have := mulp_le (tr (gt zss 0)) (Fit 2 y zs 0); have := hM.zl; have := HP2.out.1.zl; have := HP2.out.2; have h8 := length_tr (gt zss 0); have := tlen_le (gt zss 0); have := Fit_len 2 y zs 0; have := G.out.zl; omega) (by omega)
          rw [hO.tr, hM.tr] at hadd
          clear hm
          go_wp2_with fail
          go_fit hadd
          rintro r w3 ⟨p4, n4, e4, rfl, hA, hb3⟩
          have HN : Hid (ApI w w3 g 2 y B T zss ⟨some ⟨b, o, none⟩, hn', hc⟩ zs (0 + 1) fp fn fc p4 n4) := G.out.first hb2 hb3 hA (by omega) (by rw [HP2.out.1.zl]; exact HP2.out.2)
          clear hadd hO hM hb2 hb3 hA c1
          go_wp2
          exact ⟨⟨1, fp, fn, fc, p4, n4, by omega, rfl, rfl, by go_num, HN.out⟩, by simp [intOf]; omega⟩
        · obtain ⟨k, rfl⟩ : ∃ k, i = k + 1 := ⟨i - 1, by omega⟩
          have i2 : (0 : Int) < ((k + 1 : Nat) : Int) := by omega
          obtain ⟨fe, zf, hF, hFt, hFn⟩ := G.out.f
          rw [Nat.add_sub_cancel] at hF hFt
          have hl := HJ.out wr _ fp fn fc fe zf G.out.r hF (by omega) (by omega)
          have HFt : Hid (LTR 2 y zf = Fit 2 y zs (k + 1)) := by show _ = _; rw [Fit, ← hFt, LTR_tr]
          have hFn' := hFn
          clear hF hFt hFn
          go_wp2_with fail
          go_fit hl
          rintro r w1' ⟨p3', n3', e3', rfl, hL, hb1'⟩
          rw [HFt.out] at hL
          have hLz := hL.zl
          have hLn : n3' ≤ 7 := by have := Fit_len 2 y zs (k + 1); have := G.out.zl; omega
          have hGP := hL.pa (by omega) (by omega)
          have hGP' : PA w1' (2 + (k + 1) * 14) p3' n3' n3' e3' (Fit 2 y zs (k + 1)) := (hL.wider (by omega)).pa (by omega) (by omega)
          have hm := uMul_pk (HP2.out.1.below hb1') hGP' (by have := HP2.out.2; omega) (by omega) (by omega)
          rw [hL.tr] at hm
          have HGP : Hid (PA w1' (2 + (k + 1) * 14) p3' n3' n3' e3' (Fit 2 y zs (k + 1)) ∧ Below wr.heap.size wr w1') := ⟨hGP', hb1'⟩
          have hLt := hL.tr
          clear hl hGP hGP' hL hb1' hLz
          go_wp2_with fail
          go_fit hm
          rintro r w2 ⟨p3, n3, e3, rfl, hM, hb2⟩
          have hB2 := bnext' HGP.out.2 hb2
          obtain ⟨oe, hO⟩ := G.out.o
          have hMn : n3 ≤ 1000 := by have := mulp_le (tr (gt zss (k + 1))) (Fit 2 y zs (k + 1)); have := hM.zl; have := HP2.out.1.zl; have := HP2.out.2; have h8 := length_tr (gt zss (k + 1)); have := tlen_le (gt zss (k + 1)); have := Fit_len 2 y zs (k + 1); have := G.out.zl; omega
          have hadd := uAdd_any ((hO.pa (by omega) (by have := G.out.on; omega)).below hB2) (hM.pa (by omega) (by omega)) (by have := G.out.on; omega) (by omega) (by omega)
          rw [hO.tr, hM.tr] at hadd
          clear hm
          go_wp2_with fail
          go_fit hadd
          rintro r w3 ⟨p4, n4, e4, rfl, hA, hb3⟩
          have HN : Hid (ApI w w3 g 2 y B T zss ⟨some ⟨b, o, none⟩, hn', hc⟩ zs (k + 1 + 1) p3' n3' n3' p4 n4) := G.out.next hB2 hb3 hA (by omega) (by rw [HP2.out.1.zl]; exact HP2.out.2) ((HGP.out.1.below hb2).below hb3) hLt hLn
          clear hadd hO hM hb2 hb3 hA c1 hB2
          go_wp2
          exact ⟨⟨k + 1 + 1, p3', n3', n3', p4, n4, by omega, rfl, rfl, by go_num, HN.out⟩, by simp [intOf]; omega⟩
      · obtain rfl : i = olen zss := by omega
        have HG : Hid (∃ oe, PN w.heap.size wr 310 op on oe (Ozs 2 y zss zs (olen zss)) ∧ Below w.heap.size w wr) := by
          obtain ⟨oe, hO⟩ := G.out.o
          exact ⟨oe, hO.wider (by omega), G.out.b⟩
        clear G
        go_wp2
        obtain ⟨oe, h1, h2⟩ := HG.out
        exact bodyPost_ret (v := .tuple #[.slice op on on, .int .i64 0]) (by simp [results, Tryz.results34, go_sem]) rfl ⟨fun h => absurd h (by rw [HES.out]; omega), fun _ => ⟨op, on, oe, rfl, h1⟩, h2⟩
  · have h2' : (al == 2) = false := by rw [beq_eq_false_iff_ne]; exact h2
    have HJ : Hid (LetOK 16 g al y) := let_sigma h2
    go_wp2_with fail
    go_fit hot
    rintro r w6 ⟨rfl, hb6⟩
    have HW : Hid (RuleQ w6 g al y ∧ HR 5 (EZ 2 4) w6 B T zss ⟨hp, hn', hc⟩ ∧ T ≤ w6.heap.size ∧ PA w6 2 p n nc es zs ∧ Below w.heap.size w w6) := ⟨HZ.out.1.below hb6, (lasts_HR (lasts_EZ 2 4)).below HZ.out.2.1 HZ.out.2.2.1 hb6, Nat.le_trans HZ.out.2.2.1 hb6.size, HZ.out.2.2.2.1.below hb6, bnext' HB.out hb6⟩
    clear HB HZ hb6 c0 hot
    go_wp2_with fail
    go_loopw [2, 9, 10, 11, 40] (fun fv ov _ _ kv wr => ∃ (i : Nat) (fp : Option Addr) (fn fc : Nat) (op : Option Addr) (on : Nat), i ≤ olen zss ∧ fv = .slice fp fn fc ∧ ov = .slice op on on ∧ kv = .int .i64 i ∧ Hid (ApI w wr g al y B T zss ⟨hp, hn', hc⟩ zs i fp fn fc op on)) (fun _ _ _ _ kv _ => olen zss - (intOf kv).toNat)
    case atStart => exact ⟨0, p, n, nc, none, 0, Nat.zero_le _, rfl, rfl, by go_num, ApI.start HW.out.1 HW.out.2.1 HW.out.2.2.1 HW.out.2.2.2.1 hn HW.out.2.2.2.2⟩
    case round =>
      obtain ⟨i, fp, fn, fc, op, on, hi, rfl, rfl, rfl, G⟩ := hrel
      rcases Nat.lt_or_ge i (olen zss) with hlt | hge
      · obtain ⟨b, o, p2, n2, nc2, es2, hpb, c1, hP2, hn2⟩ := G.out.entry hlt
        subst hpb
        have i1 : (i : Int) < ((olen zss : Nat) : Int) := by omega
        have HP2 : Hid (PA wr 2 p2 n2 nc2 es2 (gt zss i) ∧ n2 ≤ 4) := ⟨hP2, hn2⟩
        clear hP2 hn2
        by_cases hi0 : i = 0
        · subst hi0
          rw [Nat.add_zero] at c1
          obtain ⟨fe, zf, hF0, hFt0, hFn⟩ := G.out.f
          have hF : PA wr 2 fp fn fc fe zf := hF0
          have hFt : tr zf = Fit al y zs 0 := hFt0
          clear hF0 hFt0
          have hm := uMul_pk HP2.out.1 hF (by have := HP2.out.2; omega) (by omega) (by omega)
          rw [hFt] at hm
          have hFn' := hFn
          clear hF hFt hFn
          go_wp2_with fail
          go_fit hm
          rintro r w2 ⟨p3, n3, e3, rfl, hM, hb2⟩
          obtain ⟨oe, hO⟩ := G.out.o
          have hadd := uAdd_any ((hO.pa (by omega) (by have := G.out.on; omega)).below hb2) (hM.pa (by omega) (by have := mulp_le (tr (gt zss 0)) (Fit al y zs 0); have := hM.zl; have := HP2.out.1.zl; have := HP2.out.2; have h8 := length_tr (gt zss 0); have := tlen_le (gt zss 0); have := Fit_len al y zs 0; have := G.out.zl; omega)) (by have := G.out.on; omega) (by have := mulp_le (tr (gt zss 0)) (Fit al y zs 0); have := hM.zl; have := HP2.out.1.zl; have := HP2.out.2; have h8 := length_tr (gt zss 0); have := tlen_le (gt zss 0); have := Fit_len al y zs 0; have := G.out.zl; omega) (by omega)
          rw [hO.tr, hM.tr] at hadd
          clear hm
          go_wp2_with fail
          go_fit hadd
          rintro r w3 ⟨p4, n4, e4, rfl, hA, hb3⟩
          have HN : Hid (ApI w w3 g al y B T zss ⟨some ⟨b, o, none⟩, hn', hc⟩ zs (0 + 1) fp fn fc p4 n4) := G.out.first hb2 hb3 hA (by omega) (by rw [HP2.out.1.zl]; exact HP2.out.2)
          clear hadd hO hM hb2 hb3 hA c1
          go_wp2
          exact ⟨⟨1, fp, fn, fc, p4, n4, by omega, rfl, rfl, by go_num, HN.out⟩, by simp [intOf]; omega⟩
        · obtain ⟨k, rfl⟩ : ∃ k, i = k + 1 := ⟨i - 1, by omega⟩
          have i2 : (0 : Int) < ((k + 1 : Nat) : Int) := by omega
          obtain ⟨fe, zf, hF, hFt, hFn⟩ := G.out.f
          rw [Nat.add_sub_cancel] at hF hFt
          have hl := HJ.out wr _ fp fn fc fe zf G.out.r hF (by omega) (by omega)
          have HFt : Hid (LTR al y zf = Fit al y zs (k + 1)) := by show _ = _; rw [Fit, ← hFt, LTR_tr]
          have hFn' := hFn
          clear hF hFt hFn
          go_wp2_with fail
          go_fit hl
          rintro r w1' ⟨p3', n3', e3', rfl, hL, hb1'⟩
          rw [HFt.out] at hL
          have hLz := hL.zl
          have hLn : n3' ≤ 7 := by have := Fit_len al y zs (k + 1); have := G.out.zl; omega
          have hGP := hL.pa (by omega) (by omega)
          have hGP' : PA w1' (2 + (k + 1) * 14) p3' n3' n3' e3' (Fit al y zs (k + 1)) := (hL.wider (by omega)).pa (by omega) (by omega)
          have hm := uMul_pk (HP2.out.1.below hb1') hGP' (by have := HP2.out.2; omega) (by omega) (by omega)
          rw [hL.tr] at hm
          have HGP : Hid (PA w1' (2 + (k + 1) * 14) p3' n3' n3' e3' (Fit al y zs (k + 1)) ∧ Below wr.heap.size wr w1') := ⟨hGP', hb1'⟩
          have hLt := hL.tr
          clear hl hGP hGP' hL hb1' hLz
          go_wp2_with fail
          go_fit hm
          rintro r w2 ⟨p3, n3, e3, rfl, hM, hb2⟩
          have hB2 := bnext' HGP.out.2 hb2
          obtain ⟨oe, hO⟩ := G.out.o
          have hMn : n3 ≤ 1000 := by have := mulp_le (tr (gt zss (k + 1))) (Fit al y zs (k + 1)); have := hM.zl; have := HP2.out.1.zl; have := HP2.out.2; have h8 := length_tr (gt zss (k + 1)); have := tlen_le (gt zss (k + 1)); have := Fit_len al y zs (k + 1); have := G.out.zl; omega
          have hadd := uAdd_any ((hO.pa (by omega) (by have := G.out.on; omega)).below hB2) (hM.pa (by omega) (by omega)) (by have := G.out.on; omega) (by omega) (by omega)
          rw [hO.tr, hM.tr] at hadd
          clear hm
          go_wp2_with fail
          go_fit hadd
          rintro r w3 ⟨p4, n4, e4, rfl, hA, hb3⟩
          have HN : Hid (ApI w w3 g al y B T zss ⟨some ⟨b, o, none⟩, hn', hc⟩ zs (k + 1 + 1) p3' n3' n3' p4 n4) := G.out.next hB2 hb3 hA (by omega) (by rw [HP2.out.1.zl]; exact HP2.out.2) ((HGP.out.1.below hb2).below hb3) hLt hLn
          clear hadd hO hM hb2 hb3 hA c1 hB2
          go_wp2
          exact ⟨⟨k + 1 + 1, p3', n3', n3', p4, n4, by omega, rfl, rfl, by go_num, HN.out⟩, by simp [intOf]; omega⟩
      · obtain rfl : i = olen zss := by omega
        have HG : Hid (∃ oe, PN w.heap.size wr 310 op on oe (Ozs al y zss zs (olen zss)) ∧ Below w.heap.size w wr) := by
          obtain ⟨oe, hO⟩ := G.out.o
          exact ⟨oe, hO.wider (by omega), G.out.b⟩
        clear G
        go_wp2
        obtain ⟨oe, h1, h2⟩ := HG.out
        exact bodyPost_ret (v := .tuple #[.slice op on on, .int .i64 0]) (by simp [results, Tryz.results34, go_sem]) rfl ⟨fun h => absurd h (by rw [HES.out]; omega), fun _ => ⟨op, on, oe, rfl, h1⟩, h2⟩
end Go.Proofs.YtifebbacnlhggaaGreatDoor
