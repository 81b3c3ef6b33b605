/-
  upoly.Deriv.
-/
import Derived.Test.YtgecfnoecmjacaaGreatDoorRpVnVp
import Derived.Test.YtgecfnoecmjacaaGreatDoorVrPmHhPy
import Derived.Test.YtgecfnoecmjacaaGreatDoorRkUg
namespace Go.Proofs.YtgecfnoecmjacaaGreatDoor
open Go.RowKit
set_option linter.unusedVariables false
set_option linter.unusedSimpArgs false

theorem lasts_NV (B K : Nat) : Lasts (fun w z e => NV B w K z e) := ⟨fun h hg hne => by
    obtain ⟨xs, h1, h2⟩ := h
    exact ⟨xs, ⟨h1.len, rd_grown h1.rd hg (by rw [h1.len]; exact hne), h1.u, h1.nrm, h1.sg, h1.pn, h1.v, h1.fr⟩, h2⟩, fun h hn => by
    obtain ⟨xs, h1, h2⟩ := h
    exact rd_lt h1.rd (by rw [h1.len]; exact hn)⟩
set_option maxHeartbeats 2000000 in
theorem clipP_any (q : Option Addr) (m mc : Nat) (w : World) (h : m ≤ mc) (hc : mc ≤ maxLen) (hq : q = none → mc = 0) :
    Calls Tryz.prog 71 #[.slice q m mc] w fun e w' => e = .returned (.slice q m m) ∧ w = w' := by
  unfold maxLen at hc
  go_enter Tryz.func71, Tryz.ntmps71
  go_wp2
  go_ret
  exact ⟨rfl, rfl⟩
theorem Of_e (a : Int) (w : World) (h0 : -9223372036854775808 ≤ a) (h1 : a ≤ 9223372036854775807) : Calls Tryz.prog 70 #[.int .i64 a] w fun r w' => ∃ u : Ent, r = .returned (.agg #[.bool u.s, .slice u.p u.n u.c]) ∧ NV w.heap.size w' 2 a u ∧ Below w.heap.size w w' := by
  refine (Of_any a w h0 h1).mono ?_
  rintro e w' ⟨s', p', n', zs, rfl, g1, g2, g3⟩
  exact ⟨⟨s', p', n', n'⟩, rfl, ⟨zs, g1, rfl, g2⟩, g3⟩
/-- A normal polynomial's derivative is normal. -/
theorem derz_top (zs : List Int) : tlen (derz (tr zs)) = tlen zs - 1 := by
  have hl := length_derz (tr zs)
  rw [length_tr] at hl
  refine tlen_eq _ _ (fun j hj => gx_past _ _ (by rw [hl]; exact Nat.le_refl _) j hj) ?_
  rcases Nat.eq_zero_or_pos (tlen zs - 1) with h | h
  · exact .inl h
  · refine .inr ?_
    rw [gx_derz _ _ (by rw [length_tr]; omega), gx_tr]
    have h1 := tlen_top zs (by omega)
    have e : tlen zs - 1 - 1 + 1 = tlen zs - 1 := by omega
    rw [e]
    exact Int.mul_ne_zero (by omega) h1
set_option maxHeartbeats 4000000 in
set_option maxRecDepth 100000 in
/-- upoly.Deriv. -/
theorem uDeriv_any {w : World} {K : Nat} {p : Option Addr} {n0 nc0 : Nat} {es00 : List Ent} {zs0 : List Int} (h0 : PA w K p n0 nc0 es00 zs0) (hn0 : n0 ≤ 100000) (hK : K ≤ 900) :
    Calls Tryz.prog 23 #[.slice p n0 nc0] w (PnP (derz (tr zs0)) (2 + K) w) := by
  obtain ⟨i0, hi, hzz⟩ := Option.map_eq_some_iff.1 info_api
  simp only [Prod.mk.injEq] at hzz
  obtain ⟨hz0, hz1, hz2⟩ := hzz
  have HI : Hid (Tryz.prog.info? 26 = some i0 ∧ i0.zero = some (.agg #[.bool false, .slice none 0 0]) ∧ i0.size = 2 ∧ i0.bytes = 32) := ⟨hi, hz0, hz1, hz2⟩
  have hn : tlen zs0 ≤ 100000 := by have := tlen_le zs0; have := h0.zl; omega
  go_enter Tryz.func23, Tryz.ntmps23
  go_wp2_with fail
  refine (utrim_any K p n0 nc0 es00 zs0 _ h0 (by omega)).mono ?_
  rintro e W ⟨rfl, hbW⟩
  have h := h0.trim.below hbW
  have HTP : Hid (tlen (derz (tr zs0)) = tlen zs0 - 1) := derz_top zs0
  have hel0 := h.el
  have hzl0 := h.zl
  have hvl := length_derz (tr zs0)
  have hvg := gx_derz (tr zs0)
  rw [length_tr] at hvl hvg
  generalize hvs : derz (tr zs0) = vs at *
  generalize es00.take (tlen zs0) = es0 at *
  generalize tr zs0 = zs at *
  generalize tlen zs0 = n at *
  have HX : Hid (PA W K p n n es0 zs ∧ Below w.heap.size w W ∧ tlen vs = n - 1) := ⟨h, hbW, HTP.out⟩
  have HVS : Hid ((∀ j, j < n - 1 → gx vs j = ((j : Int) + 1) * gx zs (j + 1)) ∧ vs.length = n - 1) := ⟨hvg, hvl⟩
  clear h0 h hi hz0 hz1 hz2 hvs hvg hvl hbW HTP
  go_wp2_with fail
  go_loopw [3, 4] (fun sv iv wr => ∃ (k : Nat) (es : List Ent), (k = 0 ∨ k + 1 ≤ n) ∧ iv = .int .i64 ((k + 1 : Nat) : Int) ∧ Hid (es.length = k ∧ LG W.heap.size 26 (fun wx z e => NV W.heap.size wx (2 + K) z e) wr sv es (vs.take k) ∧ Below W.heap.size W wr)) (fun _ iv _ => n - (intOf iv).toNat)
  case atStart => exact ⟨0, [], .inl rfl, by go_num, rfl, by rw [List.take_zero]; exact LG.nil _ _ _ _, Below.refl _ _⟩
  case round =>
    obtain ⟨k, es, hk, rfl, H⟩ := hrel
    generalize hK1 : k + 1 = k1 at *
    have HK : Hid (k + 1 = k1) := hK1
    have hk1 : 1 ≤ k1 := by omega
    have hk2 : k1 ≤ 100001 := by omega
    have hk3 : k ≤ 100000 := by omega
    clear hK1
    rcases Nat.lt_or_ge k1 n with hlt | hge
    · obtain ⟨hel, hLR, hB⟩ := H.out
      have hPR := HX.out.1.below hB
      obtain ⟨b, o, hp, hc⟩ := hPR.pl (by omega)
      subst hp
      obtain ⟨x0, x1⟩ := hc k1 (by omega)
      have hx := hPR.ev k1 hlt
      have i1 : (k1 : Int) < (n : Int) := by omega
      have v1 : IntKind.i64.wrap (k1 : Int) = (k1 : Int) := by rw [IntKind.wrap_i64]; omega
      have HC : Hid (W.cell? ⟨b, o + k1 * 2, none⟩ = some (.bool (ge es0 k1).s) ∧ W.cell? ⟨b, o + k1 * 2 + 1, none⟩ = some (.slice (ge es0 k1).p (ge es0 k1).n (ge es0 k1).c)) := by
        obtain ⟨b', o', hb', hc'⟩ := HX.out.1.pl (by omega)
        cases hb'
        exact hc' k1 (by omega)
      have hof := Of_e (k1 : Int) wr.drew (by omega) (by omega)
      obtain ⟨hi, hz0, hz1, hz2⟩ := HI.out
      clear hel hLR hB hc hPR
      go_upto_region 6 with fail
      go_region_held3 (fun w' => w'.cell? ⟨b, o + k1 * 2, none⟩ = some (.bool (ge es0 k1).s) ∧ w'.cell? ⟨b, o + k1 * 2 + 1, none⟩ = some (.slice (ge es0 k1).p (ge es0 k1).n (ge es0 k1).c) ∧ w'.cell? ⟨b, o + k1 * 2, none⟩ = some (.bool (ge es0 k1).s) ∧ w'.cell? ⟨b, o + k1 * 2 + 1, none⟩ = some (.slice (ge es0 k1).p (ge es0 k1).n (ge es0 k1).c)) (first | with_reducible exact ⟨x0, x1, x0, x1⟩ | with_reducible exact K3 | (refine keep4R ⟨x0, x1, x0, x1⟩ ?_; (repeat (first | (with_reducible exact hB2) | (with_reducible exact hB1) | (with_reducible exact Below.refl _ _) | (refine Bel_al ?_ (Nat.le_refl _)) | (refine Below.drew ?_))); done))
        (first
          | (go_at_call 70; go_fit hof; rintro r w1 ⟨u1, rfl, hO1, hb1⟩; have hB1 := undrew hb1; have hmu := Mul_ev (hO1.ev (by omega)) (hx.below hB1) (by omega); clear hb1)
          | (go_at_call 69; go_fit hmu; rintro r w2 ⟨u, rfl, hN0, hb2⟩; have hN1 := hN0.mono (Nat.le_trans H.out.2.2.size hB1.size); have hF1 : Go.Proofs.YtgecfnoecmjacaaGreatDoor.From wr.heap.size u.p := fun a ha => Nat.le_trans hB1.size (hN0.frm a ha); clear hN0; have hB2 := bnext' hB1 hb2; have hown0 := own_below H.out.2.1.own hB2; rw [H.out.1] at hown0; have HO : Hid (w2.ownsRow W.heap.size 26 2 u3 k (fl es)) := hown0; clear hown0; have hsz : W.heap.size ≤ w2.heap.size := Nat.le_trans H.out.2.2.size hB2.size)
          | (refine step_append_lies _ rfl _ _ 23 rfl W.heap.size 26 i0 (.agg #[.bool false, .slice none 0 0]) 2 32 Tryz.underlying23 hi hz0 hz1 hz2 rfl (by decide) u3 k (fl es) rfl (HO.out.alloc _) ⟨w2.heap.size, 0, none⟩ 1 1 [.bool u.s, .slice u.p u.n u.c] rfl rfl ?_ (fun x hx => by simp at hx; rcases hx with rfl | rfl <;> rfl) (by decide) (by unfold maxLen; omega) (by omega) (by simp; omega) _ rfl ?_; exact World.news_of_block (heap_alloc_new w2 _); intro g cap w3 hown3 hgrow3 hat3 hlt3; have hB3 : Below W.heap.size W w3 := ((bnext' H.out.2.2 hB2).alloc (by omega) _).grown hgrow3 (by simp; omega) (fun q hq => by have := (HO.out.lt q hq).1; omega); have K3 := And.intro (cell_later hB3 HC.out.1) (And.intro (cell_later hB3 HC.out.2) (And.intro (cell_later hB3 HC.out.1) (cell_later hB3 HC.out.2))); have HA : Hid (LG W.heap.size 26 (fun wx z e => NV W.heap.size wx (2 + K) z e) w3 (.slice (some ⟨g, 0, none⟩) (k + 1) cap) (es ++ [u]) (vs.take k ++ [(k1 : Int) * gx zs k1])) := LG.app (lasts_NV _ _) H.out.1 H.out.2.1 hB2 hN1 (fun h0 a ha => .inr (hF1 a ha)) hown3 hgrow3 hat3; clear hown3 hgrow3 hat3))
      all_goals
        clear hmu hof hx hN1 x0 x1
        go_wp2
        refine ⟨⟨k + 1, es ++ [u], .inr (by have := HK.out; omega), by have := HK.out; subst this; go_num, by have := H.out.1; simp; omega, ?_, hB3⟩, by simp [intOf]; omega⟩
        have hkk := HK.out
        rw [take_snocg vs k (by have := HVS.out.2; omega), HVS.out.1 k (by omega)]
        have e1 : ((k : Int) + 1) * gx zs (k + 1) = (k1 : Int) * gx zs k1 := by subst hkk; push_cast; rfl
        rw [e1]
        exact HA.out
    · obtain ⟨hel, hLR, hB⟩ := H.out
      have hvl := HVS.out.2
      have hkk := HK.out
      rw [List.take_of_length_le (by omega)] at hLR
      obtain ⟨q, cap, hv, hcap1, hcap2, hpl, hF, hq0⟩ := hLR.pl
      subst hv
      have HL : Hid (vs.length = k ∧ (∀ j, j < k → NV W.heap.size wr (2 + K) (gx vs j) (ge es j)) ∧ PL wr q es ∧ es.length = k ∧ Below W.heap.size W wr) := ⟨by rw [hLR.zl]; exact hel, by rw [← hel]; exact hLR.ev, hpl, hel, hB⟩
      rw [hel] at hcap1 ⊢
      clear H hLR hB hk hkk hpl
      go_wp2_with fail
      refine (clipP_any q k cap _ hcap1 hcap2 hq0).mono ?_
      rintro e w1 ⟨rfl, rfl⟩
      go_wp2
      go_ret
      obtain ⟨l1, l2, l3, l4, l5⟩ := HL.out
      obtain ⟨-, hbW, htv⟩ := HX.out
      exact ⟨q, k, es, rfl, ⟨l4, l1, by omega, l3, fun a ha => Nat.le_trans hbW.size (hF a ha), fun j hj => (l2 j hj).mono hbW.size⟩, bnext' hbW l5⟩
end Go.Proofs.YtgecfnoecmjacaaGreatDoor
/-
  upoly.Eq.
-/
namespace Go.Proofs.YtgecfnoecmjacaaGreatDoor
open Go.RowKit
set_option linter.unusedVariables false
set_option linter.unusedSimpArgs false

theorem Cmp_ev {w : World} {K L : Nat} {x y : Int} {e f : Ent} (h : EV w K x e) (k : EV w L y f) : Calls Tryz.prog 78 #[.agg #[.bool e.s, .slice e.p e.n e.c], .agg #[.bool f.s, .slice f.p f.n f.c]] w fun r w' => r = .returned (.int .i64 (icmp x y)) ∧ Below w.heap.size w w' := by
  obtain ⟨xs, h1, rfl, h3⟩ := h
  obtain ⟨ys, k1, rfl, k3⟩ := k
  exact Cmp_any e.s f.s e.p f.p e.n e.c f.n f.c xs ys w h1 k1
theorem icmp_dec (x y : Int) : (icmp x y == 0) = decide (x = y) := by
  unfold icmp
  rcases Int.lt_trichotomy x y with h | h | h
  · rw [if_pos h]; simp; omega
  · subst h; simp
  · rw [if_neg (by omega), if_pos h]; simp; omega
set_option maxHeartbeats 2000000 in
set_option maxRecDepth 100000 in
theorem eqSame_any {w : World} {K L : Nat} {x y : Int} {e f : Ent} (h : EV w K x e) (k : EV w L y f) : Calls Tryz.prog 77 #[.agg #[.bool e.s, .slice e.p e.n e.c], .agg #[.bool f.s, .slice f.p f.n f.c]] w fun r w' => r = .returned (.bool (decide (x = y))) ∧ Below w.heap.size w w' := by
  have hd : Hid ((icmp x y == 0) = decide (x = y)) := icmp_dec x y
  go_enter Tryz.func77, Tryz.ntmps77
  go_wp2_with fail
  have hW : Below w.heap.size w ((w.alloc (.cells #[.bool e.s, .slice e.p e.n e.c] 26)).alloc (.cells #[.bool f.s, .slice f.p f.n f.c] 26)) := ((Below.refl _ _).alloc (Nat.le_refl _) _).alloc (by simp) _
  generalize (w.alloc (.cells #[.bool e.s, .slice e.p e.n e.c] 26)).alloc (.cells #[.bool f.s, .slice f.p f.n f.c] 26) = W at *
  refine (Cmp_ev (h.below hW) (k.below hW)).mono ?_
  rintro r w1 ⟨rfl, hb1⟩
  go_wp2
  go_ret
  exact ⟨by rw [hd.out]; rfl, bnext' hW hb1⟩
theorem callSame (args : Array Value) (w' : World) : Sem.run Tryz.prog (callFunc 77 args) w' = .ok (.enter 77 args) w' := by
  have h1 : ¬ Tryz.f77.name = "runtime.NumGoroutine" := of_decide_eq_false (by kernel_rfl)
  have h2 : ¬ Tryz.f77.body = none := fun h => by cases h
  simp only [callFunc, Tryz.func77, go_sem]
  simp [h1, h2, go_sem]
set_option maxHeartbeats 2000000 in
set_option maxRecDepth 100000 in
/-- slices.EqualFunc. -/
theorem eqFunc_any {w : World} {K L : Nat} {p q : Option Addr} {n nc m mc : Nat} {es fs : List Ent} {zs ys : List Int} (h : PA w K p n nc es zs) (k : PA w L q m mc fs ys) (hn : n ≤ 1000000) (hm : m ≤ 1000000) :
    Calls Tryz.prog 79 #[.slice p n nc, .slice q m mc, .func (.func 77) #[] #[]] w fun r w' => r = .returned (.bool (decide (zs = ys))) ∧ Below w.heap.size w w' := by
  have hel := h.el
  have hfl := k.el
  have hzl := h.zl
  have hyl := k.zl
  by_cases hnm : n = m
  · subst hnm
    go_enter Tryz.func79, Tryz.ntmps79
    go_wp2_with fail
    have hE := callSame
    go_loopw [7, 8, 9, 17] (fun iv av bv kv wr => ∃ j : Nat, j ≤ n ∧ kv = .int .i64 j ∧ Hid ((∀ i, i < j → gx zs i = gx ys i) ∧ Below w.heap.size w wr)) (fun _ _ _ kv _ => n - (intOf kv).toNat)
    case atStart => exact ⟨0, Nat.zero_le _, by go_num, fun i hi => by omega, Below.refl _ _⟩
    case round =>
      obtain ⟨j, hj, rfl, H⟩ := hrel
      rcases Nat.lt_or_ge j n with hlt | hge
      · have hh := h.below H.out.2
        have hk := k.below H.out.2
        have hv := hh.ev j hlt
        have hw := hk.ev j hlt
        obtain ⟨b, o, hp, hc⟩ := hh.pl (by omega)
        obtain ⟨c, r, hq, hd⟩ := hk.pl (by omega)
        subst hp hq
        obtain ⟨c0, c1⟩ := hc j (by omega)
        obtain ⟨d0, d1⟩ := hd j (by omega)
        have sb : b < wr.heap.size := block_lt_of_cell c0
        have sc : c < wr.heap.size := block_lt_of_cell d0
        clear hc hd hh hk
        go_wp2_with fail
        have hal := bel_al (o := .cells #[.bool (ge fs j).s, .slice (ge fs j).p (ge fs j).n (ge fs j).c] 26) (bel_al (o := .cells #[.bool (ge es j).s, .slice (ge es j).p (ge es j).n (ge es j).c] 26) (Below.refl wr.heap.size wr))
        refine (eqSame_any (hv.below hal) (hw.below hal)).mono ?_
        rintro e w1 ⟨rfl, hb1⟩
        have hB := bnext' H.out.2 (bnext' hal hb1)
        have hcs : Hid (gx zs j = gx ys j ∨ ¬ gx zs j = gx ys j) := Classical.em _
        clear c0 c1 d0 d1 hv hw hal hb1 sb sc
        rcases hcs.out with hz | hz
        · rw [decide_eq_true hz]
          have HZ : Hid (gx zs j = gx ys j) := hz
          clear hz hcs
          go_wp2
          go_roundw
          case rel => exact ⟨j + 1, by omega, by go_num, fun i hi => by
            rcases Nat.lt_or_ge i j with h' | h'
            · exact H.out.1 i h'
            · obtain rfl : i = j := by omega
              exact HZ.out, hB⟩
          case measure => simp [intOf]; omega
        · rw [decide_eq_false hz]
          have HD : Hid (decide (zs = ys) = false) := decide_eq_false fun e => hz (by rw [e])
          clear hz hcs
          go_wp2
          go_ret
          exact ⟨by rw [HD.out]; rfl, hB⟩
      · obtain rfl : j = n := by omega
        have HD : Hid (decide (zs = ys) = true) := decide_eq_true (gx_ext _ _ (by omega) fun i hi => H.out.1 i (by omega))
        have hB := H.out.2
        clear hge
        go_wp2
        go_ret
        exact ⟨by rw [HD.out]; rfl, hB⟩
  · have hne : ¬ zs = ys := fun e => hnm (by rw [← hzl, ← hyl, e])
    have HD : Hid (decide (zs = ys) = false) := decide_eq_false hne
    have hI : ((n : Int) != (m : Int)) = true := by rw [bne_iff_ne]; omega
    clear hne hel hfl hzl hyl
    go_enter Tryz.func79, Tryz.ntmps79
    go_wp2
    go_ret
    exact ⟨by rw [HD.out]; rfl, Below.refl _ _⟩
set_option maxHeartbeats 2000000 in
set_option maxRecDepth 100000 in
/-- upoly.Eq. -/
theorem uEq_any {w : World} {K L : Nat} {p q : Option Addr} {n nc m mc : Nat} {es fs : List Ent} {zs ys : List Int} (h : PA w K p n nc es zs) (k : PA w L q m mc fs ys) (hn : n ≤ 1000000) (hm : m ≤ 1000000) :
    Calls Tryz.prog 33 #[.slice p n nc, .slice q m mc] w fun r w' => r = .returned (.bool (decide (tr zs = tr ys))) ∧ Below w.heap.size w w' := by
  have htl := tlen_le zs
  have htl' := tlen_le ys
  have hzl := h.zl
  have hyl := k.zl
  go_enter Tryz.func33, Tryz.ntmps33
  go_wp2_with fail
  refine (utrim_any K p n nc es zs _ h hn).mono ?_
  rintro e w1 ⟨rfl, hb1⟩
  go_wp2_with fail
  refine (utrim_any L q m mc fs ys _ (k.below hb1) hm).mono ?_
  rintro e w2 ⟨rfl, hb2⟩
  have h2 := ((h.below hb1).below hb2).trim
  have k2 := ((k.below hb1).below hb2).trim
  go_wp2_with fail
  refine (eqFunc_any h2 k2 (by omega) (by omega)).mono ?_
  rintro e w3 ⟨rfl, hb3⟩
  go_wp2
  go_ret
  exact ⟨rfl, bnext' (bnext' hb1 hb2) hb3⟩
end Go.Proofs.YtgecfnoecmjacaaGreatDoor
