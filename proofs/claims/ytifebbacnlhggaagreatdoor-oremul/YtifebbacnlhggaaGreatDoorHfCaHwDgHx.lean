/-
  upoly.Deriv.
-/
import Derived.Test.YtifebbacnlhggaaGreatDoorBwGkVpVzCcGlPy
import Derived.Test.YtifebbacnlhggaaGreatDoorFpCdDeGaGbKpGcGdGeQaQbQcQdQgQhGfGgUnWfUuByUxUtUvUwUyUzUrUsHaHbHcHeVv
import Derived.Test.YtifebbacnlhggaaGreatDoorBpBnBoAhAdBsDtAgWvUhAiRzVd
import Derived.Deep.DeepFit
import Derived.Test.YtifebbacnlhggaaGreatDoorLnWrIbWgUeUfUg
import Derived.Test.YtifebbacnlhggaaGreatDoorDdDvPmHuVy
namespace Go.Proofs.YtifebbacnlhggaaGreatDoor
open Go.RowKit
set_option linter.unusedVariables false
set_option linter.unusedSimpArgs false
set_option maxHeartbeats 8000000
theorem clipP_any (q : Option Addr) (m mc : Nat) (w : World) (h : m ≤ mc) (hc : mc ≤ maxLen) (hq : q = none → mc = 0) :
    Calls Tryz.prog 106 #[.slice q m mc] w fun e w' => e = .returned (.slice q m m) ∧ w = w' := by
  unfold maxLen at hc
  go_enter Tryz.func106, Tryz.ntmps106
  go_wp2
  go_ret
  exact ⟨rfl, rfl⟩
theorem derz_top (zs : List Int) : tlen (derz (tr zs)) = tlen zs - 1 := by
  have hl := length_derz (tr zs)
  rw [length_tr] at hl
  refine tlen_eq _ _ (fun j hj => gx_past _ _ (by rw [hl]; exact Nat.le_refl _) j hj) ?_
  rcases Nat.eq_zero_or_pos (tlen zs - 1) with h | h
  · exact .inl h
  · refine .inr ?_
    rw [gx_derz _ _ (by rw [length_tr]; omega), gx_tr]
    have h1 := tlen_top zs (by omega)
    have e : tlen zs - 1 - 1 + 1 = tlen zs - 1 := by omega
    rw [e]
    exact Int.mul_ne_zero (by omega) h1
set_option maxRecDepth 100000 in
theorem uDeriv_any {w : World} {K : Nat} {p : Option Addr} {n0 nc0 : Nat} {es00 : List Ent} {zs0 : List Int} (h0 : PA w K p n0 nc0 es00 zs0) (hn0 : n0 ≤ 100000) (hK : K ≤ 900) :
    Calls Tryz.prog 55 #[.slice p n0 nc0] w (PnP (derz (tr zs0)) (2 + K) w) := by
  obtain ⟨i0, hi, hzz⟩ := Option.map_eq_some_iff.1 info_api
  simp only [Prod.mk.injEq] at hzz
  obtain ⟨hz0, hz1, hz2⟩ := hzz
  have HI : Hid (Tryz.prog.info? 24 = some i0 ∧ i0.zero = some (.agg #[.bool false, .slice none 0 0]) ∧ i0.size = 2 ∧ i0.bytes = 32) := ⟨hi, hz0, hz1, hz2⟩
  have hn : tlen zs0 ≤ 100000 := by have := tlen_le zs0; have := h0.zl; omega
  go_enter Tryz.func55, Tryz.ntmps55
  go_wp2_with fail
  refine (utrim_any K p n0 nc0 es00 zs0 _ h0 (by omega)).mono ?_
  rintro e W ⟨rfl, hbW⟩
  have h := h0.trim.below hbW
  have HTP : Hid (tlen (derz (tr zs0)) = tlen zs0 - 1) := derz_top zs0
  have hel0 := h.el
  have hzl0 := h.zl
  have hvl := length_derz (tr zs0)
  have hvg := gx_derz (tr zs0)
  rw [length_tr] at hvl hvg
  generalize hvs : derz (tr zs0) = vs at *
  generalize es00.take (tlen zs0) = es0 at *
  generalize tr zs0 = zs at *
  generalize tlen zs0 = n at *
  have HX : Hid (PA W K p n n es0 zs ∧ Below w.heap.size w W ∧ tlen vs = n - 1) := ⟨h, hbW, HTP.out⟩
  have HVS : Hid ((∀ j, j < n - 1 → gx vs j = ((j : Int) + 1) * gx zs (j + 1)) ∧ vs.length = n - 1) := ⟨hvg, hvl⟩
  clear h0 h hi hz0 hz1 hz2 hvs hvg hvl hbW HTP
  go_wp2_with fail
  go_loopw [3, 4] (fun sv iv wr => ∃ (k : Nat) (es : List Ent), (k = 0 ∨ k + 1 ≤ n) ∧ iv = .int .i64 ((k + 1 : Nat) : Int) ∧ Hid (es.length = k ∧ LG W.heap.size 24 (fun wx z e => NV W.heap.size wx (2 + K) z e) wr sv es (vs.take k) ∧ Below W.heap.size W wr)) (fun _ iv _ => n - (intOf iv).toNat)
  case atStart => exact ⟨0, [], .inl rfl, by go_num, rfl, by rw [List.take_zero]; exact LG.nil _ _ _ _, Below.refl _ _⟩
  case round =>
    obtain ⟨k, es, hk, rfl, H⟩ := hrel
    generalize hK1 : k + 1 = k1 at *
    have HK : Hid (k + 1 = k1) := hK1
    have hk1 : 1 ≤ k1 := by omega
    have hk2 : k1 ≤ 100001 := by omega
    have hk3 : k ≤ 100000 := by omega
    clear hK1
    rcases Nat.lt_or_ge k1 n with hlt | hge
    · obtain ⟨hel, hLR, hB⟩ := H.out
      have hPR := HX.out.1.below hB
      obtain ⟨b, o, hp, hc⟩ := hPR.pl (by omega)
      subst hp
      obtain ⟨x0, x1⟩ := hc k1 (by omega)
      have hx := hPR.ev k1 hlt
      have i1 : (k1 : Int) < (n : Int) := by omega
      have v1 : IntKind.i64.wrap (k1 : Int) = (k1 : Int) := by rw [IntKind.wrap_i64]; omega
      have HC : Hid (W.cell? ⟨b, o + k1 * 2, none⟩ = some (.bool (ge es0 k1).s) ∧ W.cell? ⟨b, o + k1 * 2 + 1, none⟩ = some (.slice (ge es0 k1).p (ge es0 k1).n (ge es0 k1).c)) := by
        obtain ⟨b', o', hb', hc'⟩ := HX.out.1.pl (by omega)
        cases hb'
        exact hc' k1 (by omega)
      have hof := Of_e (k1 : Int) wr.drew (by omega) (by omega)
      obtain ⟨hi, hz0, hz1, hz2⟩ := HI.out
      clear hel hLR hB hc hPR
      go_upto_region 6 with fail
      go_region_held3 (fun w' => w'.cell? ⟨b, o + k1 * 2, none⟩ = some (.bool (ge es0 k1).s) ∧ w'.cell? ⟨b, o + k1 * 2 + 1, none⟩ = some (.slice (ge es0 k1).p (ge es0 k1).n (ge es0 k1).c) ∧ w'.cell? ⟨b, o + k1 * 2, none⟩ = some (.bool (ge es0 k1).s) ∧ w'.cell? ⟨b, o + k1 * 2 + 1, none⟩ = some (.slice (ge es0 k1).p (ge es0 k1).n (ge es0 k1).c)) (first | with_reducible exact ⟨x0, x1, x0, x1⟩ | with_reducible exact K3 | (refine keep4R ⟨x0, x1, x0, x1⟩ ?_; (repeat (first | (with_reducible exact hB2) | (with_reducible exact hB1) | (with_reducible exact Below.refl _ _) | (refine Bel_al ?_ (Nat.le_refl _)) | (refine Below.drew ?_))); done))
        (first
          | (go_at_call 48; go_fit hof; rintro r w1 ⟨u1, rfl, hO1, hb1⟩; have hB1 := undrew hb1; have hmu := Mul_ev (hO1.ev (by omega)) (hx.below hB1) (by omega); clear hb1)
          | (go_at_call 98; go_fit hmu; rintro r w2 ⟨u, rfl, hN0, hb2⟩; have hN1 := hN0.mono (Nat.le_trans H.out.2.2.size hB1.size); have hF1 : Go.Proofs.YtifebbacnlhggaaGreatDoor.From wr.heap.size u.p := fun a ha => Nat.le_trans hB1.size (hN0.frm a ha); clear hN0; have hB2 := bnext' hB1 hb2; have hown0 := own_below H.out.2.1.own hB2; rw [H.out.1] at hown0; have HO : Hid (w2.ownsRow W.heap.size 24 2 u3 k (fl es)) := hown0; clear hown0; have hsz : W.heap.size ≤ w2.heap.size := Nat.le_trans H.out.2.2.size hB2.size)
          | (refine step_append_lies _ rfl _ _ 26 rfl W.heap.size 24 i0 (.agg #[.bool false, .slice none 0 0]) 2 32 Tryz.underlying26 hi hz0 hz1 hz2 rfl (by decide) u3 k (fl es) rfl (HO.out.alloc _) ⟨w2.heap.size, 0, none⟩ 1 1 [.bool u.s, .slice u.p u.n u.c] rfl rfl ?_ (fun x hx => by simp at hx; rcases hx with rfl | rfl <;> rfl) (by decide) (by unfold maxLen; omega) (by omega) (by simp; omega) _ rfl ?_; exact World.news_of_block (heap_alloc_new w2 _); intro g cap w3 hown3 hgrow3 hat3 hlt3; have hB3 : Below W.heap.size W w3 := ((bnext' H.out.2.2 hB2).alloc (by omega) _).grown hgrow3 (by simp; omega) (fun q hq => by have := (HO.out.lt q hq).1; omega); have K3 := And.intro (cell_later hB3 HC.out.1) (And.intro (cell_later hB3 HC.out.2) (And.intro (cell_later hB3 HC.out.1) (cell_later hB3 HC.out.2))); have HA : Hid (LG W.heap.size 24 (fun wx z e => NV W.heap.size wx (2 + K) z e) w3 (.slice (some ⟨g, 0, none⟩) (k + 1) cap) (es ++ [u]) (vs.take k ++ [(k1 : Int) * gx zs k1])) := LG.app (lasts_NV _ _) H.out.1 H.out.2.1 hB2 hN1 (fun h0 a ha => .inr (hF1 a ha)) hown3 hgrow3 hat3; clear hown3 hgrow3 hat3))
      all_goals
        clear hmu hof hx hN1 x0 x1
        go_wp2
        refine ⟨⟨k + 1, es ++ [u], .inr (by have := HK.out; omega), by have := HK.out; subst this; go_num, by have := H.out.1; simp; omega, ?_, hB3⟩, by simp [intOf]; omega⟩
        have hkk := HK.out
        rw [take_snocg vs k (by have := HVS.out.2; omega), HVS.out.1 k (by omega)]
        have e1 : ((k : Int) + 1) * gx zs (k + 1) = (k1 : Int) * gx zs k1 := by subst hkk; push_cast; rfl
        rw [e1]
        exact HA.out
    · obtain ⟨hel, hLR, hB⟩ := H.out
      have hvl := HVS.out.2
      have hkk := HK.out
      rw [List.take_of_length_le (by omega)] at hLR
      obtain ⟨q, cap, hv, hcap1, hcap2, hpl, hF, hq0⟩ := hLR.pl
      subst hv
      have HL : Hid (vs.length = k ∧ (∀ j, j < k → NV W.heap.size wr (2 + K) (gx vs j) (ge es j)) ∧ PL wr q es ∧ es.length = k ∧ Below W.heap.size W wr) := ⟨by rw [hLR.zl]; exact hel, by rw [← hel]; exact hLR.ev, hpl, hel, hB⟩
      rw [hel] at hcap1 ⊢
      clear H hLR hB hk hkk hpl
      go_wp2_with fail
      refine (clipP_any q k cap _ hcap1 hcap2 hq0).mono ?_
      rintro e w1 ⟨rfl, rfl⟩
      go_wp2
      go_ret
      obtain ⟨l1, l2, l3, l4, l5⟩ := HL.out
      obtain ⟨-, hbW, htv⟩ := HX.out
      exact ⟨q, k, es, rfl, ⟨l4, l1, by omega, l3, fun a ha => Nat.le_trans hbW.size (hF a ha), fun j hj => (l2 j hj).mono hbW.size⟩, bnext' hbW l5⟩
set_option maxRecDepth 100000 in
theorem oDelta_none {w : World} {g : Nat} {a : Int} {e : Ent} (h : RuleAt w g a e) (ha : a ≠ 2) (p : Option Addr) (n nc : Nat) (K : Nat) :
    Calls Tryz.prog 19 #[.pointer (some ⟨g, 0, none⟩), .slice p n nc] w (PnP [] K w) := by
  have hc := oAlg_any h
  have h1 : (a == 2) = false := by rw [beq_eq_false_iff_ne]; exact ha
  have h2 : ¬ a = 2 := ha
  clear h ha
  go_enter Tryz.func19, Tryz.ntmps19
  go_wp2_with fail
  go_fit hc
  rintro r w1 ⟨rfl, hb⟩
  clear hc
  go_wp2
  go_ret
  exact ⟨none, 0, [], rfl, pn_nil _ _ _, hb⟩
set_option maxRecDepth 100000 in
theorem oDelta_diff {w : World} {g : Nat} {e : Ent} (h : RuleAt w g 2 e) {K : Nat} {p : Option Addr} {n nc : Nat} {es : List Ent} {zs : List Int} (hP : PA w K p n nc es zs) (hn : n ≤ 1000) (hK : K ≤ 60) :
    Calls Tryz.prog 19 #[.pointer (some ⟨g, 0, none⟩), .slice p n nc] w (PnP (derz (tr zs)) (2 + K) w) := by
  have hc := oAlg_any h
  clear h
  go_enter Tryz.func19, Tryz.ntmps19
  go_wp2_with fail
  go_fit hc
  rintro r w1 ⟨rfl, hb⟩
  have hd := uDeriv_any (hP.below hb) (by omega) (by omega)
  clear hc
  go_wp2_with fail
  go_fit hd
  rintro r w2 ⟨p1, n1, es1, rfl, h1, hb2⟩
  have HR' : Hid (PnP (derz (tr zs)) (2 + K) w (.returned (.slice p1 n1 n1)) w2) := ⟨p1, n1, es1, rfl, h1.mono hb.size, bnext' hb hb2⟩
  clear hd h1 hb2
  go_wp2
  go_ret
  exact HR'.out
set_option maxRecDepth 100000 in
theorem each_row (K : Nat) (p : Option Addr) (n nc : Nat) (es : List Ent) (zs : List Int) (w : World) (h : PA w K p n nc es zs) (hn : n ≤ 1000000) (J : Nat) (C : Array Value) (hE : ∀ args w', Sem.run Tryz.prog (callFunc J args) w' = .ok (.enter J args) w')
    (O : World → Int → Ent → Prop) (φ : Int → Int) (hOb : ∀ w w' z e, O w z e → Below w.heap.size w w' → O w' z e) (hOs : ∀ w z e g o u v, O w z e → (0 < e.n → Off g e.p) → O ((w.setCell ⟨g, o, none⟩ u).setCell ⟨g, o + 1, none⟩ v) z e)
    (hJ : ∀ w' z e, Below w.heap.size w w' → EV w' K z e → Calls Tryz.prog J (#[.agg #[.bool e.s, .slice e.p e.n e.c]] ++ C) w' fun r w'' => ∃ f : Ent, r = .returned (.agg #[.bool f.s, .slice f.p f.n f.c]) ∧ O w'' (φ z) f ∧ (0 < f.n → f.p = e.p ∧ f.n ≤ e.n ∨ Go.Proofs.YtifebbacnlhggaaGreatDoor.From w'.heap.size f.p) ∧ Below w'.heap.size w' w'') :
    Calls Tryz.prog 101 #[.slice p n nc, .func (.func J) #[] C] w fun r w' => ∃ q fs, r = .returned (.slice q n n) ∧ fs.length = n ∧ PL w' q fs ∧ Go.Proofs.YtifebbacnlhggaaGreatDoor.From w.heap.size q ∧ (∀ j, j < n → O w' (φ (gx zs j)) (ge fs j)) ∧ Below w.heap.size w w' ∧ q = some ⟨w.heap.size, 0, none⟩ ∧ Row2 w' w.heap.size 24 fs ∧ (∀ j, j < n → 0 < (ge fs j).n → Off w.heap.size (ge fs j).p) := by
  have hmk := mk_poly n (by omega)
  have hle := h.el
  have HOb := (show Hid _ from hOb)
  have HOs := (show Hid _ from hOs)
  have HJ := (show Hid _ from hJ)
  clear hOb hOs hJ
  go_enter Tryz.func101, Tryz.ntmps101
  go_wp2_with fail
  have hR0 := Row2.new w 24 (ezs n)
  have hW0 : Below w.heap.size w (w.alloc (.cells (ca2 (ezs n)) 24)) := (Below.refl _ _).alloc (Nat.le_refl _) _
  have hs0 : w.heap.size + 1 ≤ (w.alloc (.cells (ca2 (ezs n)) 24)).heap.size := by simp
  generalize w.alloc (.cells (ca2 (ezs n)) 24) = W0 at *
  clear hmk
  go_loopw [6, 7, 13] (fun iv cv kv wr => ∃ k : Nat, k ≤ n ∧ kv = .int .i64 k ∧ Hid (EaI O φ w.heap.size n k zs W0 wr)) (fun _ _ kv _ => n - (intOf kv).toNat)
  case atStart => exact ⟨0, Nat.zero_le _, by go_num, ezs n, hR0, length_ezs n, fun j hj => by omega, Below.refl _ _⟩
  case round =>
    obtain ⟨k, hk, rfl, H⟩ := hrel
    rcases Nat.lt_or_ge k n with hlt | hge
    · obtain ⟨es', hR, hel, hev, hB⟩ := H.out
      have hBw : Below w.heap.size w wr := hW0.trans hB
      have hPA := h.below hBw
      obtain ⟨b, o, hp, hc⟩ := hPA.pl (by omega)
      subst hp
      obtain ⟨c0, c1⟩ := hc k (by omega)
      have hv := hPA.ev k hlt
      have HH : Hid (EaI O φ w.heap.size n k zs W0 wr) := H.out
      clear H hR hel hev hB hc hPA
      go_wp2_with fail
      have hal := bel_al (o := .cells #[.bool (ge es k).s, .slice (ge es k).p (ge es k).n (ge es k).c] 24) (Below.refl wr.heap.size wr)
      refine (HJ.out _ (gx zs k) (ge es k) (bnext hBw (Nat.le_refl _) hal) (hv.below hal)).mono ?_
      rintro e w1 ⟨f, rfl, hO, hF, hb1⟩
      have hb2 := bnext' hal hb1
      obtain ⟨es', hR, hel, hev, hB⟩ := HH.out
      have hR1 := hR.below hb2 hR.lt
      obtain ⟨d0, d1⟩ := hR1.cell k (by omega)
      have f0 := hR1.frozen (k * 2)
      have f1 := hR1.frozen (k * 2 + 1)
      have hoff : Hid (0 < f.n → Off w.heap.size f.p) := fun h0 => by
        rcases hF h0 with ⟨e1, e2⟩ | e1
        · rw [e1]
          obtain ⟨xs, k1, -⟩ := h.ev k hlt
          exact k1.rd.off (Nat.le_refl _) (by rw [k1.len]; omega)
        · have hs1 := hB.size
          have hs2 := hal.size
          exact off_from e1 (by omega)
      have HI : Hid (O w1 (φ (gx zs k)) f ∧ Row2 w1 w.heap.size 24 es' ∧ es'.length = n ∧ (∀ j, j < k → O w1 (φ (gx zs j)) (ge es' j) ∧ (0 < (ge es' j).n → Off w.heap.size (ge es' j).p)) ∧ Below w.heap.size W0 w1) := ⟨hO, hR1, hel, fun j hj => ⟨HOb.out _ _ _ _ (hev j hj).1 hb2, (hev j hj).2⟩, hB.trans (hb2.mono (by have := hBw.size; omega))⟩
      clear hO hF hb1 hb2 hR hel hev hB hR1 hal hv c0 c1 HH
      go_wp2
      go_roundw
      case rel =>
        obtain ⟨hO, hR, hel, hev, hB⟩ := HI.out
        refine ⟨k + 1, by omega, by go_num, es'.set k f, hR.set k f (by omega), by simpa using hel, fun j hj => ?_, ?_⟩
        · rcases Nat.lt_or_ge j k with h' | h'
          · rw [ge_set_other _ _ _ _ (by omega)]
            exact ⟨HOs.out _ _ _ _ _ _ _ (hev j h').1 (hev j h').2, (hev j h').2⟩
          · obtain rfl : j = k := by omega
            rw [ge_set_same _ _ _ (by omega)]
            exact ⟨HOs.out _ _ _ _ _ _ _ hO hoff.out, hoff.out⟩
        · exact (hB.setCell (p := ⟨w.heap.size, k * 2, none⟩) (Nat.le_refl _) _).setCell (p := ⟨w.heap.size, k * 2 + 1, none⟩) (Nat.le_refl _) _
      case measure => simp [intOf]; omega
    · obtain rfl : k = n := by omega
      obtain ⟨es', hR, hel, hev, hB⟩ := H.out
      have HI : Hid (Row2 wr w.heap.size 24 es' ∧ es'.length = k ∧ (∀ j, j < k → O wr (φ (gx zs j)) (ge es' j) ∧ (0 < (ge es' j).n → Off w.heap.size (ge es' j).p)) ∧ Below w.heap.size w wr) := ⟨hR, hel, hev, hW0.trans hB⟩
      clear H hR hel hev hB hge hk
      go_wp2
      go_ret
      obtain ⟨hR, hel, hev, hB⟩ := HI.out
      exact ⟨_, es', rfl, hel, hR.pl, fun a ha => by cases ha; exact Nat.le_refl _, fun j hj => (hev j hj).1, hB, rfl, hR, fun j hj => (hev j hj).2⟩
set_option maxRecDepth 100000 in
theorem uNorm_row (K : Nat) (p : Option Addr) (n nc : Nat) (es : List Ent) (zs : List Int) (w : World) (h : PA w K p n nc es zs) (hn : n ≤ 1000000) (hK : K ≤ 1000) :
    Calls Tryz.prog 49 #[.slice p n nc] w fun r w' => ∃ (g : Nat) (fs : List Ent), r = .returned (.slice (some ⟨g, 0, none⟩) (tlen zs) (tlen zs)) ∧ w.heap.size ≤ g ∧ Row2 w' g 24 fs ∧ fs.length = tlen zs ∧ (∀ j, j < tlen zs → NV w.heap.size w' K (gx (tr zs) j) (ge fs j) ∧ (0 < (ge fs j).n → Off g (ge fs j).p)) ∧ Below w.heap.size w w' := by
  have htl := tlen_le zs
  have hzl := h.zl
  go_enter Tryz.func49, Tryz.ntmps49
  go_wp2_with fail
  refine (utrim_any K p n nc es zs _ h hn).mono ?_
  rintro e w1 ⟨rfl, hb1⟩
  have h1 := (h.below hb1).trim
  have he := each_row K _ _ _ _ _ w1 h1 (by omega) 103 #[] callOwn (fun w z e => NV w1.heap.size w K z e) id (fun _ _ _ _ h hb => h.below hb) (fun _ _ _ _ _ _ _ h ho => h.set2o ho) (fun w' z e hb hv => (own_any hv hK).mono fun r w'' ⟨f, a, b, c⟩ => ⟨f, a, b.mono hb.size, fun _ => .inr (by obtain ⟨xs, k, -⟩ := b; exact k.fr), c⟩)
  go_wp2_with fail
  refine he.mono ?_
  rintro e w2 ⟨q, fs, rfl, k1, k2, k3, k4, hb2, rfl, k5, k6⟩
  clear he
  go_wp2
  go_ret
  have hs := hb1.size
  exact ⟨w1.heap.size, fs, rfl, hs, k5, k1, fun j hj => ⟨(k4 j hj).mono hs, k6 j hj⟩, bnext' hb1 hb2⟩
theorem EV.offm {w : World} {K : Nat} {z : Int} {e : Ent} (h : EV w K z e) {g : Nat} (hg : w.heap.size ≤ g) : 0 < e.n → Off g e.p := fun h0 a ha k => by
  obtain ⟨xs, h1, h2, h3⟩ := h
  obtain ⟨b, o, hp, hlt⟩ := h1.rd.lt (by rw [h1.len]; exact h0)
  rw [hp] at ha
  cases ha
  dsimp only at k
  omega
theorem shr_step (a : Int) (zs : List Int) (i t : Nat) (hi : i ≤ zs.length) (ht : i ≤ t) : gx (shr a (i + 1) zs) t = gx (shr a i zs) t + a * gx (shr a (i + 1) zs) (t + 1) := by
  obtain ⟨s, rfl⟩ := Nat.exists_eq_add_of_le ht
  have hl : ((shr a i zs).take i).length = i := by rw [List.length_take, length_shr]; omega
  have e : ∀ u, gx (shr a (i + 1) zs) (i + u) = gx (hor a ((shr a i zs).drop i)) u := fun u => by
    have h := gx_app_hi ((shr a i zs).take i) (hor a ((shr a i zs).drop i)) u
    rw [hl] at h
    exact h
  rw [Nat.add_assoc, e, e, gx_hor, gx_drop]
theorem shr_low (a : Int) (zs : List Int) (i t : Nat) (hi : i ≤ zs.length) (ht : t < i) : gx (shr a (i + 1) zs) t = gx (shr a i zs) t := by
  rw [shr, gx_app_lo _ _ _ (by rw [List.length_take, length_shr]; omega), gx_take _ _ _ ht]
theorem hor_lt {a : Int} {A L : Nat} (ha : (a.natAbs : Int) < pw L) : ∀ (ds : List Int), (∀ t, ((gx ds t).natAbs : Int) < pw A) → ∀ s, ((gx (hor a ds) s).natAbs : Int) < pw (A + ds.length * (L + 1))
  | [], _, s => by simpa [hor, gx] using pw_pos _
  | c :: cs, h, s => by
    have ih := hor_lt ha cs (fun j => by have := h (j + 1); rwa [gx_cons_succ] at this)
    have e : A + (c :: cs).length * (L + 1) = A + cs.length * (L + 1) + L + 1 := by
      simp only [List.length_cons]
      rw [Nat.succ_mul]
      omega
    have hB : pw A ≤ pw (A + cs.length * (L + 1)) := pw_mono (by omega)
    rw [e, hor]
    generalize A + cs.length * (L + 1) = B at *
    cases s with
    | zero =>
      rw [gx_cons_zero]
      have h1 : ((a * gx (hor a cs) 0).natAbs : Int) ≤ pw (B + L) := by
        rw [Int.natAbs_mul, pw_add, Int.mul_comm (pw B)]
        push_cast
        exact Int.mul_le_mul (Int.le_of_lt ha) (Int.le_of_lt (ih 0)) (by omega) (Int.le_of_lt (pw_pos _))
      have h2 := h 0
      rw [gx_cons_zero] at h2
      have h3 : pw B ≤ pw (B + L) := pw_mono (by omega)
      have h4 := pw_pos (B + L)
      rw [pw_succ]
      omega
    | succ s =>
      rw [gx_cons_succ]
      exact Int.lt_of_lt_of_le (ih s) (pw_mono (by omega))
theorem shr_lt {a : Int} {K L : Nat} (ha : (a.natAbs : Int) < pw L) (zs : List Int) (h : ∀ t, ((gx zs t).natAbs : Int) < pw K) : ∀ i t, i ≤ zs.length → ((gx (shr a i zs) t).natAbs : Int) < pw (K + i * (zs.length * (L + 1)))
  | 0, t, _ => by rw [Nat.zero_mul]; exact h t
  | i + 1, t, hi => by
    have ih := fun t => shr_lt ha zs h i t (by omega)
    have e : K + (i + 1) * (zs.length * (L + 1)) = K + i * (zs.length * (L + 1)) + zs.length * (L + 1) := by rw [Nat.succ_mul]; omega
    rw [e]
    rcases Nat.lt_or_ge t i with h1 | h1
    · rw [shr_low a zs i t (by omega) h1]
      exact Int.lt_of_lt_of_le (ih t) (pw_mono (by omega))
    · obtain ⟨s, rfl⟩ := Nat.exists_eq_add_of_le h1
      have hl : ((shr a i zs).take i).length = i := by rw [List.length_take, length_shr]; omega
      have h2 := gx_app_hi ((shr a i zs).take i) (hor a ((shr a i zs).drop i)) s
      rw [hl] at h2
      show ((gx ((shr a i zs).take i ++ hor a ((shr a i zs).drop i)) (i + s)).natAbs : Int) < _
      rw [h2]
      have h3 := hor_lt ha ((shr a i zs).drop i) (fun t => by rw [gx_drop]; exact ih _) s
      refine Int.lt_of_lt_of_le h3 (pw_mono ?_)
      have h4 : ((shr a i zs).drop i).length ≤ zs.length := by rw [List.length_drop, length_shr]; omega
      have := Nat.mul_le_mul_right (L + 1) h4
      omega
def sif (a : Int) (zs : List Int) (i k t : Nat) : Int := if k ≤ t then gx (shr a (i + 1) zs) t else gx (shr a i zs) t
theorem sif_other (a : Int) (zs : List Int) (i j s : Nat) (h : s ≠ j) : sif a zs i j s = sif a zs i (j + 1) s := by
  rw [sif, sif]
  by_cases h9 : j ≤ s
  · rw [if_pos h9, if_pos (by omega)]
  · rw [if_neg h9, if_neg (by omega)]
structure SR (B : Nat) (wr : World) (g M n : Nat) (us : List Ent) (F : Nat → Int) : Prop where
  row : Row2 wr g 24 us
  len : us.length = n
  ev : ∀ t, t < n → NV B wr M (F t) (ge us t) ∧ (0 < (ge us t).n → Off g (ge us t).p)
theorem SR.below {B : Nat} {wr w' : World} {g M n : Nat} {us : List Ent} {F : Nat → Int} (h : SR B wr g M n us F) (hb : Below wr.heap.size wr w') : SR B w' g M n us F :=
  ⟨h.row.below hb h.row.lt, h.len, fun t ht => ⟨(h.ev t ht).1.below hb, (h.ev t ht).2⟩⟩
theorem SR.set {B : Nat} {wr : World} {g M n : Nat} {us : List Ent} {F G : Nat → Int} (h : SR B wr g M n us F) (t : Nat) (e : Ent) (ht : t < n) (hv : NV B wr M (G t) e) (ho : 0 < e.n → Off g e.p) (hG : ∀ s, s < n → s ≠ t → G s = F s) :
    SR B ((wr.setCell ⟨g, t * 2, none⟩ (.bool e.s)).setCell ⟨g, t * 2 + 1, none⟩ (.slice e.p e.n e.c)) g M n (us.set t e) G := by
  have hl := h.len
  refine ⟨h.row.set t e (by omega), by simpa using hl, fun s hs => ?_⟩
  by_cases he : s = t
  · subst he
    rw [ge_set_same _ _ _ (by omega)]
    exact ⟨hv.set2o ho, ho⟩
  · rw [ge_set_other _ _ _ _ he, hG s hs he]
    exact ⟨(h.ev s hs).1.set2o (h.ev s hs).2, (h.ev s hs).2⟩
theorem SR.same {B : Nat} {wr : World} {g M n : Nat} {us : List Ent} {F G : Nat → Int} (h : SR B wr g M n us F) (hG : ∀ s, s < n → G s = F s) : SR B wr g M n us G :=
  ⟨h.row, h.len, fun t ht => by rw [hG t ht]; exact h.ev t ht⟩
theorem shr_zero (zs : List Int) : shr 0 zs.length zs = zs := by
  refine gx_ext _ _ (length_shr _ _ _) fun j hj => ?_
  rw [gx_shr_all, co_zero]
theorem shr_top (a : Int) (zs : List Int) (h : tlen zs = zs.length) : tlen (shr a zs.length zs) = zs.length := by
  refine tlen_eq _ _ (fun j hj => gx_past _ zs.length (by rw [length_shr]; exact Nat.le_refl _) j hj) ?_
  cases zs with
  | nil => exact .inl rfl
  | cons c cs =>
    refine .inr ?_
    rw [gx_shr_all, List.length_cons, Nat.add_sub_cancel, co_top]
    have h1 := tlen_top (c :: cs) (by rw [h]; simp)
    rw [h, List.length_cons, Nat.add_sub_cancel] at h1
    exact h1
structure SH (w wr : World) (g M n : Nat) (us : List Ent) (F : Nat → Int) (L : Nat) (x : Int) (f : Ent) : Prop where
  sr : SR (w.heap.size + 1) wr g M n us F
  bx : Bx wr w.heap.size (.bool f.s) (.slice f.p f.n f.c)
  ev : EV wr L x f
  of : 0 < f.n → Off g f.p
  gt : w.heap.size < g
  bw : Below w.heap.size w wr
set_option maxRecDepth 100000 in
theorem uShift_any {w : World} {K L : Nat} {p : Option Addr} {n nc : Nat} {es : List Ent} {zs : List Int} {x : Int} {e : Ent} (h : PA w K p n nc es zs) (hx : EV w L x e) (hn : n ≤ 1000) (hL : L < 80) (hM : K + tlen zs * (tlen zs * (L + 1)) ≤ 800) :
    Calls Tryz.prog 47 #[.slice p n nc, .agg #[.bool e.s, .slice e.p e.n e.c]] w (PnP (shr x (tlen zs) (tr zs)) (K + tlen zs * (tlen zs * (L + 1))) w) := by
  have HX : Hid (PA w K p n nc es zs ∧ EV w L x e) := ⟨h, hx⟩
  have htl : tlen zs ≤ n := by have := tlen_le zs; have := h.zl; omega
  have hK : K ≤ 800 := by omega
  have HB : Hid (∀ i t, i ≤ tlen zs → ((gx (shr x i (tr zs)) t).natAbs : Int) < pw (K + tlen zs * (tlen zs * (L + 1)))) := by
    show ∀ i t, i ≤ tlen zs → ((gx (shr x i (tr zs)) t).natAbs : Int) < pw (K + tlen zs * (tlen zs * (L + 1)))
    intro i t hi
    have h1 := shr_lt (K := K) hx.bd (tr zs) (fun t => by rw [gx_tr]; exact h.gbd t) i t (by rw [length_tr]; exact hi)
    rw [length_tr] at h1
    refine Int.lt_of_lt_of_le h1 (pw_mono ?_)
    have := Nat.mul_le_mul_right (tlen zs * (L + 1)) hi
    omega
  have HM : Hid (K ≤ K + tlen zs * (tlen zs * (L + 1)) ∧ K + tlen zs * (tlen zs * (L + 1)) ≤ 800) := ⟨by omega, hM⟩
  clear h hx hM
  generalize K + tlen zs * (tlen zs * (L + 1)) = M at *
  generalize hN : tlen zs = N at *
  have HN : Hid (tlen zs = N) := hN
  clear hN
  go_enter Tryz.func47, Tryz.ntmps47
  go_wp2_with fail
  have hal := bel_al (o := .cells #[.bool e.s, .slice e.p e.n e.c] 24) (Below.refl w.heap.size w)
  have hX0 : Bx (w.alloc (.cells #[.bool e.s, .slice e.p e.n e.c] 24)) w.heap.size (.bool e.s) (.slice e.p e.n e.c) := Bx.new _ _ _ rfl
  generalize w.alloc (.cells #[.bool e.s, .slice e.p e.n e.c] 24) = W at *
  obtain ⟨k0, k1, -, -⟩ := id hX0
  have hpa := HX.out.1.below hal
  have hxe := HX.out.2.below hal
  have hlt : w.heap.size < W.heap.size := block_lt_of_cell k0
  go_cut [5] (fun ov wc => ∃ (g : Nat) (us : List Ent) (f : Ent), ov = .slice (some ⟨g, 0, none⟩) N N ∧ Hid (SH w wc g M N us (gx (shr x 0 (tr zs))) L x f))
  case first =>
    go_region_with (first
      | (go_at_call 49; go_fit (uNorm_row K p n nc es zs _ (hpa.below (Below.refl _ _).drew) (by omega) (by omega)); rintro r v1 ⟨g, us, rfl, hg, hR, hl, hE, hb1⟩; rw [HN.out] at hl hE; have hB1 := undrew hb1; have y0 := cell_later hB1 k0; have y1 := cell_later hB1 k1; have hg' : W.heap.size ≤ g := hg; rw [HN.out])
      | (go_at_call 96; go_fit (bare_any (hxe.below hB1) (by omega)); rintro r v2 ⟨f, rfl, hfp, hfn, hf, hb2⟩; have HFP : Hid (f.p = e.p) := hfp; clear hfp; obtain ⟨z0, z1, f0, f1⟩ := (hX0.later hB1).later hb2))
    all_goals
      have HS : Hid (SH w ((v2.setCell ⟨w.heap.size, 0, none⟩ (.bool f.s)).setCell ⟨w.heap.size, 1, none⟩ (.slice f.p f.n f.c)) g M N us (gx (shr x 0 (tr zs))) L x f) := by
        have hB2 := bnext' hB1 hb2
        have hfo : ∀ y, w.heap.size ≤ y → 0 < f.n → Off y f.p := fun y hy h0 => by rw [HFP.out]; exact HX.out.2.offm hy (by omega)
        refine ⟨⟨(hR.below hb2 hR.lt).set_other _ _ (by show g ≠ w.heap.size; omega) |>.set_other _ _ (by show g ≠ w.heap.size; omega), hl, fun t ht => ⟨?_, (hE t ht).2⟩⟩, Bx_set ((hX0.later hB1).later hb2), (hf.ev).set2 (o := 0) (hfo _ (Nat.le_refl _)), hfo _ (by omega), by omega, bset2 (bnext' hal hB2) (Nat.le_refl _) _ _⟩
        obtain ⟨xs, c1, c2, c3⟩ := ((hE t ht).1.below hb2).mono (show w.heap.size + 1 ≤ W.heap.size by omega)
        exact (show NV _ _ M _ _ from ⟨xs, c1, c2, by have := HM.out.1; omega⟩).set2 (o := 0) (Nat.lt_succ_self _) _ _
      clear hR hE hf
      go_wp2_with fail
      go_meet
      exact ⟨g, us, f, rfl, HS.out⟩
  case rest =>
    obtain ⟨g, us, f, rfl, HS⟩ := hcut
    clear hX0 hal k0 k1 hpa hxe hlt
    obtain ⟨k0, k1, -, -⟩ := id HS.out.bx
    have hz0 := isZero_any HS.out.ev
    go_wp2_with fail
    refine hz0.mono ?_
    rintro r w2 ⟨rfl, hb2⟩
    have H2 : Hid (SH w w2 g M N us (gx (shr x 0 (tr zs))) L x f) := ⟨HS.out.sr.below hb2, HS.out.bx.later hb2, HS.out.ev.below hb2, HS.out.of, HS.out.gt, bnext' HS.out.bw hb2⟩
    clear hz0 k0 k1 hb2 HS
    have hcs : Hid (x = 0 ∨ ¬ x = 0) := Classical.em _
    rcases hcs.out with hz | hz
    · rw [decide_eq_true hz]
      have HZ : Hid (x = 0) := hz
      clear hz hcs
      go_wp2
      go_ret
      have hN := HN.out
      refine ⟨_, N, us, rfl, ⟨H2.out.sr.len, ?_, ?_, H2.out.sr.row.pl, fun a ha => ?_, fun t ht => ?_⟩, H2.out.bw⟩
      · rw [length_shr, length_tr, hN]
      · have h1 := shr_top x (tr zs) (by rw [tlen_tr, length_tr])
        rw [length_tr, hN] at h1
        exact h1
      · cases ha
        exact Nat.le_of_lt H2.out.gt
      · have h1 := shr_zero (tr zs)
        rw [length_tr, hN] at h1
        rw [HZ.out, h1]
        exact ((H2.out.sr.ev t ht).1).mono (by omega)
    · rw [decide_eq_false hz]
      clear hz hcs
      go_wp2_with fail
      go_loopw [6, 7, 17] (fun _ _ kv wr => ∃ (i : Nat) (us : List Ent), i ≤ N ∧ kv = .int .i64 i ∧ Hid (SH w wr g M N us (gx (shr x i (tr zs))) L x f)) (fun _ _ kv _ => N - (intOf kv).toNat)
      case atStart => exact ⟨0, us, Nat.zero_le _, by go_num, H2.out⟩
      case round =>
        clear H2 us
        obtain ⟨i, us, hi, rfl, HI⟩ := hrel
        rcases Nat.lt_or_ge i N with hlt | hge
        · have i1 : (i : Int) < (N : Int) := by omega
          have v1 : IntKind.i64.wrap ((N : Int) - 2) = (N : Int) - 2 := by rw [IntKind.wrap_i64]; omega
          have HI0 : Hid (SH w wr g M N us (sif x (tr zs) i (N - 1)) L x f) := by
            obtain ⟨h1, h2, h3, h4, h5, h6⟩ := HI.out
            refine ⟨h1.same fun s hs => ?_, h2, h3, h4, h5, h6⟩
            rw [sif]
            split
            · obtain rfl : s = N - 1 := by omega
              rw [shr_step x (tr zs) i (N - 1) (by rw [length_tr, HN.out]; omega) (by omega), gx_past _ N (by rw [length_shr, length_tr, HN.out]; exact Nat.le_refl _) (N - 1 + 1) (by omega), Int.mul_zero, Int.add_zero]
            · rfl
          clear HI
          go_wp2_with fail
          go_loopw [7] (fun jv wi => ∃ (k : Nat) (us : List Ent), i ≤ k ∧ k ≤ N - 1 ∧ jv = .int .i64 ((k : Int) - 1) ∧ Hid (SH w wi g M N us (sif x (tr zs) i k) L x f)) (fun jv _ => (intOf jv + 1).toNat)
          case atStart => exact ⟨N - 1, us, by omega, Nat.le_refl _, by simp; omega, HI0.out⟩
          case round =>
            clear HI0 us
            obtain ⟨k, us, hk1, hk2, rfl, HJ⟩ := hrel
            rcases Nat.lt_or_ge i k with hik | hik
            · obtain ⟨j, rfl⟩ : ∃ j, k = j + 1 := ⟨k - 1, by omega⟩
              have i0 : ((j + 1 : Nat) : Int) - 1 = (j : Int) := by omega
              rw [i0]
              have i2 : (i : Int) ≤ (j : Int) := by omega
              have i3 : (j : Int) < (N : Int) := by omega
              have i4 : (j : Int) + 1 < (N : Int) := by omega
              have i5 : IntKind.i64.wrap ((j : Int) + 1) = ((j + 1 : Nat) : Int) := by rw [IntKind.wrap_i64]; omega
              have i6 : (((j + 1 : Nat) : Int)) < (N : Int) := by omega
              obtain ⟨hSR, hbx, hev, hof, hgt, hbw⟩ := HJ.out
              obtain ⟨x0, x1⟩ := hSR.row.cell j (by rw [hSR.len]; omega)
              obtain ⟨y0, y1⟩ := hSR.row.cell (j + 1) (by rw [hSR.len]; omega)
              obtain ⟨a0, a1, -, -⟩ := id hbx
              have hu := (hSR.ev (j + 1) (by omega)).1.ev (by have := HM.out.2; omega)
              have HE : Hid (SH w wr g M N us (sif x (tr zs) i (j + 1)) L x f) := HJ.out
              have hS0 := hSR.row.frozen (j * 2)
              clear hSR hbx HJ hS0
              go_upto_region 10 with fail
              go_region_with (first
                | (go_at_call 98; go_fit (Mul_ev (hev.below (Below.refl _ _).drew) (hu.below (Below.refl _ _).drew) hL); rintro r v2 ⟨e1, rfl, hN1, hb2⟩; have hV2 := undrew hb2; have hS2 := HE.out.sr.below hV2; obtain ⟨z0, z1⟩ := hS2.row.cell j (by rw [hS2.len]; omega))
                | (go_at_call 95; go_fit (Add_ev ((hS2.ev j (by omega)).1.ev (by have := HM.out.2; omega)) (hN1.ev (by have := HM.out.2; omega))); rintro r v3 ⟨e2, rfl, hN2, hb3⟩; have hS3 := hS2.below hb3; obtain ⟨t0, t1⟩ := hS3.row.cell j (by rw [hS3.len]; omega); have f0 := hS3.row.frozen (j * 2); have f1 := hS3.row.frozen (j * 2 + 1)))
              all_goals
                have hstep : SH w ((v3.setCell ⟨g, j * 2, none⟩ (.bool e2.s)).setCell ⟨g, j * 2 + 1, none⟩ (.slice e2.p e2.n e2.c)) g M N (us.set j e2) (sif x (tr zs) i j) L x f := by
                  have hB3 := bnext' hV2 hb3
                  have hgl := HE.out.sr.row.lt
                  have hs2 := hV2.size
                  have hsv : sif x (tr zs) i (j + 1) j + x * sif x (tr zs) i (j + 1) (j + 1) = sif x (tr zs) i j j := by
                    rw [sif, sif, sif, if_neg (by omega), if_pos (Nat.le_refl _), if_pos (Nat.le_refl _)]
                    exact (shr_step x (tr zs) i j (by rw [length_tr, HN.out]; omega) (by omega)).symm
                  rw [hsv] at hN2
                  have hN3 := (hN2.fit (M := M) (by rw [sif, if_pos (Nat.le_refl _)]; exact HB.out (i + 1) j (by omega))).mono (show w.heap.size + 1 ≤ v2.heap.size by omega)
                  have hoff : 0 < e2.n → Off g e2.p := fun _ a ha k => by have := hN2.frm a ha; omega
                  exact ⟨hS3.set j e2 (by omega) hN3 hoff (fun s hs hne => sif_other x (tr zs) i j s hne), Bx_any (HE.out.bx.later hB3) (by omega), (hev.below hB3).set2 hof, hof, hgt, Bel_st (Bel_st (bnext' hbw hB3) (by show w.heap.size ≤ g; omega)) (by show w.heap.size ≤ g; omega)⟩
                have HST := (show Hid _ from hstep)
                clear hstep x0 x1 y0 y1 a0 a1 z0 z1 t0 t1 f0 f1 HE hN1 hN2 hS2 hS3 hev hu
                go_wp2
                refine ⟨⟨j, _, by omega, by omega, by go_num, HST.out⟩, by simp [intOf]⟩
            · obtain rfl : k = i := by omega
              clear hik
              have HK : Hid (SH w wr g M N us (gx (shr x (k + 1) (tr zs))) L x f) := by
                obtain ⟨h1, h2, h3, h4, h5, h6⟩ := HJ.out
                refine ⟨h1.same fun s hs => ?_, h2, h3, h4, h5, h6⟩
                rw [sif]
                split
                · rfl
                · exact shr_low x (tr zs) k s (by rw [length_tr, HN.out]; omega) (by omega)
              have i7 : ¬ (k : Int) ≤ (k : Int) - 1 := by omega
              clear HJ
              go_wp2
              refine ⟨⟨k + 1, us, by omega, by go_num, HK.out⟩, by simp [intOf]; omega⟩
        · obtain rfl : i = N := by omega
          clear hge
          go_wp2
          go_ret
          have hN := HN.out
          refine ⟨_, i, us, rfl, ⟨HI.out.sr.len, ?_, ?_, HI.out.sr.row.pl, fun a ha => ?_, fun t ht => ?_⟩, HI.out.bw⟩
          · rw [length_shr, length_tr, hN]
          · have h1 := shr_top x (tr zs) (by rw [tlen_tr, length_tr])
            rw [length_tr, hN] at h1
            exact h1
          · cases ha
            exact Nat.le_of_lt HI.out.gt
          · exact ((HI.out.sr.ev t ht).1).mono (by omega)
end Go.Proofs.YtifebbacnlhggaaGreatDoor
