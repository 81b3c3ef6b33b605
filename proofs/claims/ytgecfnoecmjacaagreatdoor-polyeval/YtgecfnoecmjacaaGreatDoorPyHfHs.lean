/-
  upoly.Sub, Lead.
-/
import Derived.Test.YtgecfnoecmjacaaGreatDoorRkUgUi
import Derived.Test.YtgecfnoecmjacaaGreatDoorWgUe
import Derived.Test.YtgecfnoecmjacaaGreatDoorUy
import Derived.Test.YtgecfnoecmjacaaGreatDoorRpVnVp
import Derived.Test.YtgecfnoecmjacaaGreatDoorZdZsHr
import Derived.Test.YtgecfnoecmjacaaGreatDoorHgHhZa
import Derived.Deep.DeepFit
namespace Go.Proofs.YtgecfnoecmjacaaGreatDoor
open Go.RowKit
set_option linter.unusedVariables false
set_option linter.unusedSimpArgs false

theorem callSub' (args : Array Value) (w' : World) : Sem.run Tryz.prog (callFunc 61 args) w' = .ok (.enter 61 args) w' := by
  have h1 : ¬ Tryz.f61.name = "runtime.NumGoroutine" := of_decide_eq_false (by kernel_rfl)
  have h2 : ¬ Tryz.f61.body = none := fun h => by cases h
  simp only [callFunc, Tryz.func61, go_sem]
  simp [h1, h2, go_sem]
set_option maxHeartbeats 2000000 in
/-- upoly.Sub. -/
theorem uSub_any {w : World} {K L : Nat} {p q : Option Addr} {n nc m mc : Nat} {es fs : List Ent} {zs ys : List Int} (h : PA w K p n nc es zs) (k : PA w L q m mc fs ys) (hn : n ≤ 1000000) (hm : m ≤ 1000000) (hM : K + L + 1 ≤ 1000) :
    Calls Tryz.prog 17 #[.slice p n nc, .slice q m mc] w (PnP (tr (pz (· - ·) (tr zs) (tr ys))) (K + L + 1) w) := by
  have hc := fun w' (h : PA w' K p n nc es zs) (k : PA w' L q m mc fs ys) => ucombine_any h k hn hm hM 61 callSub' (· - ·) (fun w' x y e f h k => Sub_ev h k)
  go_enter Tryz.func17, Tryz.ntmps17
  go_wp2_with fail
  refine (hc w h k).mono ?_
  rintro e w1 ⟨p1, n1, e1, rfl, h1, h2⟩
  clear hc
  go_wp2
  go_ret
  exact ⟨p1, n1, e1, rfl, h1, h2⟩
set_option maxHeartbeats 2000000 in
set_option maxRecDepth 100000 in
/-- upoly.Lead. -/
theorem uLead_any {w : World} {K : Nat} {p : Option Addr} {n nc : Nat} {es : List Ent} {zs : List Int} (h : PA w K p n nc es zs) (hn : n ≤ 1000000) (hK : K ≤ 1000) :
    Calls Tryz.prog 27 #[.slice p n nc] w fun r w' => ∃ f : Ent, r = .returned (.agg #[.bool f.s, .slice f.p f.n f.c]) ∧ NV w.heap.size w' K (gx zs (tlen zs - 1)) f ∧ Below w.heap.size w w' := by
  have htl := tlen_le zs
  have hzl := h.zl
  have hel := h.el
  have hal := bel_al (o := .cells #[.bool false, .slice none 0 0] 26) (Below.refl w.heap.size w)
  have hR0 : Bx (w.alloc (.cells #[.bool false, .slice none 0 0] 26)) w.heap.size (.bool false) (.slice none 0 0) := Bx.new _ _ _ rfl
  go_enter Tryz.func27, Tryz.ntmps27
  go_wp2_with fail
  generalize w.alloc (.cells #[.bool false, .slice none 0 0] 26) = w0 at *
  refine (utrim_any K p n nc es zs _ (h.below hal) hn).mono ?_
  rintro e w1 ⟨rfl, hb1⟩
  have hb := bnext' hal hb1
  have hR1 := hR0.later hb1
  obtain ⟨r0, r1, f0, f1⟩ := hR1
  have h1 := h.below hb
  by_cases h0 : tlen zs = 0
  · have HZ : Hid (gx zs (tlen zs - 1) = 0) := tlen_zero zs _ (by omega)
    rw [h0]
    clear h0 htl
    go_wp2
    refine bodyPost_ret (v := .agg #[.bool false, .slice none 0 0]) (by simp [results, Tryz.results27, go_sem, r0, r1]) rfl ⟨ez, rfl, ?_, Bel_st (Bel_st hb (Nat.le_refl _)) (Nat.le_refl _)⟩
    rw [HZ.out]
    exact NV.ez _ _ K
  · obtain ⟨b, o, hp, hc⟩ := h1.pl (by omega)
    obtain ⟨j, hj⟩ : ∃ j, tlen zs = j + 1 := ⟨tlen zs - 1, by omega⟩
    obtain ⟨c0, c1⟩ := hc j (by omega)
    have hv := h1.ev j (by omega)
    have sb : b < w1.heap.size := block_lt_of_cell c0
    have e1 : tlen zs - 1 = j := by omega
    subst hp
    have HE : Hid (tlen zs - 1 = j) := e1
    clear hc h1 h e1
    rw [hj]
    have HJ : Hid (tlen zs = j + 1) := hj
    have hj1 : j + 1 ≤ n := by omega
    clear hj h0 htl
    have g1 : (((j + 1 : Nat) : Int) == 0) = false := by rw [beq_eq_false_iff_ne]; omega
    have v1 : ((j + 1 : Nat) : Int) - 1 = (j : Int) := by omega
    have v2 : IntKind.i64.wrap (j : Int) = (j : Int) := by rw [IntKind.wrap_i64]; omega
    go_wp2_with fail
    refine (own_any hv hK).mono ?_
    rintro e w2 ⟨f, rfl, hf, hb2⟩
    have hb3 := bnext' hb hb2
    have hs := hb.size
    have hlt : w.heap.size < w1.heap.size := block_lt_of_cell r0
    obtain ⟨s0, s1, t0, t1⟩ := (hR0.later hb1).later hb2
    clear hb1 hb2 hv c0 c1 r0 r1 f0 f1 hR0 hal
    go_wp2
    refine bodyPost_ret (v := .agg #[.bool f.s, .slice f.p f.n f.c]) (by simp [results, Tryz.results27, go_sem, s0, s1]) rfl ⟨f, rfl, ?_, Bel_st (Bel_st hb3 (Nat.le_refl _)) (Nat.le_refl _)⟩
    rw [HE.out]
    exact (NV_st3 hf.frm hlt (NV_st3 hf.frm hlt hf)).mono hs
end Go.Proofs.YtgecfnoecmjacaaGreatDoor
/-
  upoly.Deriv.
-/
namespace Go.Proofs.YtgecfnoecmjacaaGreatDoor
open Go.RowKit
set_option linter.unusedVariables false
set_option linter.unusedSimpArgs false

theorem lasts_NV (B K : Nat) : Lasts (fun w z e => NV B w K z e) := ⟨fun h hg hne => by
    obtain ⟨xs, h1, h2⟩ := h
    exact ⟨xs, ⟨h1.len, rd_grown h1.rd hg (by rw [h1.len]; exact hne), h1.u, h1.nrm, h1.sg, h1.pn, h1.v, h1.fr⟩, h2⟩, fun h hn => by
    obtain ⟨xs, h1, h2⟩ := h
    exact rd_lt h1.rd (by rw [h1.len]; exact hn)⟩
set_option maxHeartbeats 2000000 in
theorem clipP_any (q : Option Addr) (m mc : Nat) (w : World) (h : m ≤ mc) (hc : mc ≤ maxLen) (hq : q = none → mc = 0) :
    Calls Tryz.prog 71 #[.slice q m mc] w fun e w' => e = .returned (.slice q m m) ∧ w = w' := by
  unfold maxLen at hc
  go_enter Tryz.func71, Tryz.ntmps71
  go_wp2
  go_ret
  exact ⟨rfl, rfl⟩
theorem Of_e (a : Int) (w : World) (h0 : -9223372036854775808 ≤ a) (h1 : a ≤ 9223372036854775807) : Calls Tryz.prog 70 #[.int .i64 a] w fun r w' => ∃ u : Ent, r = .returned (.agg #[.bool u.s, .slice u.p u.n u.c]) ∧ NV w.heap.size w' 2 a u ∧ Below w.heap.size w w' := by
  refine (Of_any a w h0 h1).mono ?_
  rintro e w' ⟨s', p', n', zs, rfl, g1, g2, g3⟩
  exact ⟨⟨s', p', n', n'⟩, rfl, ⟨zs, g1, rfl, g2⟩, g3⟩
/-- A normal polynomial's derivative is normal. -/
theorem derz_top (zs : List Int) : tlen (derz (tr zs)) = tlen zs - 1 := by
  have hl := length_derz (tr zs)
  rw [length_tr] at hl
  refine tlen_eq _ _ (fun j hj => gx_past _ _ (by rw [hl]; exact Nat.le_refl _) j hj) ?_
  rcases Nat.eq_zero_or_pos (tlen zs - 1) with h | h
  · exact .inl h
  · refine .inr ?_
    rw [gx_derz _ _ (by rw [length_tr]; omega), gx_tr]
    have h1 := tlen_top zs (by omega)
    have e : tlen zs - 1 - 1 + 1 = tlen zs - 1 := by omega
    rw [e]
    exact Int.mul_ne_zero (by omega) h1
set_option maxHeartbeats 4000000 in
set_option maxRecDepth 100000 in
/-- upoly.Deriv. -/
theorem uDeriv_any {w : World} {K : Nat} {p : Option Addr} {n0 nc0 : Nat} {es00 : List Ent} {zs0 : List Int} (h0 : PA w K p n0 nc0 es00 zs0) (hn0 : n0 ≤ 100000) (hK : K ≤ 900) :
    Calls Tryz.prog 23 #[.slice p n0 nc0] w (PnP (derz (tr zs0)) (2 + K) w) := by
  obtain ⟨i0, hi, hzz⟩ := Option.map_eq_some_iff.1 info_api
  simp only [Prod.mk.injEq] at hzz
  obtain ⟨hz0, hz1, hz2⟩ := hzz
  have HI : Hid (Tryz.prog.info? 26 = some i0 ∧ i0.zero = some (.agg #[.bool false, .slice none 0 0]) ∧ i0.size = 2 ∧ i0.bytes = 32) := ⟨hi, hz0, hz1, hz2⟩
  have hn : tlen zs0 ≤ 100000 := by have := tlen_le zs0; have := h0.zl; omega
  go_enter Tryz.func23, Tryz.ntmps23
  go_wp2_with fail
  refine (utrim_any K p n0 nc0 es00 zs0 _ h0 (by omega)).mono ?_
  rintro e W ⟨rfl, hbW⟩
  have h := h0.trim.below hbW
  have HTP : Hid (tlen (derz (tr zs0)) = tlen zs0 - 1) := derz_top zs0
  have hel0 := h.el
  have hzl0 := h.zl
  have hvl := length_derz (tr zs0)
  have hvg := gx_derz (tr zs0)
  rw [length_tr] at hvl hvg
  generalize hvs : derz (tr zs0) = vs at *
  generalize es00.take (tlen zs0) = es0 at *
  generalize tr zs0 = zs at *
  generalize tlen zs0 = n at *
  have HX : Hid (PA W K p n n es0 zs ∧ Below w.heap.size w W ∧ tlen vs = n - 1) := ⟨h, hbW, HTP.out⟩
  have HVS : Hid ((∀ j, j < n - 1 → gx vs j = ((j : Int) + 1) * gx zs (j + 1)) ∧ vs.length = n - 1) := ⟨hvg, hvl⟩
  clear h0 h hi hz0 hz1 hz2 hvs hvg hvl hbW HTP
  go_wp2_with fail
  go_loopw [3, 4] (fun sv iv wr => ∃ (k : Nat) (es : List Ent), (k = 0 ∨ k + 1 ≤ n) ∧ iv = .int .i64 ((k + 1 : Nat) : Int) ∧ Hid (es.length = k ∧ LG W.heap.size 26 (fun wx z e => NV W.heap.size wx (2 + K) z e) wr sv es (vs.take k) ∧ Below W.heap.size W wr)) (fun _ iv _ => n - (intOf iv).toNat)
  case atStart => exact ⟨0, [], .inl rfl, by go_num, rfl, by rw [List.take_zero]; exact LG.nil _ _ _ _, Below.refl _ _⟩
  case round =>
    obtain ⟨k, es, hk, rfl, H⟩ := hrel
    generalize hK1 : k + 1 = k1 at *
    have HK : Hid (k + 1 = k1) := hK1
    have hk1 : 1 ≤ k1 := by omega
    have hk2 : k1 ≤ 100001 := by omega
    have hk3 : k ≤ 100000 := by omega
    clear hK1
    rcases Nat.lt_or_ge k1 n with hlt | hge
    · obtain ⟨hel, hLR, hB⟩ := H.out
      have hPR := HX.out.1.below hB
      obtain ⟨b, o, hp, hc⟩ := hPR.pl (by omega)
      subst hp
      obtain ⟨x0, x1⟩ := hc k1 (by omega)
      have hx := hPR.ev k1 hlt
      have i1 : (k1 : Int) < (n : Int) := by omega
      have v1 : IntKind.i64.wrap (k1 : Int) = (k1 : Int) := by rw [IntKind.wrap_i64]; omega
      have HC : Hid (W.cell? ⟨b, o + k1 * 2, none⟩ = some (.bool (ge es0 k1).s) ∧ W.cell? ⟨b, o + k1 * 2 + 1, none⟩ = some (.slice (ge es0 k1).p (ge es0 k1).n (ge es0 k1).c)) := by
        obtain ⟨b', o', hb', hc'⟩ := HX.out.1.pl (by omega)
        cases hb'
        exact hc' k1 (by omega)
      have hof := Of_e (k1 : Int) wr.drew (by omega) (by omega)
      obtain ⟨hi, hz0, hz1, hz2⟩ := HI.out
      clear hel hLR hB hc hPR
      go_upto_region 6 with fail
      go_region_held3 (fun w' => w'.cell? ⟨b, o + k1 * 2, none⟩ = some (.bool (ge es0 k1).s) ∧ w'.cell? ⟨b, o + k1 * 2 + 1, none⟩ = some (.slice (ge es0 k1).p (ge es0 k1).n (ge es0 k1).c) ∧ w'.cell? ⟨b, o + k1 * 2, none⟩ = some (.bool (ge es0 k1).s) ∧ w'.cell? ⟨b, o + k1 * 2 + 1, none⟩ = some (.slice (ge es0 k1).p (ge es0 k1).n (ge es0 k1).c)) (first | with_reducible exact ⟨x0, x1, x0, x1⟩ | with_reducible exact K3 | (refine keep4R ⟨x0, x1, x0, x1⟩ ?_; (repeat (first | (with_reducible exact hB2) | (with_reducible exact hB1) | (with_reducible exact Below.refl _ _) | (refine Bel_al ?_ (Nat.le_refl _)) | (refine Below.drew ?_))); done))
        (first
          | (go_at_call 70; go_fit hof; rintro r w1 ⟨u1, rfl, hO1, hb1⟩; have hB1 := undrew hb1; have hmu := Mul_ev (hO1.ev (by omega)) (hx.below hB1) (by omega); clear hb1)
          | (go_at_call 69; go_fit hmu; rintro r w2 ⟨u, rfl, hN0, hb2⟩; have hN1 := hN0.mono (Nat.le_trans H.out.2.2.size hB1.size); have hF1 : Go.Proofs.YtgecfnoecmjacaaGreatDoor.From wr.heap.size u.p := fun a ha => Nat.le_trans hB1.size (hN0.frm a ha); clear hN0; have hB2 := bnext' hB1 hb2; have hown0 := own_below H.out.2.1.own hB2; rw [H.out.1] at hown0; have HO : Hid (w2.ownsRow W.heap.size 26 2 u3 k (fl es)) := hown0; clear hown0; have hsz : W.heap.size ≤ w2.heap.size := Nat.le_trans H.out.2.2.size hB2.size)
          | (refine step_append_lies _ rfl _ _ 23 rfl W.heap.size 26 i0 (.agg #[.bool false, .slice none 0 0]) 2 32 Tryz.underlying23 hi hz0 hz1 hz2 rfl (by decide) u3 k (fl es) rfl (HO.out.alloc _) ⟨w2.heap.size, 0, none⟩ 1 1 [.bool u.s, .slice u.p u.n u.c] rfl rfl ?_ (fun x hx => by simp at hx; rcases hx with rfl | rfl <;> rfl) (by decide) (by unfold maxLen; omega) (by omega) (by simp; omega) _ rfl ?_; exact World.news_of_block (heap_alloc_new w2 _); intro g cap w3 hown3 hgrow3 hat3 hlt3; have hB3 : Below W.heap.size W w3 := ((bnext' H.out.2.2 hB2).alloc (by omega) _).grown hgrow3 (by simp; omega) (fun q hq => by have := (HO.out.lt q hq).1; omega); have K3 := And.intro (cell_later hB3 HC.out.1) (And.intro (cell_later hB3 HC.out.2) (And.intro (cell_later hB3 HC.out.1) (cell_later hB3 HC.out.2))); have HA : Hid (LG W.heap.size 26 (fun wx z e => NV W.heap.size wx (2 + K) z e) w3 (.slice (some ⟨g, 0, none⟩) (k + 1) cap) (es ++ [u]) (vs.take k ++ [(k1 : Int) * gx zs k1])) := LG.app (lasts_NV _ _) H.out.1 H.out.2.1 hB2 hN1 (fun h0 a ha => .inr (hF1 a ha)) hown3 hgrow3 hat3; clear hown3 hgrow3 hat3))
      all_goals
        clear hmu hof hx hN1 x0 x1
        go_wp2
        refine ⟨⟨k + 1, es ++ [u], .inr (by have := HK.out; omega), by have := HK.out; subst this; go_num, by have := H.out.1; simp; omega, ?_, hB3⟩, by simp [intOf]; omega⟩
        have hkk := HK.out
        rw [take_snocg vs k (by have := HVS.out.2; omega), HVS.out.1 k (by omega)]
        have e1 : ((k : Int) + 1) * gx zs (k + 1) = (k1 : Int) * gx zs k1 := by subst hkk; push_cast; rfl
        rw [e1]
        exact HA.out
    · obtain ⟨hel, hLR, hB⟩ := H.out
      have hvl := HVS.out.2
      have hkk := HK.out
      rw [List.take_of_length_le (by omega)] at hLR
      obtain ⟨q, cap, hv, hcap1, hcap2, hpl, hF, hq0⟩ := hLR.pl
      subst hv
      have HL : Hid (vs.length = k ∧ (∀ j, j < k → NV W.heap.size wr (2 + K) (gx vs j) (ge es j)) ∧ PL wr q es ∧ es.length = k ∧ Below W.heap.size W wr) := ⟨by rw [hLR.zl]; exact hel, by rw [← hel]; exact hLR.ev, hpl, hel, hB⟩
      rw [hel] at hcap1 ⊢
      clear H hLR hB hk hkk hpl
      go_wp2_with fail
      refine (clipP_any q k cap _ hcap1 hcap2 hq0).mono ?_
      rintro e w1 ⟨rfl, rfl⟩
      go_wp2
      go_ret
      obtain ⟨l1, l2, l3, l4, l5⟩ := HL.out
      obtain ⟨-, hbW, htv⟩ := HX.out
      exact ⟨q, k, es, rfl, ⟨l4, l1, by omega, l3, fun a ha => Nat.le_trans hbW.size (hF a ha), fun j hj => (l2 j hj).mono hbW.size⟩, bnext' hbW l5⟩
end Go.Proofs.YtgecfnoecmjacaaGreatDoor
/-
  upoly.EvalRat.
-/
namespace Go.Proofs.YtgecfnoecmjacaaGreatDoor
open Go.RowKit
set_option linter.unusedVariables false
set_option linter.unusedSimpArgs false

theorem NQ.evs {B : Nat} {w : World} {K : Nat} {s t : Bool} {p q : Option Addr} {n m : Nat} {r : Rat} (h : NQ B w K s p n t q m r) (hK : K ≤ 1000) : EV w K r.num ⟨s, p, n, n⟩ ∧ EV w K (r.den : Int) ⟨t, q, m, m⟩ := by
  obtain ⟨xs, ys, h1, h2, h3⟩ := h
  exact ⟨⟨xs, h1.num.ai (by omega), h1.num.v, h2⟩, ⟨ys, h1.den.ai (by omega), h1.den.v, h3⟩⟩
theorem EV.aq {w : World} {K : Nat} {a b : Int} {u v : Ent} (h : EV w K a u) (k : EV w K b v) : AQ w K u.s u.p u.n u.c v.s v.p v.n v.c (Rat.divInt a b) := by
  obtain ⟨xs, h1, h2, h3⟩ := h
  obtain ⟨ys, k1, k2, k3⟩ := k
  exact ⟨xs, ys, h1, k1, h3, k3, by rw [h2, k2]⟩
theorem NQ.st4 {B C : Nat} {w : World} {K : Nat} {s t : Bool} {p q : Option Addr} {n m : Nat} {r : Rat} {g : Nat} {a b c d : Value} (h : NQ B w K s p n t q m r) (hg : g < B) (hC : C ≤ B) : NQ C ((((w.setCell ⟨g, 0, none⟩ a).setCell ⟨g, 1, none⟩ b).setCell ⟨g, 2, none⟩ c).setCell ⟨g, 3, none⟩ d) K s p n t q m r := by
  obtain ⟨xs, ys, h1, h2, h3⟩ := h
  have a1 : NV B w K r.num ⟨s, p, n, n⟩ := ⟨xs, h1.num, rfl, h2⟩
  have a2 : NV B w K (r.den : Int) ⟨t, q, m, m⟩ := ⟨ys, h1.den, rfl, h3⟩
  obtain ⟨xs', b1, -, b3⟩ := (a1.mono hC).st4 (g := g) (u := a) (v := b) (x := c) (y := d) (fun y hy e => by have := a1.frm y hy; omega)
  obtain ⟨ys', c1, -, c3⟩ := (a2.mono hC).st4 (g := g) (u := a) (v := b) (x := c) (y := d) (fun y hy e => by have := a2.frm y hy; omega)
  exact ⟨xs', ys', ⟨b1, c1⟩, b3, c3⟩
set_option maxHeartbeats 4000000 in
set_option maxRecDepth 100000 in
/-- upoly.EvalRat. -/
theorem uEvalRat_any {w : World} {K L : Nat} {p : Option Addr} {n nc : Nat} {es : List Ent} {zs : List Int} {x : Rat} {e f : Ent} (h : PA w K p n nc es zs) (hx : AQ w L e.s e.p e.n e.c f.s f.p f.n f.c x) (hn : n ≤ 1000) (hL : 1 ≤ L) (hKL : K + L ≤ 70) (hT : 1 + tlen zs * (L + K + 1) < 80) :
    Calls Tryz.prog 40 #[.slice p n nc, .agg #[.bool e.s, .slice e.p e.n e.c, .bool f.s, .slice f.p f.n f.c]] w (QP (evq x (tr zs)) (1 + tlen zs * (L + K + 1)) w) := by
  have HX : Hid (PA w K p n nc es zs ∧ AQ w L e.s e.p e.n e.c f.s f.p f.n f.c x ∧ 1 + tlen zs * (L + K + 1) < 80) := ⟨h, hx, hT⟩
  clear h hx hT
  go_enter Tryz.func40, Tryz.ntmps40
  go_wp2_with fail
  have hal := bel_al (o := .cells #[.bool false, .slice none 0 0, .bool false, .slice none 0 0] 52) (bel_al (o := .cells #[.bool e.s, .slice e.p e.n e.c, .bool f.s, .slice f.p f.n f.c] 52) (Below.refl w.heap.size w))
  have hR : Bq ((w.alloc (.cells #[.bool e.s, .slice e.p e.n e.c, .bool f.s, .slice f.p f.n f.c] 52)).alloc (.cells #[.bool false, .slice none 0 0, .bool false, .slice none 0 0] 52)) (w.heap.size + 1) (.bool false) (.slice none 0 0) (.bool false) (.slice none 0 0) := Bq.new _ _ _ _ _ (by simp)
  generalize (w.alloc (.cells #[.bool e.s, .slice e.p e.n e.c, .bool f.s, .slice f.p f.n f.c] 52)).alloc (.cells #[.bool false, .slice none 0 0, .bool false, .slice none 0 0] 52) = W at *
  refine (qNorm_q (HX.out.2.1.below hal) hL (by omega)).mono ?_
  rintro r w1 ⟨s1, p1, n1, t1, q1, m1, rfl, hQ1, hb1⟩
  have HF : Hid (EV w1 L x.num ⟨s1, p1, n1, n1⟩ ∧ EV w1 L (x.den : Int) ⟨t1, q1, m1, m1⟩) := hQ1.evs (by omega)
  have hR1 := hR.later hb1
  have hB1 := bnext' hal hb1
  clear hal hb1 hR hQ1
  go_wp2_with fail
  have hal2 := bel_al (o := .cells #[.bool s1, .slice p1 n1 n1, .bool t1, .slice q1 m1 m1] 100) (Below.refl w1.heap.size w1)
  have hA2 : Bq (w1.alloc (.cells #[.bool s1, .slice p1 n1 n1, .bool t1, .slice q1 m1 m1] 100)) w1.heap.size (.bool s1) (.slice p1 n1 n1) (.bool t1) (.slice q1 m1 m1) := Bq.new _ _ _ _ _ rfl
  have hR2 := hR1.later hal2
  have hB2 := bnext' hB1 hal2
  have HF2 : Hid (EV (w1.alloc (.cells #[.bool s1, .slice p1 n1 n1, .bool t1, .slice q1 m1 m1] 100)) L x.num ⟨s1, p1, n1, n1⟩ ∧ EV (w1.alloc (.cells #[.bool s1, .slice p1 n1 n1, .bool t1, .slice q1 m1 m1] 100)) L (x.den : Int) ⟨t1, q1, m1, m1⟩) := ⟨HF.out.1.below hal2, HF.out.2.below hal2⟩
  have hg1 : w.heap.size + 1 < w1.heap.size := block_lt_of_cell hR1.c0
  clear hal2 hR1 hB1 HF
  generalize w1.alloc (.cells #[.bool s1, .slice p1 n1 n1, .bool t1, .slice q1 m1 m1] 100) = W2 at *
  generalize w1.heap.size = g at *
  refine (Of_e 1 W2 (by decide) (by decide)).mono ?_
  rintro r w3 ⟨o1, rfl, ho1, hb3⟩
  have ho2 := (ho1.fit (M := 1) (by decide)).ev (by decide)
  have hA3 := hA2.later hb3
  have hR3 := hR2.later hb3
  have hB3 := bnext' hB2 hb3
  have HF3 : Hid (EV w3 L x.num ⟨s1, p1, n1, n1⟩ ∧ EV w3 L (x.den : Int) ⟨t1, q1, m1, m1⟩ ∧ EV w3 1 1 o1) := ⟨HF2.out.1.below hb3, HF2.out.2.below hb3, ho2⟩
  clear hA2 hR2 hB2 hb3 HF2 ho1 ho2
  go_wp2_with fail
  have hal4 := bel_al (o := .cells #[.bool false, .slice none 0 0, .bool o1.s, .slice o1.p o1.n o1.c] 52) (Below.refl w3.heap.size w3)
  have hS4 : Bq (w3.alloc (.cells #[.bool false, .slice none 0 0, .bool o1.s, .slice o1.p o1.n o1.c] 52)) w3.heap.size (.bool false) (.slice none 0 0) (.bool o1.s) (.slice o1.p o1.n o1.c) := Bq.new _ _ _ _ _ rfl
  have hA4 := hA3.later hal4
  have hR4 := hR3.later hal4
  have hB4 := bnext' hB3 hal4
  have HF4 : Hid (EV (w3.alloc (.cells #[.bool false, .slice none 0 0, .bool o1.s, .slice o1.p o1.n o1.c] 52)) L x.num ⟨s1, p1, n1, n1⟩ ∧ EV (w3.alloc (.cells #[.bool false, .slice none 0 0, .bool o1.s, .slice o1.p o1.n o1.c] 52)) L (x.den : Int) ⟨t1, q1, m1, m1⟩ ∧ EV (w3.alloc (.cells #[.bool false, .slice none 0 0, .bool o1.s, .slice o1.p o1.n o1.c] 52)) 1 1 o1) := ⟨HF3.out.1.below hal4, HF3.out.2.1.below hal4, HF3.out.2.2.below hal4⟩
  have hg2 : g < w3.heap.size := block_lt_of_cell hA3.c0
  clear hal4 hA3 hR3 hB3 HF3
  generalize w3.alloc (.cells #[.bool false, .slice none 0 0, .bool o1.s, .slice o1.p o1.n o1.c] 52) = W4 at *
  generalize w3.heap.size = l at *
  have n1' : ¬ g = w.heap.size + 1 := by omega
  have n2' : ¬ w.heap.size + 1 = g := by omega
  have n3' : ¬ l = w.heap.size + 1 := by omega
  have n4' : ¬ w.heap.size + 1 = l := by omega
  obtain ⟨a0, a1, a2, a3, -, -, -, -⟩ := id hA4
  obtain ⟨k0, k1, k2, k3, -, -, -, -⟩ := id hS4
  have hpa := HX.out.1.below hB4
  have htl := tlen_le zs
  have hzl := HX.out.1.zl
  have hlt : w.heap.size + 1 < W4.heap.size := block_lt_of_cell hR4.c0
  have hxd : (0 : Int) < (x.den : Int) := by have := x.den_pos; omega
  clear hA4 hS4
  go_region_held3 (fun w' => w'.cell? ⟨g, 0, none⟩ = some (.bool s1) ∧ w'.cell? ⟨g, 1, none⟩ = some (.slice p1 n1 n1) ∧ w'.cell? ⟨g, 2, none⟩ = some (.bool t1) ∧ w'.cell? ⟨g, 3, none⟩ = some (.slice q1 m1 m1) ∧ w'.cell? ⟨l, 0, none⟩ = some (.bool false) ∧ w'.cell? ⟨l, 1, none⟩ = some (.slice none 0 0) ∧ w'.cell? ⟨l, 2, none⟩ = some (.bool o1.s) ∧ w'.cell? ⟨l, 3, none⟩ = some (.slice o1.p o1.n o1.c)) (first | with_reducible exact ⟨a0, a1, a2, a3, k0, k1, k2, k3⟩ | with_reducible exact ⟨cell_later hC1 a0, cell_later hC1 a1, cell_later hC1 a2, cell_later hC1 a3, cell_later hC1 k0, cell_later hC1 k1, cell_later hC1 k2, cell_later hC1 k3⟩ | with_reducible exact ⟨cell_later hC2 a0, cell_later hC2 a1, cell_later hC2 a2, cell_later hC2 a3, cell_later hC2 k0, cell_later hC2 k1, cell_later hC2 k2, cell_later hC2 k3⟩ | with_reducible exact ⟨i0, i1, i2, i3, j0, j1, j2, j3⟩ | (simp [go_sem, i0, i1, i2, i3, j0, j1, j2, j3, n1', n2', n3', n4']; done) | (simp [go_sem, a0, a1, a2, a3, k0, k1, k2, k3]; done))
    (first
      | (go_at_call 64; go_fit (read_any K p n nc es zs _ (hpa.below (Below.refl _ _).drew) (by omega) (by omega)); rintro r v1 ⟨p2, n2, e2, rfl, hP2, hb1⟩; have hC1 := undrew hb1; have hn2 := hP2.zl)
      | (go_at_call 85; go_fit (hornerR_any (i := ez) (e := ⟨s1, p1, n1, n1⟩) (f := ⟨t1, q1, m1, m1⟩) (hP2.pa (by rw [length_tr] at hn2; omega)) (HF4.out.1.below hC1) (HF4.out.2.1.below hC1) ((NV.ez 0 _ 1).ev (by decide)) (HF4.out.2.2.below hC1) (by rw [length_tr] at hn2; omega) (by rw [← hn2, length_tr]; exact HX.out.2.2) hKL); rintro r v2 ⟨u, v, rfl, hu, hv, hb2⟩; have hC2 := bnext' hC1 hb2; have hq := hu.aq hv; rw [hnd_evq hxd, Rat.num_divInt_den, ← hn2, length_tr] at hq; clear hu hv)
      | (go_at_call 84; go_fit (qNorm_q hq (by omega) (by have := HX.out.2.2; omega)); rintro r v3 ⟨s3, p3, n3, t3, q3, m3, rfl, hQ3, hb3⟩; have hC3 := bnext' hC2 hb3; have i0 := cell_later hC3 a0; have i1 := cell_later hC3 a1; have i2 := cell_later hC3 a2; have i3 := cell_later hC3 a3; have j0 := cell_later hC3 k0; have j1 := cell_later hC3 k1; have j2 := cell_later hC3 k2; have j3 := cell_later hC3 k3; obtain ⟨r0, r1, r2, r3, f0, f1, f2, f3⟩ := hR4.later hC3))
  all_goals
    have hs := hC2.size
    have hs2 := hB4.size
    clear a0 a1 a2 a3 k0 k1 k2 k3 i0 i1 i2 i3 j0 j1 j2 j3
    go_wp2
    refine bodyPost_ret (v := .agg #[.bool s3, .slice p3 n3 n3, .bool t3, .slice q3 m3 m3]) (by simp [results, Tryz.results40, go_sem, r0, r1, r2, r3]) rfl ⟨s3, p3, n3, t3, q3, m3, rfl, ?_, ?_⟩
    · exact hQ3.st4 (by omega) (by omega)
    · exact bset4 (bnext' hB4 hC3) (by omega) _ _ _ _
end Go.Proofs.YtgecfnoecmjacaaGreatDoor
