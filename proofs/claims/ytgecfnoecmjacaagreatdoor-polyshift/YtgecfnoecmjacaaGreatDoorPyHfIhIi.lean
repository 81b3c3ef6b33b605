/-
  upoly.Sub, Lead.
-/
import Derived.Test.YtgecfnoecmjacaaGreatDoorRkUgUi
import Derived.Test.YtgecfnoecmjacaaGreatDoorWgUe
import Derived.Test.YtgecfnoecmjacaaGreatDoorUy
import Derived.Test.YtgecfnoecmjacaaGreatDoorRpVnVp
import Derived.Test.YtgecfnoecmjacaaGreatDoorHx
import Derived.Deep.DeepFit
import Derived.Test.YtgecfnoecmjacaaGreatDoorVuVvUdLnWrIb
namespace Go.Proofs.YtgecfnoecmjacaaGreatDoor
open Go.RowKit
set_option linter.unusedVariables false
set_option linter.unusedSimpArgs false

theorem callSub' (args : Array Value) (w' : World) : Sem.run Tryz.prog (callFunc 61 args) w' = .ok (.enter 61 args) w' := by
  have h1 : ¬ Tryz.f61.name = "runtime.NumGoroutine" := of_decide_eq_false (by kernel_rfl)
  have h2 : ¬ Tryz.f61.body = none := fun h => by cases h
  simp only [callFunc, Tryz.func61, go_sem]
  simp [h1, h2, go_sem]
set_option maxHeartbeats 2000000 in
/-- upoly.Sub. -/
theorem uSub_any {w : World} {K L : Nat} {p q : Option Addr} {n nc m mc : Nat} {es fs : List Ent} {zs ys : List Int} (h : PA w K p n nc es zs) (k : PA w L q m mc fs ys) (hn : n ≤ 1000000) (hm : m ≤ 1000000) (hM : K + L + 1 ≤ 1000) :
    Calls Tryz.prog 17 #[.slice p n nc, .slice q m mc] w (PnP (tr (pz (· - ·) (tr zs) (tr ys))) (K + L + 1) w) := by
  have hc := fun w' (h : PA w' K p n nc es zs) (k : PA w' L q m mc fs ys) => ucombine_any h k hn hm hM 61 callSub' (· - ·) (fun w' x y e f h k => Sub_ev h k)
  go_enter Tryz.func17, Tryz.ntmps17
  go_wp2_with fail
  refine (hc w h k).mono ?_
  rintro e w1 ⟨p1, n1, e1, rfl, h1, h2⟩
  clear hc
  go_wp2
  go_ret
  exact ⟨p1, n1, e1, rfl, h1, h2⟩
set_option maxHeartbeats 2000000 in
set_option maxRecDepth 100000 in
/-- upoly.Lead. -/
theorem uLead_any {w : World} {K : Nat} {p : Option Addr} {n nc : Nat} {es : List Ent} {zs : List Int} (h : PA w K p n nc es zs) (hn : n ≤ 1000000) (hK : K ≤ 1000) :
    Calls Tryz.prog 27 #[.slice p n nc] w fun r w' => ∃ f : Ent, r = .returned (.agg #[.bool f.s, .slice f.p f.n f.c]) ∧ NV w.heap.size w' K (gx zs (tlen zs - 1)) f ∧ Below w.heap.size w w' := by
  have htl := tlen_le zs
  have hzl := h.zl
  have hel := h.el
  have hal := bel_al (o := .cells #[.bool false, .slice none 0 0] 26) (Below.refl w.heap.size w)
  have hR0 : Bx (w.alloc (.cells #[.bool false, .slice none 0 0] 26)) w.heap.size (.bool false) (.slice none 0 0) := Bx.new _ _ _ rfl
  go_enter Tryz.func27, Tryz.ntmps27
  go_wp2_with fail
  generalize w.alloc (.cells #[.bool false, .slice none 0 0] 26) = w0 at *
  refine (utrim_any K p n nc es zs _ (h.below hal) hn).mono ?_
  rintro e w1 ⟨rfl, hb1⟩
  have hb := bnext' hal hb1
  have hR1 := hR0.later hb1
  obtain ⟨r0, r1, f0, f1⟩ := hR1
  have h1 := h.below hb
  by_cases h0 : tlen zs = 0
  · have HZ : Hid (gx zs (tlen zs - 1) = 0) := tlen_zero zs _ (by omega)
    rw [h0]
    clear h0 htl
    go_wp2
    refine bodyPost_ret (v := .agg #[.bool false, .slice none 0 0]) (by simp [results, Tryz.results27, go_sem, r0, r1]) rfl ⟨ez, rfl, ?_, Bel_st (Bel_st hb (Nat.le_refl _)) (Nat.le_refl _)⟩
    rw [HZ.out]
    exact NV.ez _ _ K
  · obtain ⟨b, o, hp, hc⟩ := h1.pl (by omega)
    obtain ⟨j, hj⟩ : ∃ j, tlen zs = j + 1 := ⟨tlen zs - 1, by omega⟩
    obtain ⟨c0, c1⟩ := hc j (by omega)
    have hv := h1.ev j (by omega)
    have sb : b < w1.heap.size := block_lt_of_cell c0
    have e1 : tlen zs - 1 = j := by omega
    subst hp
    have HE : Hid (tlen zs - 1 = j) := e1
    clear hc h1 h e1
    rw [hj]
    have HJ : Hid (tlen zs = j + 1) := hj
    have hj1 : j + 1 ≤ n := by omega
    clear hj h0 htl
    have g1 : (((j + 1 : Nat) : Int) == 0) = false := by rw [beq_eq_false_iff_ne]; omega
    have v1 : ((j + 1 : Nat) : Int) - 1 = (j : Int) := by omega
    have v2 : IntKind.i64.wrap (j : Int) = (j : Int) := by rw [IntKind.wrap_i64]; omega
    go_wp2_with fail
    refine (own_any hv hK).mono ?_
    rintro e w2 ⟨f, rfl, hf, hb2⟩
    have hb3 := bnext' hb hb2
    have hs := hb.size
    have hlt : w.heap.size < w1.heap.size := block_lt_of_cell r0
    obtain ⟨s0, s1, t0, t1⟩ := (hR0.later hb1).later hb2
    clear hb1 hb2 hv c0 c1 r0 r1 f0 f1 hR0 hal
    go_wp2
    refine bodyPost_ret (v := .agg #[.bool f.s, .slice f.p f.n f.c]) (by simp [results, Tryz.results27, go_sem, s0, s1]) rfl ⟨f, rfl, ?_, Bel_st (Bel_st hb3 (Nat.le_refl _)) (Nat.le_refl _)⟩
    rw [HE.out]
    exact (NV_st3 hf.frm hlt (NV_st3 hf.frm hlt hf)).mono hs
end Go.Proofs.YtgecfnoecmjacaaGreatDoor
/-
  upoly.Deriv.
-/
namespace Go.Proofs.YtgecfnoecmjacaaGreatDoor
open Go.RowKit
set_option linter.unusedVariables false
set_option linter.unusedSimpArgs false

theorem lasts_NV (B K : Nat) : Lasts (fun w z e => NV B w K z e) := ⟨fun h hg hne => by
    obtain ⟨xs, h1, h2⟩ := h
    exact ⟨xs, ⟨h1.len, rd_grown h1.rd hg (by rw [h1.len]; exact hne), h1.u, h1.nrm, h1.sg, h1.pn, h1.v, h1.fr⟩, h2⟩, fun h hn => by
    obtain ⟨xs, h1, h2⟩ := h
    exact rd_lt h1.rd (by rw [h1.len]; exact hn)⟩
set_option maxHeartbeats 2000000 in
theorem clipP_any (q : Option Addr) (m mc : Nat) (w : World) (h : m ≤ mc) (hc : mc ≤ maxLen) (hq : q = none → mc = 0) :
    Calls Tryz.prog 71 #[.slice q m mc] w fun e w' => e = .returned (.slice q m m) ∧ w = w' := by
  unfold maxLen at hc
  go_enter Tryz.func71, Tryz.ntmps71
  go_wp2
  go_ret
  exact ⟨rfl, rfl⟩
theorem Of_e (a : Int) (w : World) (h0 : -9223372036854775808 ≤ a) (h1 : a ≤ 9223372036854775807) : Calls Tryz.prog 70 #[.int .i64 a] w fun r w' => ∃ u : Ent, r = .returned (.agg #[.bool u.s, .slice u.p u.n u.c]) ∧ NV w.heap.size w' 2 a u ∧ Below w.heap.size w w' := by
  refine (Of_any a w h0 h1).mono ?_
  rintro e w' ⟨s', p', n', zs, rfl, g1, g2, g3⟩
  exact ⟨⟨s', p', n', n'⟩, rfl, ⟨zs, g1, rfl, g2⟩, g3⟩
/-- A normal polynomial's derivative is normal. -/
theorem derz_top (zs : List Int) : tlen (derz (tr zs)) = tlen zs - 1 := by
  have hl := length_derz (tr zs)
  rw [length_tr] at hl
  refine tlen_eq _ _ (fun j hj => gx_past _ _ (by rw [hl]; exact Nat.le_refl _) j hj) ?_
  rcases Nat.eq_zero_or_pos (tlen zs - 1) with h | h
  · exact .inl h
  · refine .inr ?_
    rw [gx_derz _ _ (by rw [length_tr]; omega), gx_tr]
    have h1 := tlen_top zs (by omega)
    have e : tlen zs - 1 - 1 + 1 = tlen zs - 1 := by omega
    rw [e]
    exact Int.mul_ne_zero (by omega) h1
set_option maxHeartbeats 4000000 in
set_option maxRecDepth 100000 in
/-- upoly.Deriv. -/
theorem uDeriv_any {w : World} {K : Nat} {p : Option Addr} {n0 nc0 : Nat} {es00 : List Ent} {zs0 : List Int} (h0 : PA w K p n0 nc0 es00 zs0) (hn0 : n0 ≤ 100000) (hK : K ≤ 900) :
    Calls Tryz.prog 23 #[.slice p n0 nc0] w (PnP (derz (tr zs0)) (2 + K) w) := by
  obtain ⟨i0, hi, hzz⟩ := Option.map_eq_some_iff.1 info_api
  simp only [Prod.mk.injEq] at hzz
  obtain ⟨hz0, hz1, hz2⟩ := hzz
  have HI : Hid (Tryz.prog.info? 26 = some i0 ∧ i0.zero = some (.agg #[.bool false, .slice none 0 0]) ∧ i0.size = 2 ∧ i0.bytes = 32) := ⟨hi, hz0, hz1, hz2⟩
  have hn : tlen zs0 ≤ 100000 := by have := tlen_le zs0; have := h0.zl; omega
  go_enter Tryz.func23, Tryz.ntmps23
  go_wp2_with fail
  refine (utrim_any K p n0 nc0 es00 zs0 _ h0 (by omega)).mono ?_
  rintro e W ⟨rfl, hbW⟩
  have h := h0.trim.below hbW
  have HTP : Hid (tlen (derz (tr zs0)) = tlen zs0 - 1) := derz_top zs0
  have hel0 := h.el
  have hzl0 := h.zl
  have hvl := length_derz (tr zs0)
  have hvg := gx_derz (tr zs0)
  rw [length_tr] at hvl hvg
  generalize hvs : derz (tr zs0) = vs at *
  generalize es00.take (tlen zs0) = es0 at *
  generalize tr zs0 = zs at *
  generalize tlen zs0 = n at *
  have HX : Hid (PA W K p n n es0 zs ∧ Below w.heap.size w W ∧ tlen vs = n - 1) := ⟨h, hbW, HTP.out⟩
  have HVS : Hid ((∀ j, j < n - 1 → gx vs j = ((j : Int) + 1) * gx zs (j + 1)) ∧ vs.length = n - 1) := ⟨hvg, hvl⟩
  clear h0 h hi hz0 hz1 hz2 hvs hvg hvl hbW HTP
  go_wp2_with fail
  go_loopw [3, 4] (fun sv iv wr => ∃ (k : Nat) (es : List Ent), (k = 0 ∨ k + 1 ≤ n) ∧ iv = .int .i64 ((k + 1 : Nat) : Int) ∧ Hid (es.length = k ∧ LG W.heap.size 26 (fun wx z e => NV W.heap.size wx (2 + K) z e) wr sv es (vs.take k) ∧ Below W.heap.size W wr)) (fun _ iv _ => n - (intOf iv).toNat)
  case atStart => exact ⟨0, [], .inl rfl, by go_num, rfl, by rw [List.take_zero]; exact LG.nil _ _ _ _, Below.refl _ _⟩
  case round =>
    obtain ⟨k, es, hk, rfl, H⟩ := hrel
    generalize hK1 : k + 1 = k1 at *
    have HK : Hid (k + 1 = k1) := hK1
    have hk1 : 1 ≤ k1 := by omega
    have hk2 : k1 ≤ 100001 := by omega
    have hk3 : k ≤ 100000 := by omega
    clear hK1
    rcases Nat.lt_or_ge k1 n with hlt | hge
    · obtain ⟨hel, hLR, hB⟩ := H.out
      have hPR := HX.out.1.below hB
      obtain ⟨b, o, hp, hc⟩ := hPR.pl (by omega)
      subst hp
      obtain ⟨x0, x1⟩ := hc k1 (by omega)
      have hx := hPR.ev k1 hlt
      have i1 : (k1 : Int) < (n : Int) := by omega
      have v1 : IntKind.i64.wrap (k1 : Int) = (k1 : Int) := by rw [IntKind.wrap_i64]; omega
      have HC : Hid (W.cell? ⟨b, o + k1 * 2, none⟩ = some (.bool (ge es0 k1).s) ∧ W.cell? ⟨b, o + k1 * 2 + 1, none⟩ = some (.slice (ge es0 k1).p (ge es0 k1).n (ge es0 k1).c)) := by
        obtain ⟨b', o', hb', hc'⟩ := HX.out.1.pl (by omega)
        cases hb'
        exact hc' k1 (by omega)
      have hof := Of_e (k1 : Int) wr.drew (by omega) (by omega)
      obtain ⟨hi, hz0, hz1, hz2⟩ := HI.out
      clear hel hLR hB hc hPR
      go_upto_region 6 with fail
      go_region_held3 (fun w' => w'.cell? ⟨b, o + k1 * 2, none⟩ = some (.bool (ge es0 k1).s) ∧ w'.cell? ⟨b, o + k1 * 2 + 1, none⟩ = some (.slice (ge es0 k1).p (ge es0 k1).n (ge es0 k1).c) ∧ w'.cell? ⟨b, o + k1 * 2, none⟩ = some (.bool (ge es0 k1).s) ∧ w'.cell? ⟨b, o + k1 * 2 + 1, none⟩ = some (.slice (ge es0 k1).p (ge es0 k1).n (ge es0 k1).c)) (first | with_reducible exact ⟨x0, x1, x0, x1⟩ | with_reducible exact K3 | (refine keep4R ⟨x0, x1, x0, x1⟩ ?_; (repeat (first | (with_reducible exact hB2) | (with_reducible exact hB1) | (with_reducible exact Below.refl _ _) | (refine Bel_al ?_ (Nat.le_refl _)) | (refine Below.drew ?_))); done))
        (first
          | (go_at_call 70; go_fit hof; rintro r w1 ⟨u1, rfl, hO1, hb1⟩; have hB1 := undrew hb1; have hmu := Mul_ev (hO1.ev (by omega)) (hx.below hB1) (by omega); clear hb1)
          | (go_at_call 69; go_fit hmu; rintro r w2 ⟨u, rfl, hN0, hb2⟩; have hN1 := hN0.mono (Nat.le_trans H.out.2.2.size hB1.size); have hF1 : Go.Proofs.YtgecfnoecmjacaaGreatDoor.From wr.heap.size u.p := fun a ha => Nat.le_trans hB1.size (hN0.frm a ha); clear hN0; have hB2 := bnext' hB1 hb2; have hown0 := own_below H.out.2.1.own hB2; rw [H.out.1] at hown0; have HO : Hid (w2.ownsRow W.heap.size 26 2 u3 k (fl es)) := hown0; clear hown0; have hsz : W.heap.size ≤ w2.heap.size := Nat.le_trans H.out.2.2.size hB2.size)
          | (refine step_append_lies _ rfl _ _ 23 rfl W.heap.size 26 i0 (.agg #[.bool false, .slice none 0 0]) 2 32 Tryz.underlying23 hi hz0 hz1 hz2 rfl (by decide) u3 k (fl es) rfl (HO.out.alloc _) ⟨w2.heap.size, 0, none⟩ 1 1 [.bool u.s, .slice u.p u.n u.c] rfl rfl ?_ (fun x hx => by simp at hx; rcases hx with rfl | rfl <;> rfl) (by decide) (by unfold maxLen; omega) (by omega) (by simp; omega) _ rfl ?_; exact World.news_of_block (heap_alloc_new w2 _); intro g cap w3 hown3 hgrow3 hat3 hlt3; have hB3 : Below W.heap.size W w3 := ((bnext' H.out.2.2 hB2).alloc (by omega) _).grown hgrow3 (by simp; omega) (fun q hq => by have := (HO.out.lt q hq).1; omega); have K3 := And.intro (cell_later hB3 HC.out.1) (And.intro (cell_later hB3 HC.out.2) (And.intro (cell_later hB3 HC.out.1) (cell_later hB3 HC.out.2))); have HA : Hid (LG W.heap.size 26 (fun wx z e => NV W.heap.size wx (2 + K) z e) w3 (.slice (some ⟨g, 0, none⟩) (k + 1) cap) (es ++ [u]) (vs.take k ++ [(k1 : Int) * gx zs k1])) := LG.app (lasts_NV _ _) H.out.1 H.out.2.1 hB2 hN1 (fun h0 a ha => .inr (hF1 a ha)) hown3 hgrow3 hat3; clear hown3 hgrow3 hat3))
      all_goals
        clear hmu hof hx hN1 x0 x1
        go_wp2
        refine ⟨⟨k + 1, es ++ [u], .inr (by have := HK.out; omega), by have := HK.out; subst this; go_num, by have := H.out.1; simp; omega, ?_, hB3⟩, by simp [intOf]; omega⟩
        have hkk := HK.out
        rw [take_snocg vs k (by have := HVS.out.2; omega), HVS.out.1 k (by omega)]
        have e1 : ((k : Int) + 1) * gx zs (k + 1) = (k1 : Int) * gx zs k1 := by subst hkk; push_cast; rfl
        rw [e1]
        exact HA.out
    · obtain ⟨hel, hLR, hB⟩ := H.out
      have hvl := HVS.out.2
      have hkk := HK.out
      rw [List.take_of_length_le (by omega)] at hLR
      obtain ⟨q, cap, hv, hcap1, hcap2, hpl, hF, hq0⟩ := hLR.pl
      subst hv
      have HL : Hid (vs.length = k ∧ (∀ j, j < k → NV W.heap.size wr (2 + K) (gx vs j) (ge es j)) ∧ PL wr q es ∧ es.length = k ∧ Below W.heap.size W wr) := ⟨by rw [hLR.zl]; exact hel, by rw [← hel]; exact hLR.ev, hpl, hel, hB⟩
      rw [hel] at hcap1 ⊢
      clear H hLR hB hk hkk hpl
      go_wp2_with fail
      refine (clipP_any q k cap _ hcap1 hcap2 hq0).mono ?_
      rintro e w1 ⟨rfl, rfl⟩
      go_wp2
      go_ret
      obtain ⟨l1, l2, l3, l4, l5⟩ := HL.out
      obtain ⟨-, hbW, htv⟩ := HX.out
      exact ⟨q, k, es, rfl, ⟨l4, l1, by omega, l3, fun a ha => Nat.le_trans hbW.size (hF a ha), fun j hj => (l2 j hj).mono hbW.size⟩, bnext' hbW l5⟩
end Go.Proofs.YtgecfnoecmjacaaGreatDoor
/-
  upoly.widen.
-/
namespace Go.Proofs.YtgecfnoecmjacaaGreatDoor
open Go.RowKit
set_option linter.unusedVariables false
set_option linter.unusedSimpArgs false

/-- The entries of k^d p(x / k). -/
def widz (k : Int) (zs : List Int) : List Int := (List.range zs.length).map fun i => gx zs i * k ^ (zs.length - 1 - i)
theorem length_widz (k : Int) (zs : List Int) : (widz k zs).length = zs.length := by simp [widz]
theorem gx_widz (k : Int) (zs : List Int) (i : Nat) (h : i < zs.length) : gx (widz k zs) i = gx zs i * k ^ (zs.length - 1 - i) := by
  rw [gx_mem _ _ (by rw [length_widz]; exact h)]
  simp [widz]
theorem term_lt {a b : Int} {i j : Nat} (h : (a.natAbs : Int) < pw i) (k : (b.natAbs : Int) < pw j) : ((a * b).natAbs : Int) < pw (i + j) := by
  rw [Int.natAbs_mul, pw_add]
  push_cast
  have h1 := pw_pos i
  have h2 := pw_pos j
  have h3 : (a.natAbs : Int) * (b.natAbs : Int) ≤ (a.natAbs : Int) * pw j := Int.mul_le_mul_of_nonneg_left (by omega) (by omega)
  have h4 : (a.natAbs : Int) * pw j < pw i * pw j := Int.mul_lt_mul_of_pos_right h h2
  omega
theorem pow_lt {k : Int} {L : Nat} (hk : (k.natAbs : Int) < pw L) (hL : 1 ≤ L) : ∀ m, ((k ^ m).natAbs : Int) < pw (m * L + 1)
  | 0 => by
    rw [Nat.zero_mul, Int.pow_zero]
    decide
  | m + 1 => by
    rw [Int.pow_succ, show (m + 1) * L + 1 = (m * L + 1) + L by rw [Nat.succ_mul]; omega]
    exact term_lt (pow_lt hk hL m) hk
/-- Behind some rounds of widen. -/
structure WI (w wr : World) (g gp T M n k m : Nat) (us : List Ent) (x : Int) (zs : List Int) (e f : Ent) : Prop where
  row : Row2 wr g 26 us
  len : us.length = n
  ev : ∀ t, k ≤ t → t < n → EV wr T (gx (widz x zs) t) (ge us t) ∧ (0 < (ge us t).n → Off g (ge us t).p ∧ Off gp (ge us t).p)
  pb : Bx wr gp (.bool f.s) (.slice f.p f.n f.c)
  pe : EV wr M (x ^ m) f
  po : 0 < f.n → Off g f.p
  xb : Bx wr w.heap.size (.bool e.s) (.slice e.p e.n e.c)
  bw : Below w.heap.size w wr
  lt : w.heap.size < g ∧ g < gp
set_option maxHeartbeats 4000000 in
set_option maxRecDepth 100000 in
/-- upoly.widen. -/
theorem widen_any {w : World} {K L : Nat} {p : Option Addr} {n nc : Nat} {es : List Ent} {zs : List Int} {x : Int} {e : Ent} (h : PA w K p n nc es zs) (hx : EV w L x e) (hn : n ≤ 1000) (hL1 : 1 ≤ L) (hT : K + (n * L + 1) < 80) :
    Calls Tryz.prog 95 #[.slice p n nc, .agg #[.bool e.s, .slice e.p e.n e.c]] w fun r w' => ∃ (g : Nat) (us : List Ent), r = .returned (.slice (some ⟨g, 0, none⟩) n n) ∧ PA w' (K + (n * L + 1)) (some ⟨g, 0, none⟩) n n us (widz x zs) ∧ Below w.heap.size w w' := by
  have HX : Hid (PA w K p n nc es zs ∧ EV w L x e) := ⟨h, hx⟩
  have hmk := mk_poly n (by omega)
  have hzl := h.zl
  clear h hx
  go_enter Tryz.func95, Tryz.ntmps95
  have HT : Hid (K + (n * L + 1) < 80) := hT
  have HB : Hid ((∀ m, m ≤ n → ((x ^ m).natAbs : Int) < pw (n * L + 1)) ∧ (∀ t, t < n → ((gx (widz x zs) t).natAbs : Int) < pw (K + (n * L + 1)))) := by
    have hp : ∀ m, m ≤ n → ((x ^ m).natAbs : Int) < pw (n * L + 1) := fun m hm => by
      refine Int.lt_of_lt_of_le (pow_lt HX.out.2.bd hL1 m) (pw_mono ?_)
      have := Nat.mul_le_mul_right L hm
      omega
    refine ⟨hp, fun t ht => ?_⟩
    rw [gx_widz x zs t (by omega)]
    exact term_lt (HX.out.1.gbd t) (hp _ (by omega))
  clear hT
  generalize n * L + 1 = M at *
  go_wp2_with fail
  have hR0 := Row2.new (w.alloc (.cells #[.bool e.s, .slice e.p e.n e.c] 26)) 26 (ezs n)
  have hW0 : Below w.heap.size w ((w.alloc (.cells #[.bool e.s, .slice e.p e.n e.c] 26)).alloc (.cells (ca2 (ezs n)) 26)) := bel_al (bel_al (Below.refl _ _))
  have hX0 : Bx ((w.alloc (.cells #[.bool e.s, .slice e.p e.n e.c] 26)).alloc (.cells (ca2 (ezs n)) 26)) w.heap.size (.bool e.s) (.slice e.p e.n e.c) := (Bx.new _ _ _ rfl).alloc _
  rw [show (w.alloc (.cells #[.bool e.s, .slice e.p e.n e.c] 26)).heap.size = w.heap.size + 1 by simp] at hR0
  generalize ((w.alloc (.cells #[.bool e.s, .slice e.p e.n e.c] 26)).alloc (.cells (ca2 (ezs n)) 26)) = W0 at *
  clear hmk
  refine (Of_e 1 W0 (by decide) (by decide)).mono ?_
  rintro r w1 ⟨f0, rfl, hf0, hb1⟩
  have hal := bel_al (o := .cells #[.bool f0.s, .slice f0.p f0.n f0.c] 26) (Below.refl w1.heap.size w1)
  have hP0 : Bx (w1.alloc (.cells #[.bool f0.s, .slice f0.p f0.n f0.c] 26)) w1.heap.size (.bool f0.s) (.slice f0.p f0.n f0.c) := Bx.new _ _ _ rfl
  have hlt0 := hR0.lt
  have hs1 := hb1.size
  have HC : Hid (WI w (w1.alloc (.cells #[.bool f0.s, .slice f0.p f0.n f0.c] 26)) (w.heap.size + 1) w1.heap.size (K + M) M n n 0 (ezs n) x zs e f0) := by
    refine ⟨(hR0.below hb1 hlt0).below hal (by omega), length_ezs n, fun t h1 h2 => by omega, hP0, ?_, fun _ a ha k => by have := hf0.frm a ha; omega, (hX0.later hb1).later hal, bnext' (bnext' hW0 hb1) hal, by omega, by omega⟩
    rw [Int.pow_zero]
    exact ((hf0.fit (M := M) (by have := HB.out.1 0 (Nat.zero_le _); rwa [Int.pow_zero] at this)).ev (by have := HT.out; omega)).below hal
  clear hR0 hW0 hX0 hf0 hb1 hal hP0 hlt0 hs1
  go_wp2_with fail
  generalize w1.alloc (.cells #[.bool f0.s, .slice f0.p f0.n f0.c] 26) = W1 at *
  generalize w1.heap.size = gp at *
  generalize hg : w.heap.size + 1 = g at *
  clear hg
  go_loopw [7] (fun iv wr => ∃ (k : Nat) (us : List Ent) (f : Ent), k ≤ n ∧ iv = .int .i64 ((k : Int) - 1) ∧ Hid (WI w wr g gp (K + M) M n k (n - k) us x zs e f)) (fun iv _ => (intOf iv + 1).toNat)
  case atStart => exact ⟨n, ezs n, f0, Nat.le_refl _, by go_num, by show WI w _ g gp (K + M) M n n (n - n) (ezs n) x zs e f0; rw [Nat.sub_self]; exact HC.out⟩
  case round =>
    clear HC
    obtain ⟨k, us, f, hk, rfl, H⟩ := hrel
    have hcs : Hid (k = 0 ∨ ∃ j, k = j + 1) := by cases k with | zero => exact .inl rfl | succ j => exact .inr ⟨j, rfl⟩
    rcases hcs.out with rfl | ⟨j, rfl⟩
    · clear hcs
      go_wp2
      go_ret
      exact ⟨g, us, rfl, ⟨H.out.len, by rw [length_widz, hzl], Nat.le_refl _, by unfold maxLen; omega, nofun, H.out.row.pl, fun t ht => (H.out.ev t (Nat.zero_le _) ht).1⟩, H.out.bw⟩
    · have i0 : ((j + 1 : Nat) : Int) - 1 = (j : Int) := by omega
      have i1 : (j : Int) < (n : Int) := by omega
      have i2 : (0 : Int) ≤ (j : Int) := by omega
      rw [i0]
      obtain ⟨hRow, hLen, hEv, hPb, hPe, hPo, hXb, hBw, hLt⟩ := H.out
      have hP := HX.out.1.below hBw
      obtain ⟨b, o, hp, hc⟩ := hP.pl (by rw [hP.el]; omega)
      subst hp
      obtain ⟨c0, c1⟩ := hc j (by rw [hP.el]; omega)
      have he := hP.ev j (by omega)
      obtain ⟨q0, q1, -, -⟩ := id hPb
      obtain ⟨x0, x1, -, -⟩ := id hXb
      obtain ⟨y0, y1⟩ := hRow.cell j (by omega)
      have hxe := HX.out.2.below hBw
      have HE : Hid (WI w wr g gp (K + M) M n (j + 1) (n - (j + 1)) us x zs e f) := H.out
      have hKK : K < 80 := by have := HT.out; omega
      clear hRow hLen hEv hPb hXb hP hc hcs H
      go_upto_region 5 with fail
      have hgpl : gp < wr.heap.size := block_lt_of_cell q0
      go_cut [] (fun wc => ∃ us1 : List Ent, Hid (WI w wc g gp (K + M) M n j (n - (j + 1)) us1 x zs e f))
      case first =>
        go_region_with (go_at_call 69; go_fit (Mul_ev (he.below (Below.refl _ _).drew) (hPe.below (Below.refl _ _).drew) hKK); rintro r v1 ⟨u, rfl, hN1, hb1⟩; have hB1 := undrew hb1; have hR1 := HE.out.row.below hB1 HE.out.row.lt; obtain ⟨z0, z1⟩ := hR1.cell j (by rw [HE.out.len]; omega); have g0 := hR1.frozen (j * 2); have g1 := hR1.frozen (j * 2 + 1))
        all_goals
          have hst : WI w ((v1.setCell ⟨g, j * 2, none⟩ (.bool u.s)).setCell ⟨g, j * 2 + 1, none⟩ (.slice u.p u.n u.c)) g gp (K + M) M n j (n - (j + 1)) (us.set j u) x zs e f := by
            have hN2 : NV wr.heap.size v1 (K + M) (gx zs j * x ^ (n - (j + 1))) u := hN1
            have hv : gx zs j * x ^ (n - (j + 1)) = gx (widz x zs) j := by rw [gx_widz x zs j (by omega), hzl, show n - 1 - j = n - (j + 1) by omega]
            rw [hv] at hN2
            have hou : 0 < u.n → Off g u.p ∧ Off gp u.p := fun _ => ⟨fun a ha k => by have := hN2.frm a ha; omega, fun a ha k => by have := hN2.frm a ha; omega⟩
            refine ⟨hR1.set j u (by rw [HE.out.len]; omega), by rw [List.length_set]; exact HE.out.len, fun t h1 h2 => ?_, Bx_any (HE.out.pb.later hB1) (by omega), (hPe.below hB1).set2 hPo, hPo, Bx_any (HE.out.xb.later hB1) (by omega), Bel_st (Bel_st (bnext' hBw hB1) (by show w.heap.size ≤ g; omega)) (by show w.heap.size ≤ g; omega), hLt⟩
            by_cases he' : t = j
            · subst he'
              rw [ge_set_same _ _ _ (by rw [HE.out.len]; omega)]
              exact ⟨(hN2.ev (by have := HT.out; omega)).set2 fun h0 => (hou h0).1, hou⟩
            · rw [ge_set_other _ _ _ _ he']
              have h3 := HE.out.ev t (by omega) h2
              exact ⟨(h3.1.below hB1).set2 fun h0 => (h3.2 h0).1, h3.2⟩
          have HST := (show Hid _ from hst)
          clear hst hN1 z0 z1 g0 g1 c0 c1 q0 q1 x0 x1 y0 y1
          go_wp2_with fail
          go_meet
          exact ⟨_, HST.out⟩
      case rest =>
        obtain ⟨us1, HF⟩ := hcut
        clear HE c0 c1 q0 q1 x0 x1 y0 y1 he hPe hPo hBw hxe
        obtain ⟨q0, q1, -, -⟩ := id HF.out.pb
        obtain ⟨x0, x1, -, -⟩ := id HF.out.xb
        have hxe := HX.out.2.below HF.out.bw
        have hgl : gp < wc.heap.size := block_lt_of_cell q0
        have hMM : M < 80 := by have := HT.out; omega
        have hmul := Mul_ev HF.out.pe hxe hMM
        go_wp2_with fail
        refine hmul.mono ?_
        rintro r v1 ⟨u, rfl, hN1, hB1⟩
        clear hmul
        obtain ⟨z0, z1, g0, g1⟩ := HF.out.pb.later hB1
        all_goals
          have hst : WI w ((v1.setCell ⟨gp, 0, none⟩ (.bool u.s)).setCell ⟨gp, 1, none⟩ (.slice u.p u.n u.c)) g gp (K + M) M n j (n - j) us1 x zs e u := by
            have hN2 : NV wc.heap.size v1 (M + L) (x ^ (n - (j + 1)) * x) u := hN1
            rw [← Int.pow_succ, show (n - (j + 1)).succ = n - j by omega] at hN2
            have hN3 := (hN2.fit (HB.out.1 (n - j) (by omega))).ev (by omega)
            have hou : ∀ y, y ≤ gp → 0 < u.n → Off y u.p := fun y hy _ a ha k => by have := hN2.frm a ha; omega
            have hRn := HF.out.row.below hB1 HF.out.row.lt
            refine ⟨(hRn.set_other _ _ (by show g ≠ gp; omega)).set_other _ _ (by show g ≠ gp; omega), HF.out.len, fun t h1 h2 => ?_, Bx_set (HF.out.pb.later hB1), hN3.set2 (o := 0) (hou _ (Nat.le_refl _)), hou _ (by omega), Bx_oth (HF.out.xb.later hB1) (by omega), bset2 (bnext' HF.out.bw hB1) (by omega) _ _, hLt⟩
            have h3 := HF.out.ev t h1 h2
            exact ⟨(h3.1.below hB1).set2 (o := 0) fun h0 => (h3.2 h0).2, h3.2⟩
          have HST := (show Hid _ from hst)
          clear hst hN1 q0 q1 x0 x1
          go_wp2
          refine ⟨⟨j, us1, u, by omega, by go_num, HST.out⟩, by simp [intOf]⟩
end Go.Proofs.YtgecfnoecmjacaaGreatDoor
/-
  upoly.Stretch.
-/
namespace Go.Proofs.YtgecfnoecmjacaaGreatDoor
open Go.RowKit
set_option linter.unusedVariables false
set_option linter.unusedSimpArgs false

theorem widz_top (k : Int) (hk : k ≠ 0) (zs : List Int) (h : tlen zs = zs.length) : tlen (widz k zs) = (widz k zs).length := by
  rw [length_widz]
  refine tlen_eq _ _ (fun j hj => gx_past _ zs.length (by rw [length_widz]; exact Nat.le_refl _) j hj) ?_
  rcases Nat.eq_zero_or_pos zs.length with h0 | h0
  · exact .inl h0
  · refine .inr ?_
    rw [gx_widz k zs _ (by omega), Nat.sub_self, Int.pow_zero, Int.mul_one]
    have h1 := tlen_top zs (by omega)
    rwa [h] at h1
set_option maxHeartbeats 4000000 in
set_option maxRecDepth 100000 in
/-- upoly.Stretch, out of bounds. -/
theorem uStretch_bad (p : Option Addr) (n nc : Nat) (k j : Int) (w : World) (h : k < 1 ∨ 2147483647 < k ∨ j < -2147483647 ∨ 2147483647 < j) :
    Calls Tryz.prog 45 #[.slice p n nc, .int .i64 k, .int .i64 j] w fun r w' => r = .returned (.tuple #[.slice none 0 0, .int .i64 1]) ∧ w = w' := by
  by_cases h1 : k < 1
  · go_enter Tryz.func45, Tryz.ntmps45
    go_wp2
    refine bodyPost_ret (v := .tuple #[.slice none 0 0, .int .i64 1]) (by simp [results, Tryz.results45, go_sem]) rfl ⟨rfl, rfl⟩
  by_cases h2 : 2147483647 < k
  · go_enter Tryz.func45, Tryz.ntmps45
    go_wp2
    refine bodyPost_ret (v := .tuple #[.slice none 0 0, .int .i64 1]) (by simp [results, Tryz.results45, go_sem]) rfl ⟨rfl, rfl⟩
  by_cases h3 : j < -2147483647
  · go_enter Tryz.func45, Tryz.ntmps45
    go_wp2
    refine bodyPost_ret (v := .tuple #[.slice none 0 0, .int .i64 1]) (by simp [results, Tryz.results45, go_sem]) rfl ⟨rfl, rfl⟩
  have h4 : 2147483647 < j := by omega
  clear h
  go_enter Tryz.func45, Tryz.ntmps45
  go_wp2
  refine bodyPost_ret (v := .tuple #[.slice none 0 0, .int .i64 1]) (by simp [results, Tryz.results45, go_sem]) rfl ⟨rfl, rfl⟩
set_option maxHeartbeats 4000000 in
set_option maxRecDepth 100000 in
/-- upoly.Stretch. -/
theorem uStretch_any {w : World} {K : Nat} {p : Option Addr} {n nc : Nat} {es : List Ent} {zs : List Int} {k j : Int} (h : PA w K p n nc es zs) (hn : n ≤ 1000) (h1 : 1 ≤ k) (h2 : k ≤ 2147483647) (h3 : -2147483647 ≤ j) (h4 : j ≤ 2147483647) (hT : K + (tlen zs * 1 + 1) < 80) (hM : K + (tlen zs * 1 + 1) + tlen zs * (tlen zs * (1 + 1)) ≤ 800) :
    Calls Tryz.prog 45 #[.slice p n nc, .int .i64 k, .int .i64 j] w fun r w' => ∃ p' n' es', r = .returned (.tuple #[.slice p' n' n', .int .i64 0]) ∧ PN w.heap.size w' (K + (tlen zs * 1 + 1) + tlen zs * (tlen zs * (1 + 1))) p' n' es' (shr (-j) (tlen zs) (widz k (tr zs))) ∧ Below w.heap.size w w' := by
  have HX : Hid (PA w K p n nc es zs ∧ K + (tlen zs * 1 + 1) < 80 ∧ K + (tlen zs * 1 + 1) + tlen zs * (tlen zs * (1 + 1)) ≤ 800) := ⟨h, hT, hM⟩
  have htl : tlen zs ≤ n := by have := tlen_le zs; have := h.zl; omega
  have HW : Hid (tlen (widz k (tr zs)) = tlen zs ∧ tr (widz k (tr zs)) = widz k (tr zs)) := by
    have h5 := widz_top k (by omega) (tr zs) (by rw [tlen_tr, length_tr])
    refine ⟨by rw [h5, length_widz, length_tr], tr_of_tlen h5⟩
  have b1 : ¬ k < 1 := by omega
  have b2 : ¬ 2147483647 < k := by omega
  have b3 : ¬ j < -2147483647 := by omega
  have b4 : ¬ 2147483647 < j := by omega
  have v1 : IntKind.i64.wrap (-j) = -j := by rw [IntKind.wrap_i64]; omega
  clear h hT hM
  go_enter Tryz.func45, Tryz.ntmps45
  go_wp2_with fail
  refine (read_any K p n nc es zs _ HX.out.1 (by omega) (by have := HX.out.2.1; omega)).mono ?_
  rintro r w1 ⟨p1, n1, e1, rfl, hP1, hb1⟩
  have hn1 := hP1.zl
  rw [length_tr] at hn1
  subst hn1
  go_wp2_with fail
  refine (Of_e k w1 (by omega) (by omega)).mono ?_
  rintro r w2 ⟨u2, rfl, hu2, hb2⟩
  have hk2 := (hu2.fit (M := 1) (by have : pw 1 = 4294967296 := by decide
                                    omega)).ev (by decide)
  have hwd := widen_any ((hP1.below hb2).pa (by omega)) hk2 (by omega) (by decide) HX.out.2.1
  go_wp2_with fail
  refine hwd.mono ?_
  rintro r w3 ⟨g3, us3, rfl, hP3, hb3⟩
  clear hwd
  go_wp2_with fail
  refine (Of_e (-j) w3 (by omega) (by omega)).mono ?_
  rintro r w4 ⟨u4, rfl, hu4, hb4⟩
  have hj4 := (hu4.fit (M := 1) (by have : pw 1 = 4294967296 := by decide
                                    omega)).ev (by decide)
  have hsh := uShift_any (hP3.below hb4) hj4 (by omega) (by decide) (by rw [HW.out.1]; exact HX.out.2.2)
  rw [HW.out.1, HW.out.2] at hsh
  go_wp2_with fail
  refine hsh.mono ?_
  rintro r w5 ⟨p5, n5, e5, rfl, hP5, hb5⟩
  have hB := bnext' hb1 (bnext' hb2 (bnext' hb3 hb4))
  clear hsh
  go_wp2
  refine bodyPost_ret (v := .tuple #[.slice p5 n5 n5, .int .i64 0]) (by simp [results, Tryz.results45, go_sem]) rfl ⟨p5, n5, e5, rfl, hP5.mono hB.size, bnext' hB hb5⟩
end Go.Proofs.YtgecfnoecmjacaaGreatDoor
