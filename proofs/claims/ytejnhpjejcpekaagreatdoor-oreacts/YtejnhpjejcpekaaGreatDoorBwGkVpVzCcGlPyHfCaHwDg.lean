/-
  ore.own, New; a rule's Algebra and Q.
-/
import Derived.Test.YtejnhpjejcpekaaGreatDoorUeUfUgHdNb
import Derived.Test.YtejnhpjejcpekaaGreatDoorWlBxBbCvNjUbUcUdOwRaWmBeRd
import Derived.Deep.DeepFit
import Derived.Test.YtejnhpjejcpekaaGreatDoorFw
import Derived.Test.YtejnhpjejcpekaaGreatDoorCyViVuWxUpUqRmRpDkDlDbRiRjRgRkVqDcUmUoDmDvPmHuVsVtVy
import Derived.Test.YtejnhpjejcpekaaGreatDoorRoVbDaCxRb
import Derived.Test.YtejnhpjejcpekaaGreatDoorFpCdDeGaGbKpGcGdGeQaQbQcQdQgQhGfGgUnWfUu
import Derived.Test.YtejnhpjejcpekaaGreatDoorDyEoEq
import Derived.Test.YtejnhpjejcpekaaGreatDoorUiWiWj
import Derived.Test.YtejnhpjejcpekaaGreatDoorAdDtAgAiVdRtDhVeRsVfVcAjDrBmBqDuAkAl
import Derived.Test.YtejnhpjejcpekaaGreatDoorByDqUxUtUvUwUyUzUrUsHaHbHcWvUhHeVvCu
namespace Go.Proofs.YtejnhpjejcpekaaGreatDoor
open Go.RowKit
set_option linter.unusedVariables false
set_option linter.unusedSimpArgs false
set_option maxHeartbeats 8000000
set_option maxRecDepth 100000 in
theorem oown_any {w : World} {K : Nat} {z : Int} {e : Ent} (h : EV w K z e) (hK : K ≤ 1000) :
    Calls Tryz.prog 116 #[.agg #[.bool e.s, .slice e.p e.n e.c]] w fun r w' => ∃ f : Ent, r = .returned (.agg #[.bool f.s, .slice f.p f.n f.c]) ∧ NV w.heap.size w' K z f ∧ Below w.heap.size w w' := by
  obtain ⟨xs, h1, h2, h3⟩ := h
  obtain ⟨es, ep, en, ec⟩ := e
  simp only at h1 h2 h3 ⊢
  have HV : Hid (ival es xs = z) := h2
  clear h2
  go_enter Tryz.func116, Tryz.ntmps116
  go_wp2_with fail
  have hR0 : Bx ((w.alloc (.cells #[.bool es, .slice ep en ec] 26)).alloc (.cells #[.bool false, .slice none 0 0] 26)) (w.heap.size + 1) (.bool false) (.slice none 0 0) := Bx.new _ _ _ (by simp)
  have hW0 : Below w.heap.size w ((w.alloc (.cells #[.bool es, .slice ep en ec] 26)).alloc (.cells #[.bool false, .slice none 0 0] 26)) := ((Below.refl _ _).alloc (Nat.le_refl _) _).alloc (by simp) _
  generalize (w.alloc (.cells #[.bool es, .slice ep en ec] 26)).alloc (.cells #[.bool false, .slice none 0 0] 26) = W0 at *
  have hz : AI W0 none 0 0 [] := ⟨rfl, Nat.le_refl _, Nat.zero_le _, Nat.zero_le _, Rd.nil, fun j => by simp [gx]⟩
  refine (Add_any es false ep none en ec 0 0 xs [] _ (h1.below hW0) hz).mono ?_
  rintro e w1 ⟨s1, p1, n1, x1, rfl, hN1, hn1, hb1⟩
  have hv : ival es xs + ival false [] = z := by rw [HV.out]; simp [ival, val]
  rw [hv] at hN1
  have hle : n1 ≤ K := hN1.le (by have h5 := h1.lt es; rw [HV.out] at h5; have := pw_mono h3; omega)
  have HN : Hid (NI W0.heap.size w1 s1 p1 n1 x1 z) := hN1
  have sR : w.heap.size + 1 < W0.heap.size := block_lt_of_cell hR0.c0
  obtain ⟨r0, r1, f0, f1⟩ := hR0.later hb1
  clear hv hN1 hz
  go_wp2
  refine bodyPost_ret (v := .agg #[.bool s1, .slice p1 n1 n1]) (by simp [results, Tryz.results116, go_sem, r0, r1]) rfl ⟨⟨s1, p1, n1, n1⟩, rfl, ⟨x1, ?_, rfl, hle⟩, ?_⟩
  · exact ((HN.out.set (a := ⟨w.heap.size + 1, 0, none⟩) sR _).set (a := ⟨w.heap.size + 1, 1, none⟩) sR _).mono hW0.size
  · exact bset2 (bnext' hW0 hb1) (by omega) _ _
def RuleAt (w : World) (g : Nat) (a : Int) (e : Ent) : Prop := w.heap[g]? = some (.cells #[.int .i64 a, .bool e.s, .slice e.p e.n e.c] 111 (0, 0))
theorem RuleAt.lt {w : World} {g : Nat} {a : Int} {e : Ent} (h : RuleAt w g a e) : g < w.heap.size := (Array.getElem?_eq_some_iff.1 h).1
theorem RuleAt.below {w w' : World} {g : Nat} {a : Int} {e : Ent} (h : RuleAt w g a e) (hb : Below w.heap.size w w') : RuleAt w' g a e := (hb.block g h.lt).trans h
theorem RuleAt.c0 {w : World} {g : Nat} {a : Int} {e : Ent} (h : RuleAt w g a e) : w.cell? ⟨g, 0, none⟩ = some (.int .i64 a) := by simp only [World.cell?]; rw [h]; rfl
theorem RuleAt.c1 {w : World} {g : Nat} {a : Int} {e : Ent} (h : RuleAt w g a e) : w.cell? ⟨g, 1, none⟩ = some (.bool e.s) := by simp only [World.cell?]; rw [h]; rfl
theorem RuleAt.c2 {w : World} {g : Nat} {a : Int} {e : Ent} (h : RuleAt w g a e) : w.cell? ⟨g, 2, none⟩ = some (.slice e.p e.n e.c) := by simp only [World.cell?]; rw [h]; rfl
set_option maxRecDepth 100000 in
theorem oNew_none (w : World) (a : Int) (e : Ent) (h : a < 1 ∨ 3 < a) (ha : -9223372036854775808 ≤ a ∧ a ≤ 9223372036854775807) :
    Calls Tryz.prog 54 #[.int .i64 a, .agg #[.bool e.s, .slice e.p e.n e.c]] w fun r w' => r = .returned (.tuple #[.pointer none, .int .i64 10]) ∧ Below w.heap.size w w' := by
  have h1 : (a == 1) = false := by rw [beq_eq_false_iff_ne]; omega
  have h2 : (a == 2) = false := by rw [beq_eq_false_iff_ne]; omega
  have h3 : (a == 3) = false := by rw [beq_eq_false_iff_ne]; omega
  have g1 : ¬ a = 1 := by omega
  have g2 : ¬ a = 2 := by omega
  have g3 : ¬ a = 3 := by omega
  go_enter Tryz.func54, Tryz.ntmps54
  go_wp2
  exact bodyPost_ret (v := .tuple #[.pointer none, .int .i64 10]) (by simp [results, Tryz.results54, go_sem]) rfl ⟨rfl, (Below.refl _ _).alloc (Nat.le_refl _) _⟩
def e00 : Ent := ⟨false, none, 0, 0⟩
set_option maxRecDepth 100000 in
theorem oNew_plain (w : World) (a : Int) (e : Ent) (h : a = 1 ∨ a = 2) :
    Calls Tryz.prog 54 #[.int .i64 a, .agg #[.bool e.s, .slice e.p e.n e.c]] w fun r w' => ∃ g, r = .returned (.tuple #[.pointer (some ⟨g, 0, none⟩), .int .i64 0]) ∧ RuleAt w' g a e00 ∧ w.heap.size ≤ g ∧ Below w.heap.size w w' := by
  rcases h with rfl | rfl
  · have hR : RuleAt ((w.alloc (.cells #[.bool e.s, .slice e.p e.n e.c] 26)).alloc (.cells #[.int .i64 1, .bool false, .slice none 0 0] 111)) (w.heap.size + 1) 1 e00 := by
      have := heap_alloc_new (w.alloc (.cells #[.bool e.s, .slice e.p e.n e.c] 26)) (.cells #[.int .i64 1, .bool false, .slice none 0 0] 111)
      simpa [RuleAt, e00] using this
    have HR' := (show Hid (RuleAt _ _ _ _) from hR)
    clear hR
    go_enter Tryz.func54, Tryz.ntmps54
    go_wp2
    exact bodyPost_ret (v := .tuple #[.pointer (some ⟨w.heap.size + 1, 0, none⟩), .int .i64 0]) (by simp [results, Tryz.results54, go_sem]) rfl ⟨w.heap.size + 1, rfl, HR'.out, by omega, ((Below.refl _ _).alloc (Nat.le_refl _) _).alloc (by simp) _⟩
  · have hR : RuleAt ((w.alloc (.cells #[.bool e.s, .slice e.p e.n e.c] 26)).alloc (.cells #[.int .i64 2, .bool false, .slice none 0 0] 111)) (w.heap.size + 1) 2 e00 := by
      have := heap_alloc_new (w.alloc (.cells #[.bool e.s, .slice e.p e.n e.c] 26)) (.cells #[.int .i64 2, .bool false, .slice none 0 0] 111)
      simpa [RuleAt, e00] using this
    have HR' := (show Hid (RuleAt _ _ _ _) from hR)
    clear hR
    go_enter Tryz.func54, Tryz.ntmps54
    go_wp2
    exact bodyPost_ret (v := .tuple #[.pointer (some ⟨w.heap.size + 1, 0, none⟩), .int .i64 0]) (by simp [results, Tryz.results54, go_sem]) rfl ⟨w.heap.size + 1, rfl, HR'.out, by omega, ((Below.refl _ _).alloc (Nat.le_refl _) _).alloc (by simp) _⟩
set_option maxRecDepth 100000 in
theorem oAlg_any {w : World} {g : Nat} {a : Int} {e : Ent} (h : RuleAt w g a e) :
    Calls Tryz.prog 57 #[.pointer (some ⟨g, 0, none⟩)] w fun r w' => r = .returned (.int .i64 a) ∧ Below w.heap.size w w' := by
  have c0 := h.c0
  clear h
  go_enter Tryz.func57, Tryz.ntmps57
  go_wp2
  go_ret
  exact ⟨rfl, Below.refl _ _⟩
set_option maxRecDepth 100000 in
theorem oNew_q {w : World} {K : Nat} {z : Int} {e : Ent} (h : EV w K z e) (hK : K ≤ 1000) (hz : z ≠ 0) :
    Calls Tryz.prog 54 #[.int .i64 3, .agg #[.bool e.s, .slice e.p e.n e.c]] w fun r w' => ∃ g f, r = .returned (.tuple #[.pointer (some ⟨g, 0, none⟩), .int .i64 0]) ∧ RuleAt w' g 3 f ∧ NV w.heap.size w' K z f ∧ w.heap.size ≤ g ∧ Below w.heap.size w w' := by
  have hal := bel_al (o := .cells #[.bool e.s, .slice e.p e.n e.c] 26) (Below.refl w.heap.size w)
  have h1 := h.below hal
  have hX : Bx (w.alloc (.cells #[.bool e.s, .slice e.p e.n e.c] 26)) w.heap.size (.bool e.s) (.slice e.p e.n e.c) := Bx.new _ _ _ rfl
  have g1 : (isgn z == 0) = false := by rw [beq_eq_false_iff_ne]; unfold isgn; split <;> (try split) <;> omega
  have g2 : ¬ isgn z = 0 := by unfold isgn; split <;> (try split) <;> omega
  go_enter Tryz.func54, Tryz.ntmps54
  go_wp2_with fail
  generalize w.alloc (.cells #[.bool e.s, .slice e.p e.n e.c] 26) = W at *
  go_fit (Sign_ev h1)
  rintro r w1 ⟨rfl, hb1⟩
  have h2 := h1.below hb1
  have hB1 := bnext' hal hb1
  obtain ⟨c0, c1, -, -⟩ := hX.later hb1
  generalize isgn z = sg at *
  go_wp2_with fail
  go_fit (oown_any h2 hK)
  rintro r w2 ⟨f, rfl, hN, hb2⟩
  have hR : RuleAt (w2.alloc (.cells #[.int .i64 3, .bool f.s, .slice f.p f.n f.c] 111)) w2.heap.size 3 f := heap_alloc_new w2 _
  have hB2 := bnext' hB1 hb2
  have HR' : Hid (RuleAt (w2.alloc (.cells #[.int .i64 3, .bool f.s, .slice f.p f.n f.c] 111)) w2.heap.size 3 f ∧ NV w.heap.size (w2.alloc (.cells #[.int .i64 3, .bool f.s, .slice f.p f.n f.c] 111)) K z f ∧ w.heap.size ≤ w2.heap.size ∧ Below w.heap.size w (w2.alloc (.cells #[.int .i64 3, .bool f.s, .slice f.p f.n f.c] 111))) := ⟨hR, (hN.below (bel_al (Below.refl _ _))).mono hB1.size, hB2.size, bel_al hB2⟩
  clear hR hN hb2 hB1 hb1 hX h1 h2 c0 c1 hB2
  go_wp2
  exact bodyPost_ret (v := .tuple #[.pointer (some ⟨w2.heap.size, 0, none⟩), .int .i64 0]) (by simp [results, Tryz.results54, go_sem]) rfl ⟨w2.heap.size, f, rfl, HR'.out⟩
set_option maxRecDepth 100000 in
theorem oNew_zero {w : World} {K : Nat} {e : Ent} (h : EV w K 0 e) :
    Calls Tryz.prog 54 #[.int .i64 3, .agg #[.bool e.s, .slice e.p e.n e.c]] w fun r w' => r = .returned (.tuple #[.pointer none, .int .i64 2]) ∧ Below w.heap.size w w' := by
  have hal := bel_al (o := .cells #[.bool e.s, .slice e.p e.n e.c] 26) (Below.refl w.heap.size w)
  have h1 := h.below hal
  have hsg : isgn 0 = 0 := rfl
  have hs := Sign_ev h1
  rw [hsg] at hs
  go_enter Tryz.func54, Tryz.ntmps54
  go_wp2_with fail
  generalize w.alloc (.cells #[.bool e.s, .slice e.p e.n e.c] 26) = W at *
  go_fit hs
  rintro r w1 ⟨rfl, hb1⟩
  have HB : Hid (Below w.heap.size w w1) := bnext' hal hb1
  clear hs hb1 h1
  go_wp2
  exact bodyPost_ret (v := .tuple #[.pointer none, .int .i64 2]) (by simp [results, Tryz.results54, go_sem]) rfl ⟨rfl, HB.out⟩
set_option maxRecDepth 100000 in
theorem oSigma_q {w : World} {g : Nat} {e : Ent} {L : Nat} {q : Int} (h : RuleAt w g 3 e) (hq : EV w L q e) {K : Nat} {p : Option Addr} {n nc : Nat} {es : List Ent} {zs : List Int} (hP : PA w K p n nc es zs) (hn : n ≤ 17) (hK : K ≤ 60) (hL : L ≤ 4) (hq0 : q ≠ 0) :
    Calls Tryz.prog 63 #[.pointer (some ⟨g, 0, none⟩), .slice p n nc] w (PnP (dlz q zs) (K + L * 17 + 1) w) := by
  have hc := oAlg_any h
  have HP : Hid (PA w K p n nc es zs ∧ EV w L q e ∧ RuleAt w g 3 e) := ⟨hP, hq, h⟩
  clear hP h hq
  go_enter Tryz.func63, Tryz.ntmps63
  go_wp2_with fail
  go_fit hc
  rintro r w1 ⟨rfl, hb⟩
  clear hc
  have hr := HP.out.2.2.below hb
  have c1 := hr.c1
  have c2 := hr.c2
  have hd := dilate_any (HP.out.1.below hb) (HP.out.2.1.below hb) hn hK hL hq0
  go_wp2_with fail
  go_fit hd
  rintro r w2 ⟨p1, n1, es1, rfl, h1, hb2⟩
  have HR' : Hid (PnP (dlz q zs) (K + L * 17 + 1) w (.returned (.slice p1 n1 n1)) w2) := ⟨p1, n1, es1, rfl, h1.mono hb.size, bnext' hb hb2⟩
  clear hd h1 hb2 hr c1 c2 HP hb
  go_wp2
  go_ret
  exact HR'.out
theorem clipP_any (q : Option Addr) (m mc : Nat) (w : World) (h : m ≤ mc) (hc : mc ≤ maxLen) (hq : q = none → mc = 0) :
    Calls Tryz.prog 191 #[.slice q m mc] w fun e w' => e = .returned (.slice q m m) ∧ w = w' := by
  unfold maxLen at hc
  go_enter Tryz.func191, Tryz.ntmps191
  go_wp2
  go_ret
  exact ⟨rfl, rfl⟩
theorem derz_top (zs : List Int) : tlen (derz (tr zs)) = tlen zs - 1 := by
  have hl := length_derz (tr zs)
  rw [length_tr] at hl
  refine tlen_eq _ _ (fun j hj => gx_past _ _ (by rw [hl]; exact Nat.le_refl _) j hj) ?_
  rcases Nat.eq_zero_or_pos (tlen zs - 1) with h | h
  · exact .inl h
  · refine .inr ?_
    rw [gx_derz _ _ (by rw [length_tr]; omega), gx_tr]
    have h1 := tlen_top zs (by omega)
    have e : tlen zs - 1 - 1 + 1 = tlen zs - 1 := by omega
    rw [e]
    exact Int.mul_ne_zero (by omega) h1
set_option maxRecDepth 100000 in
theorem uDeriv_any {w : World} {K : Nat} {p : Option Addr} {n0 nc0 : Nat} {es00 : List Ent} {zs0 : List Int} (h0 : PA w K p n0 nc0 es00 zs0) (hn0 : n0 ≤ 100000) (hK : K ≤ 900) :
    Calls Tryz.prog 138 #[.slice p n0 nc0] w (PnP (derz (tr zs0)) (2 + K) w) := by
  obtain ⟨i0, hi, hzz⟩ := Option.map_eq_some_iff.1 info_api
  simp only [Prod.mk.injEq] at hzz
  obtain ⟨hz0, hz1, hz2⟩ := hzz
  have HI : Hid (Tryz.prog.info? 26 = some i0 ∧ i0.zero = some (.agg #[.bool false, .slice none 0 0]) ∧ i0.size = 2 ∧ i0.bytes = 32) := ⟨hi, hz0, hz1, hz2⟩
  have hn : tlen zs0 ≤ 100000 := by have := tlen_le zs0; have := h0.zl; omega
  go_enter Tryz.func138, Tryz.ntmps138
  go_wp2_with fail
  refine (utrim_any K p n0 nc0 es00 zs0 _ h0 (by omega)).mono ?_
  rintro e W ⟨rfl, hbW⟩
  have h := h0.trim.below hbW
  have HTP : Hid (tlen (derz (tr zs0)) = tlen zs0 - 1) := derz_top zs0
  have hel0 := h.el
  have hzl0 := h.zl
  have hvl := length_derz (tr zs0)
  have hvg := gx_derz (tr zs0)
  rw [length_tr] at hvl hvg
  generalize hvs : derz (tr zs0) = vs at *
  generalize es00.take (tlen zs0) = es0 at *
  generalize tr zs0 = zs at *
  generalize tlen zs0 = n at *
  have HX : Hid (PA W K p n n es0 zs ∧ Below w.heap.size w W ∧ tlen vs = n - 1) := ⟨h, hbW, HTP.out⟩
  have HVS : Hid ((∀ j, j < n - 1 → gx vs j = ((j : Int) + 1) * gx zs (j + 1)) ∧ vs.length = n - 1) := ⟨hvg, hvl⟩
  clear h0 h hi hz0 hz1 hz2 hvs hvg hvl hbW HTP
  go_wp2_with fail
  go_loopw [3, 4] (fun sv iv wr => ∃ (k : Nat) (es : List Ent), (k = 0 ∨ k + 1 ≤ n) ∧ iv = .int .i64 ((k + 1 : Nat) : Int) ∧ Hid (es.length = k ∧ LG W.heap.size 26 (fun wx z e => NV W.heap.size wx (2 + K) z e) wr sv es (vs.take k) ∧ Below W.heap.size W wr)) (fun _ iv _ => n - (intOf iv).toNat)
  case atStart => exact ⟨0, [], .inl rfl, by go_num, rfl, by rw [List.take_zero]; exact LG.nil _ _ _ _, Below.refl _ _⟩
  case round =>
    obtain ⟨k, es, hk, rfl, H⟩ := hrel
    generalize hK1 : k + 1 = k1 at *
    have HK : Hid (k + 1 = k1) := hK1
    have hk1 : 1 ≤ k1 := by omega
    have hk2 : k1 ≤ 100001 := by omega
    have hk3 : k ≤ 100000 := by omega
    clear hK1
    rcases Nat.lt_or_ge k1 n with hlt | hge
    · obtain ⟨hel, hLR, hB⟩ := H.out
      have hPR := HX.out.1.below hB
      obtain ⟨b, o, hp, hc⟩ := hPR.pl (by omega)
      subst hp
      obtain ⟨x0, x1⟩ := hc k1 (by omega)
      have hx := hPR.ev k1 hlt
      have i1 : (k1 : Int) < (n : Int) := by omega
      have v1 : IntKind.i64.wrap (k1 : Int) = (k1 : Int) := by rw [IntKind.wrap_i64]; omega
      have HC : Hid (W.cell? ⟨b, o + k1 * 2, none⟩ = some (.bool (ge es0 k1).s) ∧ W.cell? ⟨b, o + k1 * 2 + 1, none⟩ = some (.slice (ge es0 k1).p (ge es0 k1).n (ge es0 k1).c)) := by
        obtain ⟨b', o', hb', hc'⟩ := HX.out.1.pl (by omega)
        cases hb'
        exact hc' k1 (by omega)
      have hof := Of_e (k1 : Int) wr.drew (by omega) (by omega)
      obtain ⟨hi, hz0, hz1, hz2⟩ := HI.out
      clear hel hLR hB hc hPR
      go_upto_region 6 with fail
      go_region_held3 (fun w' => w'.cell? ⟨b, o + k1 * 2, none⟩ = some (.bool (ge es0 k1).s) ∧ w'.cell? ⟨b, o + k1 * 2 + 1, none⟩ = some (.slice (ge es0 k1).p (ge es0 k1).n (ge es0 k1).c) ∧ w'.cell? ⟨b, o + k1 * 2, none⟩ = some (.bool (ge es0 k1).s) ∧ w'.cell? ⟨b, o + k1 * 2 + 1, none⟩ = some (.slice (ge es0 k1).p (ge es0 k1).n (ge es0 k1).c)) (first | with_reducible exact ⟨x0, x1, x0, x1⟩ | with_reducible exact K3 | (refine keep4R ⟨x0, x1, x0, x1⟩ ?_; (repeat (first | (with_reducible exact hB2) | (with_reducible exact hB1) | (with_reducible exact Below.refl _ _) | (refine Bel_al ?_ (Nat.le_refl _)) | (refine Below.drew ?_))); done))
        (first
          | (go_at_call 136; go_fit hof; rintro r w1 ⟨u1, rfl, hO1, hb1⟩; have hB1 := undrew hb1; have hmu := Mul_ev (hO1.ev (by omega)) (hx.below hB1) (by omega); clear hb1)
          | (go_at_call 115; go_fit hmu; rintro r w2 ⟨u, rfl, hN0, hb2⟩; have hN1 := hN0.mono (Nat.le_trans H.out.2.2.size hB1.size); have hF1 : Go.Proofs.YtejnhpjejcpekaaGreatDoor.From wr.heap.size u.p := fun a ha => Nat.le_trans hB1.size (hN0.frm a ha); clear hN0; have hB2 := bnext' hB1 hb2; have hown0 := own_below H.out.2.1.own hB2; rw [H.out.1] at hown0; have HO : Hid (w2.ownsRow W.heap.size 26 2 u3 k (fl es)) := hown0; clear hown0; have hsz : W.heap.size ≤ w2.heap.size := Nat.le_trans H.out.2.2.size hB2.size)
          | (refine step_append_lies _ rfl _ _ 23 rfl W.heap.size 26 i0 (.agg #[.bool false, .slice none 0 0]) 2 32 Tryz.underlying23 hi hz0 hz1 hz2 rfl (by decide) u3 k (fl es) rfl (HO.out.alloc _) ⟨w2.heap.size, 0, none⟩ 1 1 [.bool u.s, .slice u.p u.n u.c] rfl rfl ?_ (fun x hx => by simp at hx; rcases hx with rfl | rfl <;> rfl) (by decide) (by unfold maxLen; omega) (by omega) (by simp; omega) _ rfl ?_; exact World.news_of_block (heap_alloc_new w2 _); intro g cap w3 hown3 hgrow3 hat3 hlt3; have hB3 : Below W.heap.size W w3 := ((bnext' H.out.2.2 hB2).alloc (by omega) _).grown hgrow3 (by simp; omega) (fun q hq => by have := (HO.out.lt q hq).1; omega); have K3 := And.intro (cell_later hB3 HC.out.1) (And.intro (cell_later hB3 HC.out.2) (And.intro (cell_later hB3 HC.out.1) (cell_later hB3 HC.out.2))); have HA : Hid (LG W.heap.size 26 (fun wx z e => NV W.heap.size wx (2 + K) z e) w3 (.slice (some ⟨g, 0, none⟩) (k + 1) cap) (es ++ [u]) (vs.take k ++ [(k1 : Int) * gx zs k1])) := LG.app (lasts_NV _ _) H.out.1 H.out.2.1 hB2 hN1 (fun h0 a ha => .inr (hF1 a ha)) hown3 hgrow3 hat3; clear hown3 hgrow3 hat3))
      all_goals
        clear hmu hof hx hN1 x0 x1
        go_wp2
        refine ⟨⟨k + 1, es ++ [u], .inr (by have := HK.out; omega), by have := HK.out; subst this; go_num, by have := H.out.1; simp; omega, ?_, hB3⟩, by simp [intOf]; omega⟩
        have hkk := HK.out
        rw [take_snocg vs k (by have := HVS.out.2; omega), HVS.out.1 k (by omega)]
        have e1 : ((k : Int) + 1) * gx zs (k + 1) = (k1 : Int) * gx zs k1 := by subst hkk; push_cast; rfl
        rw [e1]
        exact HA.out
    · obtain ⟨hel, hLR, hB⟩ := H.out
      have hvl := HVS.out.2
      have hkk := HK.out
      rw [List.take_of_length_le (by omega)] at hLR
      obtain ⟨q, cap, hv, hcap1, hcap2, hpl, hF, hq0⟩ := hLR.pl
      subst hv
      have HL : Hid (vs.length = k ∧ (∀ j, j < k → NV W.heap.size wr (2 + K) (gx vs j) (ge es j)) ∧ PL wr q es ∧ es.length = k ∧ Below W.heap.size W wr) := ⟨by rw [hLR.zl]; exact hel, by rw [← hel]; exact hLR.ev, hpl, hel, hB⟩
      rw [hel] at hcap1 ⊢
      clear H hLR hB hk hkk hpl
      go_wp2_with fail
      refine (clipP_any q k cap _ hcap1 hcap2 hq0).mono ?_
      rintro e w1 ⟨rfl, rfl⟩
      go_wp2
      go_ret
      obtain ⟨l1, l2, l3, l4, l5⟩ := HL.out
      obtain ⟨-, hbW, htv⟩ := HX.out
      exact ⟨q, k, es, rfl, ⟨l4, l1, by omega, l3, fun a ha => Nat.le_trans hbW.size (hF a ha), fun j hj => (l2 j hj).mono hbW.size⟩, bnext' hbW l5⟩
set_option maxRecDepth 100000 in
theorem oDelta_none {w : World} {g : Nat} {a : Int} {e : Ent} (h : RuleAt w g a e) (ha : a ≠ 2) (p : Option Addr) (n nc : Nat) (K : Nat) :
    Calls Tryz.prog 64 #[.pointer (some ⟨g, 0, none⟩), .slice p n nc] w (PnP [] K w) := by
  have hc := oAlg_any h
  have h1 : (a == 2) = false := by rw [beq_eq_false_iff_ne]; exact ha
  have h2 : ¬ a = 2 := ha
  clear h ha
  go_enter Tryz.func64, Tryz.ntmps64
  go_wp2_with fail
  go_fit hc
  rintro r w1 ⟨rfl, hb⟩
  clear hc
  go_wp2
  go_ret
  exact ⟨none, 0, [], rfl, pn_nil _ _ _, hb⟩
set_option maxRecDepth 100000 in
theorem oDelta_diff {w : World} {g : Nat} {e : Ent} (h : RuleAt w g 2 e) {K : Nat} {p : Option Addr} {n nc : Nat} {es : List Ent} {zs : List Int} (hP : PA w K p n nc es zs) (hn : n ≤ 1000) (hK : K ≤ 60) :
    Calls Tryz.prog 64 #[.pointer (some ⟨g, 0, none⟩), .slice p n nc] w (PnP (derz (tr zs)) (2 + K) w) := by
  have hc := oAlg_any h
  clear h
  go_enter Tryz.func64, Tryz.ntmps64
  go_wp2_with fail
  go_fit hc
  rintro r w1 ⟨rfl, hb⟩
  have hd := uDeriv_any (hP.below hb) (by omega) (by omega)
  clear hc
  go_wp2_with fail
  go_fit hd
  rintro r w2 ⟨p1, n1, es1, rfl, h1, hb2⟩
  have HR' : Hid (PnP (derz (tr zs)) (2 + K) w (.returned (.slice p1 n1 n1)) w2) := ⟨p1, n1, es1, rfl, h1.mono hb.size, bnext' hb hb2⟩
  clear hd h1 hb2
  go_wp2
  go_ret
  exact HR'.out
set_option maxRecDepth 100000 in
theorem each_row (K : Nat) (p : Option Addr) (n nc : Nat) (es : List Ent) (zs : List Int) (w : World) (h : PA w K p n nc es zs) (hn : n ≤ 1000000) (J : Nat) (C : Array Value) (hE : ∀ args w', Sem.run Tryz.prog (callFunc J args) w' = .ok (.enter J args) w')
    (O : World → Int → Ent → Prop) (φ : Int → Int) (hOb : ∀ w w' z e, O w z e → Below w.heap.size w w' → O w' z e) (hOs : ∀ w z e g o u v, O w z e → (0 < e.n → Off g e.p) → O ((w.setCell ⟨g, o, none⟩ u).setCell ⟨g, o + 1, none⟩ v) z e)
    (hJ : ∀ w' z e, Below w.heap.size w w' → EV w' K z e → Calls Tryz.prog J (#[.agg #[.bool e.s, .slice e.p e.n e.c]] ++ C) w' fun r w'' => ∃ f : Ent, r = .returned (.agg #[.bool f.s, .slice f.p f.n f.c]) ∧ O w'' (φ z) f ∧ (0 < f.n → f.p = e.p ∧ f.n ≤ e.n ∨ Go.Proofs.YtejnhpjejcpekaaGreatDoor.From w'.heap.size f.p) ∧ Below w'.heap.size w' w'') :
    Calls Tryz.prog 106 #[.slice p n nc, .func (.func J) #[] C] w fun r w' => ∃ q fs, r = .returned (.slice q n n) ∧ fs.length = n ∧ PL w' q fs ∧ Go.Proofs.YtejnhpjejcpekaaGreatDoor.From w.heap.size q ∧ (∀ j, j < n → O w' (φ (gx zs j)) (ge fs j)) ∧ Below w.heap.size w w' ∧ q = some ⟨w.heap.size, 0, none⟩ ∧ Row2 w' w.heap.size 26 fs ∧ (∀ j, j < n → 0 < (ge fs j).n → Off w.heap.size (ge fs j).p) := by
  have hmk := mk_poly n (by omega)
  have hle := h.el
  have HOb := (show Hid _ from hOb)
  have HOs := (show Hid _ from hOs)
  have HJ := (show Hid _ from hJ)
  clear hOb hOs hJ
  go_enter Tryz.func106, Tryz.ntmps106
  go_wp2_with fail
  have hR0 := Row2.new w 26 (ezs n)
  have hW0 : Below w.heap.size w (w.alloc (.cells (ca2 (ezs n)) 26)) := (Below.refl _ _).alloc (Nat.le_refl _) _
  have hs0 : w.heap.size + 1 ≤ (w.alloc (.cells (ca2 (ezs n)) 26)).heap.size := by simp
  generalize w.alloc (.cells (ca2 (ezs n)) 26) = W0 at *
  clear hmk
  go_loopw [6, 7, 13] (fun iv cv kv wr => ∃ k : Nat, k ≤ n ∧ kv = .int .i64 k ∧ Hid (EaI O φ w.heap.size n k zs W0 wr)) (fun _ _ kv _ => n - (intOf kv).toNat)
  case atStart => exact ⟨0, Nat.zero_le _, by go_num, ezs n, hR0, length_ezs n, fun j hj => by omega, Below.refl _ _⟩
  case round =>
    obtain ⟨k, hk, rfl, H⟩ := hrel
    rcases Nat.lt_or_ge k n with hlt | hge
    · obtain ⟨es', hR, hel, hev, hB⟩ := H.out
      have hBw : Below w.heap.size w wr := hW0.trans hB
      have hPA := h.below hBw
      obtain ⟨b, o, hp, hc⟩ := hPA.pl (by omega)
      subst hp
      obtain ⟨c0, c1⟩ := hc k (by omega)
      have hv := hPA.ev k hlt
      have HH : Hid (EaI O φ w.heap.size n k zs W0 wr) := H.out
      clear H hR hel hev hB hc hPA
      go_wp2_with fail
      have hal := bel_al (o := .cells #[.bool (ge es k).s, .slice (ge es k).p (ge es k).n (ge es k).c] 26) (Below.refl wr.heap.size wr)
      refine (HJ.out _ (gx zs k) (ge es k) (bnext hBw (Nat.le_refl _) hal) (hv.below hal)).mono ?_
      rintro e w1 ⟨f, rfl, hO, hF, hb1⟩
      have hb2 := bnext' hal hb1
      obtain ⟨es', hR, hel, hev, hB⟩ := HH.out
      have hR1 := hR.below hb2 hR.lt
      obtain ⟨d0, d1⟩ := hR1.cell k (by omega)
      have f0 := hR1.frozen (k * 2)
      have f1 := hR1.frozen (k * 2 + 1)
      have hoff : Hid (0 < f.n → Off w.heap.size f.p) := fun h0 => by
        rcases hF h0 with ⟨e1, e2⟩ | e1
        · rw [e1]
          obtain ⟨xs, k1, -⟩ := h.ev k hlt
          exact k1.rd.off (Nat.le_refl _) (by rw [k1.len]; omega)
        · have hs1 := hB.size
          have hs2 := hal.size
          exact off_from e1 (by omega)
      have HI : Hid (O w1 (φ (gx zs k)) f ∧ Row2 w1 w.heap.size 26 es' ∧ es'.length = n ∧ (∀ j, j < k → O w1 (φ (gx zs j)) (ge es' j) ∧ (0 < (ge es' j).n → Off w.heap.size (ge es' j).p)) ∧ Below w.heap.size W0 w1) := ⟨hO, hR1, hel, fun j hj => ⟨HOb.out _ _ _ _ (hev j hj).1 hb2, (hev j hj).2⟩, hB.trans (hb2.mono (by have := hBw.size; omega))⟩
      clear hO hF hb1 hb2 hR hel hev hB hR1 hal hv c0 c1 HH
      go_wp2
      go_roundw
      case rel =>
        obtain ⟨hO, hR, hel, hev, hB⟩ := HI.out
        refine ⟨k + 1, by omega, by go_num, es'.set k f, hR.set k f (by omega), by simpa using hel, fun j hj => ?_, ?_⟩
        · rcases Nat.lt_or_ge j k with h' | h'
          · rw [ge_set_other _ _ _ _ (by omega)]
            exact ⟨HOs.out _ _ _ _ _ _ _ (hev j h').1 (hev j h').2, (hev j h').2⟩
          · obtain rfl : j = k := by omega
            rw [ge_set_same _ _ _ (by omega)]
            exact ⟨HOs.out _ _ _ _ _ _ _ hO hoff.out, hoff.out⟩
        · exact (hB.setCell (p := ⟨w.heap.size, k * 2, none⟩) (Nat.le_refl _) _).setCell (p := ⟨w.heap.size, k * 2 + 1, none⟩) (Nat.le_refl _) _
      case measure => simp [intOf]; omega
    · obtain rfl : k = n := by omega
      obtain ⟨es', hR, hel, hev, hB⟩ := H.out
      have HI : Hid (Row2 wr w.heap.size 26 es' ∧ es'.length = k ∧ (∀ j, j < k → O wr (φ (gx zs j)) (ge es' j) ∧ (0 < (ge es' j).n → Off w.heap.size (ge es' j).p)) ∧ Below w.heap.size w wr) := ⟨hR, hel, hev, hW0.trans hB⟩
      clear H hR hel hev hB hge hk
      go_wp2
      go_ret
      obtain ⟨hR, hel, hev, hB⟩ := HI.out
      exact ⟨_, es', rfl, hel, hR.pl, fun a ha => by cases ha; exact Nat.le_refl _, fun j hj => (hev j hj).1, hB, rfl, hR, fun j hj => (hev j hj).2⟩
set_option maxRecDepth 100000 in
theorem uNorm_row (K : Nat) (p : Option Addr) (n nc : Nat) (es : List Ent) (zs : List Int) (w : World) (h : PA w K p n nc es zs) (hn : n ≤ 1000000) (hK : K ≤ 1000) :
    Calls Tryz.prog 48 #[.slice p n nc] w fun r w' => ∃ (g : Nat) (fs : List Ent), r = .returned (.slice (some ⟨g, 0, none⟩) (tlen zs) (tlen zs)) ∧ w.heap.size ≤ g ∧ Row2 w' g 26 fs ∧ fs.length = tlen zs ∧ (∀ j, j < tlen zs → NV w.heap.size w' K (gx (tr zs) j) (ge fs j) ∧ (0 < (ge fs j).n → Off g (ge fs j).p)) ∧ Below w.heap.size w w' := by
  have htl := tlen_le zs
  have hzl := h.zl
  go_enter Tryz.func48, Tryz.ntmps48
  go_wp2_with fail
  refine (utrim_any K p n nc es zs _ h hn).mono ?_
  rintro e w1 ⟨rfl, hb1⟩
  have h1 := (h.below hb1).trim
  have he := each_row K _ _ _ _ _ w1 h1 (by omega) 108 #[] callOwn (fun w z e => NV w1.heap.size w K z e) id (fun _ _ _ _ h hb => h.below hb) (fun _ _ _ _ _ _ _ h ho => h.set2o ho) (fun w' z e hb hv => (own_any hv hK).mono fun r w'' ⟨f, a, b, c⟩ => ⟨f, a, b.mono hb.size, fun _ => .inr (by obtain ⟨xs, k, -⟩ := b; exact k.fr), c⟩)
  go_wp2_with fail
  refine he.mono ?_
  rintro e w2 ⟨q, fs, rfl, k1, k2, k3, k4, hb2, rfl, k5, k6⟩
  clear he
  go_wp2
  go_ret
  have hs := hb1.size
  exact ⟨w1.heap.size, fs, rfl, hs, k5, k1, fun j hj => ⟨(k4 j hj).mono hs, k6 j hj⟩, bnext' hb1 hb2⟩
theorem EV.offm {w : World} {K : Nat} {z : Int} {e : Ent} (h : EV w K z e) {g : Nat} (hg : w.heap.size ≤ g) : 0 < e.n → Off g e.p := fun h0 a ha k => by
  obtain ⟨xs, h1, h2, h3⟩ := h
  obtain ⟨b, o, hp, hlt⟩ := h1.rd.lt (by rw [h1.len]; exact h0)
  rw [hp] at ha
  cases ha
  dsimp only at k
  omega
end Go.Proofs.YtejnhpjejcpekaaGreatDoor
