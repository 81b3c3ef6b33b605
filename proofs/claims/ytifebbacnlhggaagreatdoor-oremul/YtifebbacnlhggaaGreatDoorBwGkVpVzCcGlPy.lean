/-
  ore.own, New; a rule's Algebra and Q.
-/
import Derived.Test.YtifebbacnlhggaaGreatDoorLnWrIbWgUeUfUg
import Derived.Test.YtifebbacnlhggaaGreatDoorWlBxBbCvNjUbUcUdOwRaWmBeRd
import Derived.Deep.DeepFit
import Derived.Test.YtifebbacnlhggaaGreatDoorFw
import Derived.Test.YtifebbacnlhggaaGreatDoorRpDkDlDbRiRjRg
import Derived.Test.YtifebbacnlhggaaGreatDoorRoVbDaCxRbCyVi
import Derived.Test.YtifebbacnlhggaaGreatDoorDdDvPmHuVy
import Derived.Test.YtifebbacnlhggaaGreatDoorUlUmVsUoDmVt
import Derived.Test.YtifebbacnlhggaaGreatDoorVqDcUj
import Derived.Test.YtifebbacnlhggaaGreatDoorFpCdDeGaGbKpGcGdGeQaQbQcQdQgQhGfGgUnWfUuByUxUtUvUwUyUzUrUsHaHbHcHeVv
import Derived.Test.YtifebbacnlhggaaGreatDoorEqFy
import Derived.Test.YtifebbacnlhggaaGreatDoorRkUi
import Derived.Test.YtifebbacnlhggaaGreatDoorRtDhVeRsVfVcAjDqDrBmBqDuAkBrAlAp
namespace Go.Proofs.YtifebbacnlhggaaGreatDoor
open Go.RowKit
set_option linter.unusedVariables false
set_option linter.unusedSimpArgs false
set_option maxHeartbeats 8000000
set_option maxRecDepth 100000 in
theorem oown_any {w : World} {K : Nat} {z : Int} {e : Ent} (h : EV w K z e) (hK : K ≤ 1000) :
    Calls Tryz.prog 46 #[.agg #[.bool e.s, .slice e.p e.n e.c]] w fun r w' => ∃ f : Ent, r = .returned (.agg #[.bool f.s, .slice f.p f.n f.c]) ∧ NV w.heap.size w' K z f ∧ Below w.heap.size w w' := by
  obtain ⟨xs, h1, h2, h3⟩ := h
  obtain ⟨es, ep, en, ec⟩ := e
  simp only at h1 h2 h3 ⊢
  have HV : Hid (ival es xs = z) := h2
  clear h2
  go_enter Tryz.func46, Tryz.ntmps46
  go_wp2_with fail
  have hR0 : Bx ((w.alloc (.cells #[.bool es, .slice ep en ec] 24)).alloc (.cells #[.bool false, .slice none 0 0] 24)) (w.heap.size + 1) (.bool false) (.slice none 0 0) := Bx.new _ _ _ (by simp)
  have hW0 : Below w.heap.size w ((w.alloc (.cells #[.bool es, .slice ep en ec] 24)).alloc (.cells #[.bool false, .slice none 0 0] 24)) := ((Below.refl _ _).alloc (Nat.le_refl _) _).alloc (by simp) _
  generalize (w.alloc (.cells #[.bool es, .slice ep en ec] 24)).alloc (.cells #[.bool false, .slice none 0 0] 24) = W0 at *
  have hz : AI W0 none 0 0 [] := ⟨rfl, Nat.le_refl _, Nat.zero_le _, Nat.zero_le _, Rd.nil, fun j => by simp [gx]⟩
  refine (Add_any es false ep none en ec 0 0 xs [] _ (h1.below hW0) hz).mono ?_
  rintro e w1 ⟨s1, p1, n1, x1, rfl, hN1, hn1, hb1⟩
  have hv : ival es xs + ival false [] = z := by rw [HV.out]; simp [ival, val]
  rw [hv] at hN1
  have hle : n1 ≤ K := hN1.le (by have h5 := h1.lt es; rw [HV.out] at h5; have := pw_mono h3; omega)
  have HN : Hid (NI W0.heap.size w1 s1 p1 n1 x1 z) := hN1
  have sR : w.heap.size + 1 < W0.heap.size := block_lt_of_cell hR0.c0
  obtain ⟨r0, r1, f0, f1⟩ := hR0.later hb1
  clear hv hN1 hz
  go_wp2
  refine bodyPost_ret (v := .agg #[.bool s1, .slice p1 n1 n1]) (by simp [results, Tryz.results46, go_sem, r0, r1]) rfl ⟨⟨s1, p1, n1, n1⟩, rfl, ⟨x1, ?_, rfl, hle⟩, ?_⟩
  · exact ((HN.out.set (a := ⟨w.heap.size + 1, 0, none⟩) sR _).set (a := ⟨w.heap.size + 1, 1, none⟩) sR _).mono hW0.size
  · exact bset2 (bnext' hW0 hb1) (by omega) _ _
def RuleAt (w : World) (g : Nat) (a : Int) (e : Ent) : Prop := w.heap[g]? = some (.cells #[.int .i64 a, .bool e.s, .slice e.p e.n e.c] 85 (0, 0))
theorem RuleAt.lt {w : World} {g : Nat} {a : Int} {e : Ent} (h : RuleAt w g a e) : g < w.heap.size := (Array.getElem?_eq_some_iff.1 h).1
theorem RuleAt.below {w w' : World} {g : Nat} {a : Int} {e : Ent} (h : RuleAt w g a e) (hb : Below w.heap.size w w') : RuleAt w' g a e := (hb.block g h.lt).trans h
theorem RuleAt.c0 {w : World} {g : Nat} {a : Int} {e : Ent} (h : RuleAt w g a e) : w.cell? ⟨g, 0, none⟩ = some (.int .i64 a) := by simp only [World.cell?]; rw [h]; rfl
theorem RuleAt.c1 {w : World} {g : Nat} {a : Int} {e : Ent} (h : RuleAt w g a e) : w.cell? ⟨g, 1, none⟩ = some (.bool e.s) := by simp only [World.cell?]; rw [h]; rfl
theorem RuleAt.c2 {w : World} {g : Nat} {a : Int} {e : Ent} (h : RuleAt w g a e) : w.cell? ⟨g, 2, none⟩ = some (.slice e.p e.n e.c) := by simp only [World.cell?]; rw [h]; rfl
set_option maxRecDepth 100000 in
theorem oNew_none (w : World) (a : Int) (e : Ent) (h : a < 1 ∨ 3 < a) (ha : -9223372036854775808 ≤ a ∧ a ≤ 9223372036854775807) :
    Calls Tryz.prog 12 #[.int .i64 a, .agg #[.bool e.s, .slice e.p e.n e.c]] w fun r w' => r = .returned (.tuple #[.pointer none, .int .i64 10]) ∧ Below w.heap.size w w' := by
  have h1 : (a == 1) = false := by rw [beq_eq_false_iff_ne]; omega
  have h2 : (a == 2) = false := by rw [beq_eq_false_iff_ne]; omega
  have h3 : (a == 3) = false := by rw [beq_eq_false_iff_ne]; omega
  have g1 : ¬ a = 1 := by omega
  have g2 : ¬ a = 2 := by omega
  have g3 : ¬ a = 3 := by omega
  go_enter Tryz.func12, Tryz.ntmps12
  go_wp2
  exact bodyPost_ret (v := .tuple #[.pointer none, .int .i64 10]) (by simp [results, Tryz.results12, go_sem]) rfl ⟨rfl, (Below.refl _ _).alloc (Nat.le_refl _) _⟩
def e00 : Ent := ⟨false, none, 0, 0⟩
set_option maxRecDepth 100000 in
theorem oNew_plain (w : World) (a : Int) (e : Ent) (h : a = 1 ∨ a = 2) :
    Calls Tryz.prog 12 #[.int .i64 a, .agg #[.bool e.s, .slice e.p e.n e.c]] w fun r w' => ∃ g, r = .returned (.tuple #[.pointer (some ⟨g, 0, none⟩), .int .i64 0]) ∧ RuleAt w' g a e00 ∧ w.heap.size ≤ g ∧ Below w.heap.size w w' := by
  rcases h with rfl | rfl
  · have hR : RuleAt ((w.alloc (.cells #[.bool e.s, .slice e.p e.n e.c] 24)).alloc (.cells #[.int .i64 1, .bool false, .slice none 0 0] 85)) (w.heap.size + 1) 1 e00 := by
      have := heap_alloc_new (w.alloc (.cells #[.bool e.s, .slice e.p e.n e.c] 24)) (.cells #[.int .i64 1, .bool false, .slice none 0 0] 85)
      simpa [RuleAt, e00] using this
    have HR' := (show Hid (RuleAt _ _ _ _) from hR)
    clear hR
    go_enter Tryz.func12, Tryz.ntmps12
    go_wp2
    exact bodyPost_ret (v := .tuple #[.pointer (some ⟨w.heap.size + 1, 0, none⟩), .int .i64 0]) (by simp [results, Tryz.results12, go_sem]) rfl ⟨w.heap.size + 1, rfl, HR'.out, by omega, ((Below.refl _ _).alloc (Nat.le_refl _) _).alloc (by simp) _⟩
  · have hR : RuleAt ((w.alloc (.cells #[.bool e.s, .slice e.p e.n e.c] 24)).alloc (.cells #[.int .i64 2, .bool false, .slice none 0 0] 85)) (w.heap.size + 1) 2 e00 := by
      have := heap_alloc_new (w.alloc (.cells #[.bool e.s, .slice e.p e.n e.c] 24)) (.cells #[.int .i64 2, .bool false, .slice none 0 0] 85)
      simpa [RuleAt, e00] using this
    have HR' := (show Hid (RuleAt _ _ _ _) from hR)
    clear hR
    go_enter Tryz.func12, Tryz.ntmps12
    go_wp2
    exact bodyPost_ret (v := .tuple #[.pointer (some ⟨w.heap.size + 1, 0, none⟩), .int .i64 0]) (by simp [results, Tryz.results12, go_sem]) rfl ⟨w.heap.size + 1, rfl, HR'.out, by omega, ((Below.refl _ _).alloc (Nat.le_refl _) _).alloc (by simp) _⟩
set_option maxRecDepth 100000 in
theorem oAlg_any {w : World} {g : Nat} {a : Int} {e : Ent} (h : RuleAt w g a e) :
    Calls Tryz.prog 21 #[.pointer (some ⟨g, 0, none⟩)] w fun r w' => r = .returned (.int .i64 a) ∧ Below w.heap.size w w' := by
  have c0 := h.c0
  clear h
  go_enter Tryz.func21, Tryz.ntmps21
  go_wp2
  go_ret
  exact ⟨rfl, Below.refl _ _⟩
set_option maxRecDepth 100000 in
theorem oNew_q {w : World} {K : Nat} {z : Int} {e : Ent} (h : EV w K z e) (hK : K ≤ 1000) (hz : z ≠ 0) :
    Calls Tryz.prog 12 #[.int .i64 3, .agg #[.bool e.s, .slice e.p e.n e.c]] w fun r w' => ∃ g f, r = .returned (.tuple #[.pointer (some ⟨g, 0, none⟩), .int .i64 0]) ∧ RuleAt w' g 3 f ∧ NV w.heap.size w' K z f ∧ w.heap.size ≤ g ∧ Below w.heap.size w w' := by
  have hal := bel_al (o := .cells #[.bool e.s, .slice e.p e.n e.c] 24) (Below.refl w.heap.size w)
  have h1 := h.below hal
  have hX : Bx (w.alloc (.cells #[.bool e.s, .slice e.p e.n e.c] 24)) w.heap.size (.bool e.s) (.slice e.p e.n e.c) := Bx.new _ _ _ rfl
  have g1 : (isgn z == 0) = false := by rw [beq_eq_false_iff_ne]; unfold isgn; split <;> (try split) <;> omega
  have g2 : ¬ isgn z = 0 := by unfold isgn; split <;> (try split) <;> omega
  go_enter Tryz.func12, Tryz.ntmps12
  go_wp2_with fail
  generalize w.alloc (.cells #[.bool e.s, .slice e.p e.n e.c] 24) = W at *
  go_fit (Sign_ev h1)
  rintro r w1 ⟨rfl, hb1⟩
  have h2 := h1.below hb1
  have hB1 := bnext' hal hb1
  obtain ⟨c0, c1, -, -⟩ := hX.later hb1
  generalize isgn z = sg at *
  go_wp2_with fail
  go_fit (oown_any h2 hK)
  rintro r w2 ⟨f, rfl, hN, hb2⟩
  have hR : RuleAt (w2.alloc (.cells #[.int .i64 3, .bool f.s, .slice f.p f.n f.c] 85)) w2.heap.size 3 f := heap_alloc_new w2 _
  have hB2 := bnext' hB1 hb2
  have HR' : Hid (RuleAt (w2.alloc (.cells #[.int .i64 3, .bool f.s, .slice f.p f.n f.c] 85)) w2.heap.size 3 f ∧ NV w.heap.size (w2.alloc (.cells #[.int .i64 3, .bool f.s, .slice f.p f.n f.c] 85)) K z f ∧ w.heap.size ≤ w2.heap.size ∧ Below w.heap.size w (w2.alloc (.cells #[.int .i64 3, .bool f.s, .slice f.p f.n f.c] 85))) := ⟨hR, (hN.below (bel_al (Below.refl _ _))).mono hB1.size, hB2.size, bel_al hB2⟩
  clear hR hN hb2 hB1 hb1 hX h1 h2 c0 c1 hB2
  go_wp2
  exact bodyPost_ret (v := .tuple #[.pointer (some ⟨w2.heap.size, 0, none⟩), .int .i64 0]) (by simp [results, Tryz.results12, go_sem]) rfl ⟨w2.heap.size, f, rfl, HR'.out⟩
set_option maxRecDepth 100000 in
theorem oNew_zero {w : World} {K : Nat} {e : Ent} (h : EV w K 0 e) :
    Calls Tryz.prog 12 #[.int .i64 3, .agg #[.bool e.s, .slice e.p e.n e.c]] w fun r w' => r = .returned (.tuple #[.pointer none, .int .i64 2]) ∧ Below w.heap.size w w' := by
  have hal := bel_al (o := .cells #[.bool e.s, .slice e.p e.n e.c] 24) (Below.refl w.heap.size w)
  have h1 := h.below hal
  have hsg : isgn 0 = 0 := rfl
  have hs := Sign_ev h1
  rw [hsg] at hs
  go_enter Tryz.func12, Tryz.ntmps12
  go_wp2_with fail
  generalize w.alloc (.cells #[.bool e.s, .slice e.p e.n e.c] 24) = W at *
  go_fit hs
  rintro r w1 ⟨rfl, hb1⟩
  have HB : Hid (Below w.heap.size w w1) := bnext' hal hb1
  clear hs hb1 h1
  go_wp2
  exact bodyPost_ret (v := .tuple #[.pointer none, .int .i64 2]) (by simp [results, Tryz.results12, go_sem]) rfl ⟨rfl, HB.out⟩
set_option maxRecDepth 100000 in
theorem oSigma_q {w : World} {g : Nat} {e : Ent} {L : Nat} {q : Int} (h : RuleAt w g 3 e) (hq : EV w L q e) {K : Nat} {p : Option Addr} {n nc : Nat} {es : List Ent} {zs : List Int} (hP : PA w K p n nc es zs) (hn : n ≤ 17) (hK : K ≤ 60) (hL : L ≤ 4) (hq0 : q ≠ 0) :
    Calls Tryz.prog 16 #[.pointer (some ⟨g, 0, none⟩), .slice p n nc] w (PnP (dlz q zs) (K + L * 17 + 1) w) := by
  have hc := oAlg_any h
  have HP : Hid (PA w K p n nc es zs ∧ EV w L q e ∧ RuleAt w g 3 e) := ⟨hP, hq, h⟩
  clear hP h hq
  go_enter Tryz.func16, Tryz.ntmps16
  go_wp2_with fail
  go_fit hc
  rintro r w1 ⟨rfl, hb⟩
  clear hc
  have hr := HP.out.2.2.below hb
  have c1 := hr.c1
  have c2 := hr.c2
  have hd := dilate_any (HP.out.1.below hb) (HP.out.2.1.below hb) hn hK hL hq0
  go_wp2_with fail
  go_fit hd
  rintro r w2 ⟨p1, n1, es1, rfl, h1, hb2⟩
  have HR' : Hid (PnP (dlz q zs) (K + L * 17 + 1) w (.returned (.slice p1 n1 n1)) w2) := ⟨p1, n1, es1, rfl, h1.mono hb.size, bnext' hb hb2⟩
  clear hd h1 hb2 hr c1 c2 HP hb
  go_wp2
  go_ret
  exact HR'.out
set_option maxRecDepth 100000 in
theorem rpDeriv_any {w : World} {N : Nat} {p : Option Addr} {n nc : Nat} {es0 : List Ent} {zs : List Int} (h : PR w N p n nc es0 zs) (hn : n ≤ 100000) (hN : N ≤ 400) :
    Calls Tryz.prog 56 #[.slice p n nc] w (PrP (tr (derz zs)) (4 + N + 1) w) := by
  obtain ⟨i0, hi, hzz⟩ := Option.map_eq_some_iff.1 info_ref
  simp only [Prod.mk.injEq] at hzz
  obtain ⟨hz0, hz1, hz2⟩ := hzz
  have HI : Hid (Tryz.prog.info? 30 = some i0 ∧ i0.zero = some (.agg #[.bool false, .slice none 0 0]) ∧ i0.size = 2 ∧ i0.bytes = 32) := ⟨hi, hz0, hz1, hz2⟩
  have HX : Hid (PR w N p n nc es0 zs) := h
  have hel0 := h.el
  have hzl0 := h.zl
  have hvl := length_derz zs
  have hvg := gx_derz zs
  rw [hzl0] at hvl hvg
  generalize hvs : derz zs = vs at *
  have HVS : Hid ((∀ j, j < n - 1 → gx vs j = ((j : Int) + 1) * gx zs (j + 1)) ∧ vs.length = n - 1) := ⟨hvg, hvl⟩
  clear h hi hz0 hz1 hz2 hvs hvg hvl
  go_enter Tryz.func56, Tryz.ntmps56
  go_wp2_with fail
  go_loopw [3, 4] (fun sv iv wr => ∃ (k : Nat) (es : List Ent), (k = 0 ∨ k + 1 ≤ n) ∧ iv = .int .i64 ((k + 1 : Nat) : Int) ∧ Hid (es.length = k ∧ LG w.heap.size 30 (fun w z e => RE w (4 + N + 1) z e) wr sv es (vs.take k) ∧ Below w.heap.size w wr)) (fun _ iv _ => n - (intOf iv).toNat)
  case atStart => exact ⟨0, [], .inl rfl, by go_num, rfl, by rw [List.take_zero]; exact LG.nil _ _ _ _, Below.refl _ _⟩
  case round =>
    obtain ⟨k, es, hk, rfl, H⟩ := hrel
    generalize hK1 : k + 1 = k1 at *
    have HK : Hid (k + 1 = k1) := hK1
    have hk1 : 1 ≤ k1 := by omega
    have hk2 : k1 ≤ 100001 := by omega
    have hk3 : k ≤ 100000 := by omega
    clear hK1
    rcases Nat.lt_or_ge k1 n with hlt | hge
    · obtain ⟨hel, hLR, hB⟩ := H.out
      have hPR := HX.out.below hB
      obtain ⟨b, o, hp, hc⟩ := hPR.pl (by omega)
      subst hp
      obtain ⟨x0, x1⟩ := hc k1 (by omega)
      have hx := hPR.ev k1 hlt
      have i1 : (k1 : Int) < (n : Int) := by omega
      have v1 : IntKind.i64.wrap (k1 : Int) = (k1 : Int) := by rw [IntKind.wrap_i64]; omega
      have HC : Hid (w.cell? ⟨b, o + k1 * 2, none⟩ = some (.bool (ge es0 k1).s) ∧ w.cell? ⟨b, o + k1 * 2 + 1, none⟩ = some (.slice (ge es0 k1).p (ge es0 k1).n (ge es0 k1).c)) := by
        obtain ⟨b', o', hb', hc'⟩ := HX.out.pl (by omega)
        cases hb'
        exact hc' k1 (by omega)
      have hof := rOf_e (k1 : Int) wr.drew (by omega) (by omega)
      obtain ⟨hi, hz0, hz1, hz2⟩ := HI.out
      clear hel hLR hB hc hPR
      go_upto_region 5 with fail
      go_region_held3 (fun w' => w'.cell? ⟨b, o + k1 * 2, none⟩ = some (.bool (ge es0 k1).s) ∧ w'.cell? ⟨b, o + k1 * 2 + 1, none⟩ = some (.slice (ge es0 k1).p (ge es0 k1).n (ge es0 k1).c) ∧ w'.cell? ⟨b, o + k1 * 2, none⟩ = some (.bool (ge es0 k1).s) ∧ w'.cell? ⟨b, o + k1 * 2 + 1, none⟩ = some (.slice (ge es0 k1).p (ge es0 k1).n (ge es0 k1).c)) (first | with_reducible exact ⟨x0, x1, x0, x1⟩ | with_reducible exact K3 | (refine keep4R ⟨x0, x1, x0, x1⟩ ?_; (repeat (first | (with_reducible exact hB2) | (with_reducible exact hB1) | (with_reducible exact Below.refl _ _) | (refine Bel_al ?_ (Nat.le_refl _)) | (refine Below.drew ?_))); done))
        (first
          | (go_at_call 52; go_fit hof; rintro r w1 ⟨u1, rfl, hO1, hG1, hb1⟩; have hB1 := undrew hb1; have hmu := rMul_e hO1 (hx.below hB1) (by omega) (by omega); clear hb1 hG1)
          | (go_at_call 107; go_fit hmu; rintro r w2 ⟨u, rfl, hN1, hF1', hb2⟩; have hF1 : Go.Proofs.YtifebbacnlhggaaGreatDoor.From wr.heap.size u.p := fun a ha => Nat.le_trans hB1.size (hF1' a ha); clear hF1'; have hB2 := bnext' hB1 hb2; have hown0 := own_below H.out.2.1.own hB2; rw [H.out.1] at hown0; have HO : Hid (w2.ownsRow w.heap.size 30 2 u3 k (fl es)) := hown0; clear hown0; have hsz : w.heap.size ≤ w2.heap.size := Nat.le_trans H.out.2.2.size hB2.size)
          | (refine step_append_lies _ rfl _ _ 44 rfl w.heap.size 30 i0 (.agg #[.bool false, .slice none 0 0]) 2 32 Tryz.underlying44 hi hz0 hz1 hz2 rfl (by decide) u3 k (fl es) rfl (HO.out.alloc _) ⟨w2.heap.size, 0, none⟩ 1 1 [.bool u.s, .slice u.p u.n u.c] rfl rfl ?_ (fun x hx => by simp at hx; rcases hx with rfl | rfl <;> rfl) (by decide) (by unfold maxLen; omega) (by omega) (by simp; omega) _ rfl ?_; exact World.news_of_block (heap_alloc_new w2 _); intro g cap w3 hown3 hgrow3 hat3 hlt3; have hB3 : Below w.heap.size w w3 := ((bnext' H.out.2.2 hB2).alloc (by omega) _).grown hgrow3 (by simp; omega) (fun q hq => by have := (HO.out.lt q hq).1; omega); have K3 := And.intro (cell_later hB3 HC.out.1) (And.intro (cell_later hB3 HC.out.2) (And.intro (cell_later hB3 HC.out.1) (cell_later hB3 HC.out.2))); have HA : Hid (LG w.heap.size 30 (fun w z e => RE w (4 + N + 1) z e) w3 (.slice (some ⟨g, 0, none⟩) (k + 1) cap) (es ++ [u]) (vs.take k ++ [(k1 : Int) * gx zs k1])) := LG.app (lasts_RE _) H.out.1 H.out.2.1 hB2 hN1 (fun h0 a ha => .inr (hF1 a ha)) hown3 hgrow3 hat3; clear hown3 hgrow3 hat3))
      all_goals
        clear hmu hof hx hN1 x0 x1
        go_wp2
        refine ⟨⟨k + 1, es ++ [u], .inr (by have := HK.out; omega), by have := HK.out; subst this; go_num, by have := H.out.1; simp; omega, ?_, hB3⟩, by simp [intOf]; omega⟩
        have hkk := HK.out
        rw [take_snocg vs k (by have := HVS.out.2; omega), HVS.out.1 k (by omega)]
        have e1 : ((k : Int) + 1) * gx zs (k + 1) = (k1 : Int) * gx zs k1 := by subst hkk; push_cast; rfl
        rw [e1]
        exact HA.out
    · obtain ⟨hel, hLR, hB⟩ := H.out
      have hvl := HVS.out.2
      have hkk := HK.out
      rw [List.take_of_length_le (by omega)] at hLR
      obtain ⟨q, cap, hv, hPR, hF⟩ := hLR.pr
      subst hv
      rw [hel] at hPR ⊢
      have HB : Hid (Below w.heap.size w wr) := hB
      clear H hLR hB hk hkk
      go_wp2_with fail
      refine (rTrim_any (4 + N + 1) q k cap es vs _ hPR (by omega)).mono ?_
      rintro e w1 ⟨rfl, hb1⟩
      have HP : Hid (PR wr (4 + N + 1) q k cap es vs) := hPR
      clear hPR
      go_wp2
      go_ret
      have htl := tlen_le vs
      have hcap := HP.out.cap
      have hvk := HP.out.zl
      have hT := (HP.out.below hb1).take (tlen vs) (tlen vs) (by omega) (Nat.le_refl _) (by omega)
      exact ⟨q, tlen vs, es.take (tlen vs), rfl, hT, hF, tlen_tr vs, bnext' HB.out hb1⟩
theorem pr_lit2 {W : World} {N g : Nat} {y z : Int} {e f : Ent} (h0 : W.cell? ⟨g, 0, none⟩ = some (.bool e.s)) (h1 : W.cell? ⟨g, 1, none⟩ = some (.slice e.p e.n e.c)) (h2 : W.cell? ⟨g, 2, none⟩ = some (.bool f.s)) (h3 : W.cell? ⟨g, 3, none⟩ = some (.slice f.p f.n f.c)) (he : RE W N y e) (hf : RE W N z f) : PR W N (some ⟨g, 0, none⟩) 2 2 [e, f] [y, z] :=
  ⟨rfl, rfl, Nat.le_refl _, by decide, fun _ => ⟨g, 0, rfl, fun j hj => by
    match j, hj with
    | 0, _ => exact ⟨h0, h1⟩
    | 1, _ => exact ⟨h2, h3⟩⟩, fun j hj => by
    match j, hj with
    | 0, _ => exact he
    | 1, _ => exact hf⟩
theorem cells_at4 (w : World) (a b c d : Value) (t : Nat) : (w.alloc (.cells #[a, b, c, d] t)).cell? ⟨w.heap.size, 0, none⟩ = some a ∧ (w.alloc (.cells #[a, b, c, d] t)).cell? ⟨w.heap.size, 1, none⟩ = some b ∧ (w.alloc (.cells #[a, b, c, d] t)).cell? ⟨w.heap.size, 2, none⟩ = some c ∧ (w.alloc (.cells #[a, b, c, d] t)).cell? ⟨w.heap.size, 3, none⟩ = some d := ⟨by simp [go_sem], by simp [go_sem], by simp [go_sem], by simp [go_sem]⟩
set_option maxRecDepth 100000 in
theorem rpShift_any {w : World} {N M K L : Nat} {p : Option Addr} {n nc : Nat} {es : List Ent} {zs : List Int} {x : Int} {f : Ent} (h : PR w N p n nc es zs) (hf : RE w M x f) (hn : n ≤ 100) (hN : N ≤ 200) (hN4 : 4 ≤ N) (hM : M ≤ 200) (hX : ∀ i, ((gx zs i).natAbs : Int) < pw K) (hY : (x.natAbs : Int) < pw L) (hL : 1 ≤ L) (hK : K + n * (L + 1) + L ≤ 80) :
    Calls Tryz.prog 51 #[.slice p n nc, .agg #[.bool f.s, .slice f.p f.n f.c]] w (PrP (coz x zs) 180 w) := by
  have HX : Hid (PR w N p n nc es zs ∧ RE w M x f ∧ (∀ i, ((gx zs i).natAbs : Int) < pw K) ∧ (x.natAbs : Int) < pw L ∧ K + n * (L + 1) + L ≤ 80) := ⟨h, hf, hX, hY, hK⟩
  clear h hf hX hY hK
  go_enter Tryz.func51, Tryz.ntmps51
  go_wp2_with fail
  have hal := bel_al (o := .cells #[.bool f.s, .slice f.p f.n f.c] 30) (Below.refl w.heap.size w)
  have hX0 : Bx (w.alloc (.cells #[.bool f.s, .slice f.p f.n f.c] 30)) w.heap.size (.bool f.s) (.slice f.p f.n f.c) := Bx.new _ _ _ rfl
  generalize w.alloc (.cells #[.bool f.s, .slice f.p f.n f.c] 30) = W at *
  obtain ⟨k0, k1, -, -⟩ := id hX0
  have hP := HX.out.1.below hal
  have hF := HX.out.2.1.below hal
  go_region_held3 (fun w' => w'.cell? ⟨w.heap.size, 0, none⟩ = some (.bool f.s) ∧ w'.cell? ⟨w.heap.size, 1, none⟩ = some (.slice f.p f.n f.c)) (first | with_reducible exact ⟨k0, k1⟩ | with_reducible exact ⟨a0, a1⟩ | with_reducible exact keepc2 ⟨a0, a1⟩ (bel_al (Below.refl _ _)) | with_reducible exact ⟨b0, b1⟩ | (simp [go_sem, *]; done))
    (first
      | (go_at_call 52; go_fit (rOf_e 1 _ (by decide) (by decide)); rintro r v1 ⟨u, rfl, hu, hFu, hb1⟩; have hB1 := undrew hb1; have a0 := cell_later hB1 k0; have a1 := cell_later hB1 k1)
      | (go_at_call 53; go_fit (rpCompose_any (K := K) (L := L) ((hP.below hB1).below (bel_al (Below.refl _ _))) (pr_lit2 (e := f) (f := u) (cells_at4 v1 _ _ _ _ _).1 (cells_at4 v1 _ _ _ _ _).2.1 (cells_at4 v1 _ _ _ _ _).2.2.1 (cells_at4 v1 _ _ _ _ _).2.2.2 (((hF.below hB1).below (bel_al (Below.refl _ _))).wide hM) ((hu.below (bel_al (Below.refl _ _))).wide (by decide))) hn hN hN4 HX.out.2.2.1 HX.out.2.2.2.1 hL HX.out.2.2.2.2); rintro r v2 ⟨p2, n2, e2, rfl, hR2, hF2, ht2, hb2⟩; have hV2 := comp (X2 := v1) (w2 := v1) (Below.refl _ _) (by (repeat apply bel_al); exact Below.refl _ _) hb2; have b0 := cell_later hV2 a0; have b1 := cell_later hV2 a1))
  all_goals
    have hfin := bnext' hal (bnext' hB1 hV2)
    have hs := hal.size
    have hs1 := hB1.size
    clear k0 k1 a0 a1 b0 b1
    go_wp2
    go_ret
    exact ⟨p2, n2, e2, rfl, hR2, fun x hx => by have h9 := hF2 x hx; (try simp only [World.size_alloc] at h9); omega, ht2, hfin⟩
set_option maxRecDepth 100000 in
theorem rDelta8_none (w : World) (a : Int) (s : Bool) (q : Option Addr) (m mc : Nat) (ha : a ≠ 2) (p : Option Addr) (n nc : Nat) (N : Nat) :
    Calls Tryz.prog 20 #[.agg #[.int .i64 a, .bool s, .slice q m mc], .slice p n nc] w (PrP [] N w) := by
  have h1 : (a == 2) = false := by rw [beq_eq_false_iff_ne]; exact ha
  have h2 : ¬ a = 2 := ha
  go_enter Tryz.func20, Tryz.ntmps20
  go_wp2
  go_ret
  exact ⟨none, 0, [], rfl, pr_nil _ _, (fun a ha => by cases ha), rfl, (Below.refl _ _).alloc (Nat.le_refl _) _⟩
set_option maxRecDepth 100000 in
theorem rDelta8_diff {w : World} (s : Bool) (q : Option Addr) (m mc : Nat) {N : Nat} {p : Option Addr} {n nc : Nat} {es : List Ent} {zs : List Int} (h : PR w N p n nc es zs) (hn : n ≤ 100000) (hN : N ≤ 400) :
    Calls Tryz.prog 20 #[.agg #[.int .i64 2, .bool s, .slice q m mc], .slice p n nc] w (PrP (tr (derz zs)) (4 + N + 1) w) := by
  have hW : Below w.heap.size w (w.alloc (.cells #[.int .i64 2, .bool s, .slice q m mc] 40)) := (Below.refl _ _).alloc (Nat.le_refl _) _
  have hd := rpDeriv_any (h.below hW) hn hN
  go_enter Tryz.func20, Tryz.ntmps20
  go_wp2_with fail
  generalize w.alloc (.cells #[.int .i64 2, .bool s, .slice q m mc] 40) = W at *
  go_fit hd
  rintro r w1 ⟨p1, n1, es1, rfl, h1, h2, h3, hb⟩
  have HR' : Hid (PrP (tr (derz zs)) (4 + N + 1) w (.returned (.slice p1 n1 n1)) w1) := ⟨p1, n1, es1, rfl, h1, fun a ha => Nat.le_trans hW.size (h2 a ha), h3, hW.trans (hb.mono hW.size)⟩
  clear hd h1 h2 h3 hb
  go_wp2
  go_ret
  exact HR'.out
set_option maxRecDepth 100000 in
theorem rSigma8_diff (w : World) (s : Bool) (q : Option Addr) (m mc : Nat) (p : Option Addr) (n nc : Nat) :
    Calls Tryz.prog 17 #[.agg #[.int .i64 2, .bool s, .slice q m mc], .slice p n nc] w fun r w' => r = .returned (.slice p n nc) ∧ Below w.heap.size w w' := by
  go_enter Tryz.func17, Tryz.ntmps17
  go_wp2
  go_ret
  exact ⟨rfl, (Below.refl _ _).alloc (Nat.le_refl _) _⟩
set_option maxRecDepth 100000 in
theorem rSigma8_shift {w : World} (s : Bool) (q : Option Addr) (m mc : Nat) {N K : Nat} {p : Option Addr} {n nc : Nat} {es : List Ent} {zs : List Int} (h : PR w N p n nc es zs) (hn : n ≤ 100) (hN : N ≤ 200) (hN4 : 4 ≤ N) (hX : ∀ i, ((gx zs i).natAbs : Int) < pw K) (hK : K + n * 2 + 1 ≤ 80) :
    Calls Tryz.prog 17 #[.agg #[.int .i64 1, .bool s, .slice q m mc], .slice p n nc] w (PrP (coz 1 zs) 180 w) := by
  have hW : Below w.heap.size w (w.alloc (.cells #[.int .i64 1, .bool s, .slice q m mc] 40)) := (Below.refl _ _).alloc (Nat.le_refl _) _
  have h1 := h.below hW
  have HX := (show Hid _ from hX)
  clear h hX
  go_enter Tryz.func17, Tryz.ntmps17
  go_wp2_with fail
  generalize w.alloc (.cells #[.int .i64 1, .bool s, .slice q m mc] 40) = W at *
  go_fit (rOf_n 1 W (by decide) (by decide))
  rintro r w1 ⟨u, rfl, hR, hF, hb1⟩
  have hd := rpShift_any (L := 1) (h1.below hb1) hR hn hN hN4 (by decide) HX.out (by decide) (by decide) hK
  have hB1 : Below w.heap.size w w1 := hW.trans (hb1.mono hW.size)
  clear hR hF
  go_wp2_with fail
  go_fit hd
  rintro r w2 ⟨p1, n1, es1, rfl, g1, g2, g3, hb⟩
  have HR' : Hid (PrP (coz 1 zs) 180 w (.returned (.slice p1 n1 n1)) w2) := ⟨p1, n1, es1, rfl, g1, fun a ha => Nat.le_trans hB1.size (g2 a ha), g3, hB1.trans (hb.mono hB1.size)⟩
  clear hd g1 g2 g3 hb hB1 hb1 h1
  go_wp2
  go_ret
  exact HR'.out
def Ax.re (N : Nat) (z : Int) : Ax := ⟨fun _ v w => ∃ f, v = .agg #[.bool (Ent.s f), .slice f.p f.n f.c] ∧ RE w N z f, fun ⟨f, a, h⟩ hb => ⟨f, a, h.below hb⟩, fun h _ => h, fun h _ => h⟩
def Ax.two (q : Int) : Ax := ⟨fun _ v w => ∃ b f f', v = .slice (some ⟨b, 0, none⟩) 2 2 ∧ PR w 200 (some ⟨b, 0, none⟩) 2 2 [f, f'] [0, q], fun ⟨b, f, f', a, h⟩ hb => ⟨b, f, f', a, h.below hb⟩, fun h _ => h, fun h _ => h⟩
def Ax.prp (zs : List Int) (N B : Nat) : Ax := ⟨fun _ v w => ∃ p n es, v = .slice p n n ∧ PR w N p n n es zs ∧ Go.Proofs.YtifebbacnlhggaaGreatDoor.From B p ∧ tlen zs = n, fun ⟨p, n, es, a, h, k⟩ hb => ⟨p, n, es, a, h.below hb, k⟩, fun h _ => h, fun h _ => h⟩
theorem tlen_two {q : Int} (h : q ≠ 0) : tlen [0, q] = 2 := tlen_eq _ 2 (fun j hj => gx_past _ 2 (by simp) j hj) (.inr (by
  have e : gx [0, q] 1 = q := by simp [gx]
  show gx [0, q] 1 ≠ 0
  rw [e]
  exact h))
theorem re_wide {w : World} {N M : Nat} {z : Int} {e : Ent} (h : RE w N z e) (hM : N ≤ M) : RE w M z e := by
  obtain ⟨⟨ds, a, b, c⟩, d⟩ := h
  exact ⟨⟨ds, a, b, Nat.le_trans c hM⟩, d⟩
theorem pr_two {v : World} {N M : Nat} {q : Int} {f u : Ent} {t : TypeId} (hf : RE (v.alloc (.cells #[.bool f.s, .slice f.p f.n f.c, .bool u.s, .slice u.p u.n u.c] t)) N 0 f) (hu : RE (v.alloc (.cells #[.bool f.s, .slice f.p f.n f.c, .bool u.s, .slice u.p u.n u.c] t)) M q u) (hN : N ≤ 200) (hM : M ≤ 200) :
    PR (v.alloc (.cells #[.bool f.s, .slice f.p f.n f.c, .bool u.s, .slice u.p u.n u.c] t)) 200 (some ⟨v.heap.size, 0, none⟩) 2 2 [f, u] [0, q] := by
  refine ⟨rfl, rfl, Nat.le_refl _, by decide, fun _ => ⟨v.heap.size, 0, rfl, fun j hj => ?_⟩, fun j hj => ?_⟩
  · match j, hj with
    | 0, _ => exact ⟨by simp [go_sem, ge], by simp [go_sem, ge]⟩
    | 1, _ => exact ⟨by simp [go_sem, ge], by simp [go_sem, ge]⟩
  · match j, hj with
    | 0, _ => exact re_wide hf hN
    | 1, _ => exact re_wide hu hM
set_option maxRecDepth 100000 in
theorem rSigma8_q {w : World} {u : Ent} {q : Int} {M N K L : Nat} (hq : RE w M q u) {p : Option Addr} {n nc : Nat} {es : List Ent} {zs : List Int} (h : PR w N p n nc es zs) (hn : n ≤ 100) (hN : N ≤ 200) (hN4 : 4 ≤ N) (hM : M ≤ 200) (hX : ∀ i, ((gx zs i).natAbs : Int) < pw K) (hY : (q.natAbs : Int) < pw L) (hL : 1 ≤ L) (hq0 : q ≠ 0) (hK : K + n * (L + 1) + L ≤ 80) :
    Calls Tryz.prog 17 #[.agg #[.int .i64 3, .bool u.s, .slice u.p u.n u.c], .slice p n nc] w (PrP (dlz q zs) 180 w) := by
  have hW : Below w.heap.size w (w.alloc (.cells #[.int .i64 3, .bool u.s, .slice u.p u.n u.c] 40)) := (Below.refl _ _).alloc (Nat.le_refl _) _
  have r1 : (w.alloc (.cells #[.int .i64 3, .bool u.s, .slice u.p u.n u.c] 40)).cell? ⟨w.heap.size, 1, none⟩ = some (.bool u.s) := by simp [go_sem]
  have r2 : (w.alloc (.cells #[.int .i64 3, .bool u.s, .slice u.p u.n u.c] 40)).cell? ⟨w.heap.size, 2, none⟩ = some (.slice u.p u.n u.c) := by simp [go_sem]
  have HX : Hid (PR w N p n nc es zs ∧ RE w M q u ∧ ∀ i, ((gx zs i).natAbs : Int) < pw K) := ⟨h, hq, hX⟩
  clear h hX hq
  go_enter Tryz.func17, Tryz.ntmps17
  go_wp2_with fail
  generalize w.alloc (.cells #[.int .i64 3, .bool u.s, .slice u.p u.n u.c] 40) = W at *
  refine region_openX 8 [(0, 14), (1, 15), (2, 16), (3, 17), (4, 18), (5, 19), (6, 20), (7, 4)] [] []
    [Ax.val (.slice p n nc), Ax.re 4 0, Ax.val (.pointer (some ⟨w.heap.size, 1, none⟩)), Ax.val (.agg #[.bool u.s, .slice u.p u.n u.c]), Ax.two q, Ax.two q, Ax.prp (dlz q zs) 180 w.heap.size, Ax.prp (dlz q zs) 180 w.heap.size]
    (by kernel_rfl) (by kernel_rfl) (by kernel_rfl) trivial (by kernel_rfl) (by decide) (by decide) (by rfl) ?_ ?_
  · refine ⟨fun _ => ?_, fun _ => ?_, fun _ => ?_, fun _ => ?_, fun _ => ?_, fun _ => ?_, fun _ => ?_, fun _ => ?_, trivial⟩
    · exact ox_pure rfl fun X ρ v R => ⟨_, by simp [execOp, go_sem], R.old 1 (by decide)⟩
    · exact ox_call 52 rfl fun X ρ v R => by
        refine ⟨_, by simp [execOp, go_sem, R.fn, R.con], (rOf_n 0 v (by decide) (by decide)).mono ?_⟩
        rintro r w' ⟨f, rfl, hf, -, hb⟩
        exact ⟨_, rfl, ⟨f, rfl, hf⟩, hb⟩
    · exact ox_pure rfl fun X ρ v R => by
        have e2 : ρ (.tmp 2) = .pointer (some ⟨w.heap.size, 0, none⟩) := R.old 2 (by decide)
        exact ⟨_, by simp [execOp, go_sem, e2], rfl⟩
    · exact ox_pure rfl fun X ρ v R => by
        have e16 : ρ (.tmp 16) = .pointer (some ⟨w.heap.size, 1, none⟩) := R.dep 2 16 (by decide) rfl rfl
        have x1 := cell_later R.b r1
        have x2 := cell_later R.b r2
        exact ⟨_, by simp [execOp, go_sem, e16, x1, x2], rfl⟩
    · exact ox_new rfl fun X ρ v R => by
        obtain ⟨f, e15, hf⟩ := R.dep 1 15 (by decide) rfl rfl
        have e17 : ρ (.tmp 17) = .agg #[.bool u.s, .slice u.p u.n u.c] := R.dep 3 17 (by decide) rfl rfl
        have hal : Below v.heap.size v (v.alloc (.cells #[.bool f.s, .slice f.p f.n f.c, .bool u.s, .slice u.p u.n u.c] 30)) := (Below.refl _ _).alloc (Nat.le_refl _) _
        exact ⟨_, _, by simp [execOp, go_sem, e15, e17], ⟨v.heap.size, f, u, rfl, pr_two (hf.below hal) ((HX.out.2.1.below (bnext' hW R.b)).below hal) (by decide) hM⟩, hal⟩
    · exact ox_call 54 rfl fun X ρ v R => by
        obtain ⟨b, f, f', e18, hp⟩ := R.dep 4 18 (by decide) rfl rfl
        refine ⟨_, by simp [execOp, go_sem, e18, R.fn], (rTrim_any 200 _ 2 2 _ _ v hp (by decide)).mono ?_⟩
        rintro r w' ⟨rfl, hb⟩
        rw [tlen_two hq0]
        exact ⟨_, rfl, ⟨b, f, f', rfl, hp.below hb⟩, hb⟩
    · exact ox_call 53 rfl fun X ρ v R => by
        have e14 : ρ (.tmp 14) = .slice p n nc := R.dep 0 14 (by decide) rfl rfl
        obtain ⟨b, f, f', e19, hp⟩ := R.dep 5 19 (by decide) rfl rfl
        refine ⟨_, by simp [execOp, go_sem, e14, e19, R.fn], (rpComposeD_any (HX.out.1.below (bnext' hW R.b)) hp hn hN hN4 HX.out.2.2 hY hL hq0 hK).mono ?_⟩
        rintro r w' ⟨p1, n1, es1, rfl, g1, g2, g3, hb⟩
        exact ⟨_, rfl, ⟨p1, n1, es1, rfl, g1, fun a ha => Nat.le_trans (Nat.le_trans hW.size R.b.size) (g2 a ha), g3⟩, hb⟩
    · exact ox_pure rfl fun X ρ v R => ⟨_, by simp [execOp, go_sem], R.dep 6 20 (by decide) rfl rfl⟩
  intro vals w2 hb2 hv
  have e_0 : vals 0 = _ := hv (0, 14) (by decide)
  obtain ⟨f1, e_1, -⟩ := hv (1, 15) (by decide)
  have e_2 : vals 2 = _ := hv (2, 16) (by decide)
  have e_3 : vals 3 = _ := hv (3, 17) (by decide)
  obtain ⟨b4, f4, f4', e_4, -⟩ := hv (4, 18) (by decide)
  obtain ⟨b5, f5, f5', e_5, -⟩ := hv (5, 19) (by decide)
  obtain ⟨p6, n6, es6, e_6, -⟩ := hv (6, 20) (by decide)
  obtain ⟨p7, n7, es7, e_7, g1, g2, g3⟩ := hv (7, 4) (by decide)
  refine ends_none rfl ?_
  simp only [List.foldl, e_0, e_1, e_2, e_3, e_4, e_5, e_6, e_7, List.setIfInBounds_toArray, List.set_cons_succ, List.set_cons_zero]
  clear hv e_0 e_1 e_2 e_3 e_4 e_5 e_6 e_7
  have HR' : Hid (PrP (dlz q zs) 180 w (.returned (.slice p7 n7 n7)) w2) := ⟨p7, n7, es7, rfl, g1, g2, g3, bnext' hW hb2⟩
  clear g1 g2 g3 r1 r2 HX
  go_wp2
  go_ret
  exact HR'.out
end Go.Proofs.YtifebbacnlhggaaGreatDoor
