/-
  OreNew's walk.
-/
import Derived.Test.YtifebbacnlhggaaGreatDoorCbNg
import Derived.Test.YtifebbacnlhggaaGreatDoorRtDhVeRsVfVcAjDrBmBqDuAkAlApEp
import Derived.Test.YtifebbacnlhggaaGreatDoorG9KjDw
import Derived.Deep.DeepFit
namespace Go.Proofs.YtifebbacnlhggaaGreatDoor
open Go.RowKit
set_option linter.unusedVariables false
set_option linter.unusedSimpArgs false
/-- q where it is asked for. -/
def qof (al y : Int) : Int := if al = 3 then y else 0
theorem ev_zero (w : World) : EV w 1 0 e00 := ⟨[], ⟨rfl, Nat.le_refl _, Nat.zero_le _, Nat.zero_le _, Rd.nil, fun j => by simp [gx]⟩, rfl, Nat.zero_le _⟩
theorem oNew_all {w : World} {al y : Int} {e : Ent} (he : EV w 1 y e) (ha : al = 1 ∨ al = 2 ∨ al = 3) (hy : al = 3 → y ≠ 0) :
    Calls Tryz.prog 12 #[.int .i64 al, .agg #[.bool e.s, .slice e.p e.n e.c]] w fun r w' => ∃ g, r = .returned (.tuple #[.pointer (some ⟨g, 0, none⟩), .int .i64 0]) ∧ RuleQ w' g al (qof al y) ∧ Below w.heap.size w w' := by
  rcases Int.decEq al 3 with h | h
  · refine (oNew_plain w al e (by omega)).mono ?_
    rintro r w' ⟨g, rfl, h1, h2, h3⟩
    exact ⟨g, rfl, ⟨ha, ⟨e00, h1, by rw [qof, if_neg h]; exact ev_zero _⟩, fun h' => absurd h' h⟩, h3⟩
  · subst h
    refine (oNew_q he (by decide) (hy rfl)).mono ?_
    rintro r w' ⟨g, f, rfl, h1, h2, h3, h4⟩
    exact ⟨g, rfl, ⟨ha, ⟨f, h1, by rw [qof, if_pos rfl]; exact h2.ev (by decide)⟩, fun _ => by rw [qof, if_pos rfl]; exact hy rfl⟩, h4⟩
theorem re_zero (w : World) (N : Nat) : RE w N 0 e00 := ⟨⟨[], ⟨rfl, Rd.nil, fun j => by simp [gx], rfl, fun _ => rfl, Nat.zero_le _⟩, rfl, Nat.zero_le _⟩, rfl⟩
theorem rpIs3 {B : Nat} {w : World} {K N : Nat} {p q : Option Addr} {n m mc : Nat} {es fs : List Ent} {zs : List Int} (h : PN B w K p n es zs) (k : PR w N q m mc fs zs) (hK : K ≤ 1000) (hN : N ≤ 1000) (hl : n ≤ 1000000) :
    Calls Tryz.prog 15 #[.slice p n n, .slice q m mc] w fun r w' => r = .returned (.bool true) ∧ Below w.heap.size w w' := by
  obtain rfl : m = n := by rw [← h.zl, ← k.zl]
  exact rpIs_any h k hK hN hl
theorem an_valN {f : Nat} {args : Array Value} {v : World} {x : Value} {X : Nat → Prop} (h : Calls Tryz.prog f args v fun e w' => e = .returned x ∧ Below v.heap.size v w') : Calls Tryz.prog f args v fun e w' => ∃ u, e = .returned u ∧ (Ax.val x).is X u w' ∧ Below v.heap.size v w' := by
  refine h.mono ?_
  rintro e w' ⟨rfl, hb⟩
  exact ⟨_, rfl, rfl, hb⟩
def Ax.nvq (z : Int) : Ax := ⟨fun _ v w => ∃ u B, v = .agg #[.bool (Ent.s u), .slice u.p u.n u.c] ∧ NV B w 1 z u, fun ⟨u, B, a, h⟩ hb => ⟨u, B, a, h.below hb⟩, fun h _ => h, fun h _ => h⟩
theorem oAlg_all {w : World} {g : Nat} {al y : Int} (h : RuleQ w g al y) : Calls Tryz.prog 21 #[.pointer (some ⟨g, 0, none⟩)] w fun r w' => r = .returned (.int .i64 al) ∧ Below w.heap.size w w' := by
  obtain ⟨-, ⟨e, h1, h2⟩, -⟩ := h
  exact oAlg_any h1
theorem nvq_ax {v : World} {g : Nat} {al y : Int} {X : Nat → Prop} (h : RuleQ v g al y) : Calls Tryz.prog 23 #[.pointer (some ⟨g, 0, none⟩)] v fun e w' => ∃ u, e = .returned u ∧ (Ax.nvq y).is X u w' ∧ Below v.heap.size v w' := by
  obtain ⟨-, ⟨e, h1, h2⟩, -⟩ := h
  refine (oQ_any h1 h2 (by decide)).mono ?_
  rintro r w' ⟨f, rfl, h3, h4⟩
  exact ⟨_, rfl, ⟨f, _, rfl, h3⟩, h4⟩
/-- What the law holds of its variables. -/
structure NewS (w v : World) (g gn gq : Nat) (al y : Int) (q : Option Addr) (m mc : Nat) (fs : List Ent) (zs : List Int) (xe : Ent) : Prop where
  pa : PA v 3 q m mc fs zs
  rq : RuleQ v g al y
  c0 : v.cell? ⟨gq, 0, none⟩ = some (.int .i64 al)
  c1 : v.cell? ⟨gq, 1, none⟩ = some (.bool xe.s)
  c2 : v.cell? ⟨gq, 2, none⟩ = some (.slice xe.p xe.n xe.c)
  re : RE v 2 y xe
  b : Below w.heap.size w v
theorem NewS.later {w v v' : World} {g gn gq : Nat} {al y : Int} {q : Option Addr} {m mc : Nat} {fs : List Ent} {zs : List Int} {xe : Ent} (h : NewS w v g gn gq al y q m mc fs zs xe) (hb : Below v.heap.size v v') : NewS w v' g gn gq al y q m mc fs zs xe := ⟨h.pa.below hb, h.rq.below hb, cell_later hb h.c0, cell_later hb h.c1, cell_later hb h.c2, h.re.below hb, bnext' h.b hb⟩
set_option maxHeartbeats 4000000 in
set_option maxRecDepth 100000 in
theorem OreNew_walk {w : World} {al : Int} {e : Ent} {p : Option Addr} {n nc : Nat} {es : List Ent} (he : RawE w e) (h : PZ w p n nc es) (hal : -9223372036854775808 ≤ al ∧ al ≤ 9223372036854775807) :
    Calls Tryz.prog 3 #[.int .i64 al, .agg #[.bool e.s, .slice e.p e.n e.c], .slice p n nc] w fun r w' => r = .returned (.bool true) ∧ Below w.heap.size w w' := by
  have HX : Hid (RawE w e ∧ PZ w p n nc es) := ⟨he, h⟩
  clear h he
  have hW0 : Below w.heap.size w (w.alloc (.cells #[.bool e.s, .slice e.p e.n e.c] 24)) := (Below.refl _ _).alloc (Nat.le_refl _) _
  have hBx : Bx (w.alloc (.cells #[.bool e.s, .slice e.p e.n e.c] 24)) w.heap.size (.bool e.s) (.slice e.p e.n e.c) := Bx.new _ _ _ rfl
  go_enter Tryz.func3, Tryz.ntmps3
  go_wp2_with fail
  go_fit (begun8_any _)
  rintro e1 W ⟨rfl, hb1⟩
  have hW := bnext' hW0 hb1
  have HBx : Hid (Bx W w.heap.size (.bool e.s) (.slice e.p e.n e.c)) := hBx.later hb1
  have x0 : W.cell? ⟨w.heap.size, 0, none⟩ = some (.bool e.s) := HBx.out.c0
  have x1 : W.cell? ⟨w.heap.size, 1, none⟩ = some (.slice e.p e.n e.c) := HBx.out.c1
  clear hBx hb1 hW0
  go_wp2_with fail
  have hal1 : Below W.heap.size W (W.alloc (.cells #[.bool e.s, .slice e.p e.n e.c] 24)) := (Below.refl _ _).alloc (Nat.le_refl _) _
  have hcut := cut1_ax (X := fun _ => False) (lo := 0) HX.out.1 (bnext' hW hal1) (cells_lit W (.bool e.s) (.slice e.p e.n e.c) 24).1 (cells_lit W (.bool e.s) (.slice e.p e.n e.c) 24).2 (fun c hc => hc.elim) (Nat.zero_le _) 1 (by decide)
  generalize W.alloc (.cells #[.bool e.s, .slice e.p e.n e.c] 24) = W1 at *
  go_fit hcut
  rintro r w1 ⟨_, rfl, ⟨b, o, c, u, y, rfl, hO, hN⟩, hb1⟩
  have hB1 := bnext' (bnext' hW hal1) hb1
  have o0 : w1.cell? ⟨b, o, none⟩ = some (.bool u.s) := hO.1
  have o1 : w1.cell? ⟨b, o + 1, none⟩ = some (.slice u.p u.n u.c) := hO.2
  have HN : Hid (EV w1 1 y u) := hN.1
  clear hcut hO hN hb1 hal1 x0 x1 HBx
  go_wp2_with fail
  go_fit (rFrom_e HN.out)
  rintro r w2 ⟨u2, rfl, hR2, hF2, hb2⟩
  have hB2 := bnext' hB1 hb2
  have HR : Hid (RE w2 2 y u2 ∧ (y.natAbs : Int) < pw 1) := ⟨hR2, HN.out.bd⟩
  clear hR2 hF2 hb2 o0 o1 HN hB1
  go_wp2_with fail
  have hal3 : Below w2.heap.size w2 (w2.alloc (.cells #[.bool u2.s, .slice u2.p u2.n u2.c] 30)) := (Below.refl _ _).alloc (Nat.le_refl _) _
  have hBn : Bx (w2.alloc (.cells #[.bool u2.s, .slice u2.p u2.n u2.c] 30)) w2.heap.size (.bool u2.s) (.slice u2.p u2.n u2.c) := Bx.new _ _ _ rfl
  have hB3 := bnext' hB2 hal3
  have HR3 : Hid (RE (w2.alloc (.cells #[.bool u2.s, .slice u2.p u2.n u2.c] 30)) 2 y u2 ∧ (y.natAbs : Int) < pw 1) := ⟨HR.out.1.below hal3, HR.out.2⟩
  generalize w2.alloc (.cells #[.bool u2.s, .slice u2.p u2.n u2.c] 30) = W3 at *
  generalize w2.heap.size = gn at *
  clear HR hal3 hB2
  go_fit (Cut3_any (HX.out.2.below hB3) 7 3 (by decide) (by decide))
  rintro r w3 ⟨q2, m2, mc2, fs2, zs, rfl, hP2, hm2, hF4, hG4, hb3⟩
  have hm7 : m2 ≤ 7 := by omega
  have hB4 := bnext' hB3 hb3
  have HP : Hid (PA w3 3 q2 m2 mc2 fs2 zs ∧ RE w3 2 y u2 ∧ (y.natAbs : Int) < pw 1 ∧ Bx w3 gn (.bool u2.s) (.slice u2.p u2.n u2.c)) := ⟨hP2, HR3.out.1.below hb3, HR3.out.2, hBn.later hb3⟩
  have n0 : w3.cell? ⟨gn, 0, none⟩ = some (.bool u2.s) := HP.out.2.2.2.c0
  have n1 : w3.cell? ⟨gn, 1, none⟩ = some (.slice u2.p u2.n u2.c) := HP.out.2.2.2.c1
  clear hP2 hm2 hF4 hG4 hb3 HR3 hBn hB3 HX
  go_wp2_with fail
  go_fit (rTo_e (K := 1) HP.out.2.1 (by decide) (by decide))
  rintro r w4 ⟨f4, rfl, hN4, -, hb4⟩
  have hB5 := bnext' hB4 hb4
  have HQ : Hid (PA w4 3 q2 m2 mc2 fs2 zs ∧ RE w4 2 y u2 ∧ (y.natAbs : Int) < pw 1 ∧ Bx w4 gn (.bool u2.s) (.slice u2.p u2.n u2.c) ∧ EV w4 1 y f4) := ⟨HP.out.1.below hb4, HP.out.2.1.below hb4, HP.out.2.2.1, HP.out.2.2.2.later hb4, hN4⟩
  clear n0 n1 HP hN4 hb4 hB4
  by_cases ha : al < 1 ∨ 3 < al
  · have hnw := oNew_none w4 al f4 ha hal
    go_wp2_with fail
    go_fit hnw
    rintro r w5 ⟨rfl, hb5⟩
    have HB : Hid (Below w.heap.size w w5) := bnext' hB5 hb5
    clear hnw hb5 hB5 HQ
    rcases ha with h1 | h1
    · go_wp2
      go_ret
      exact ⟨rfl, HB.out⟩
    · have h2 : ¬ al < 1 := by omega
      go_wp2
      go_ret
      exact ⟨rfl, HB.out⟩
  have a1 : ¬ al < 1 := by omega
  have a2 : ¬ 3 < al := by omega
  have ha' : al = 1 ∨ al = 2 ∨ al = 3 := by omega
  by_cases hz : al = 3 ∧ y = 0
  · obtain ⟨rfl, rfl⟩ := hz
    have hnw := oNew_zero HQ.out.2.2.2.2
    have hRE := HQ.out.2.1
    obtain ⟨n0, n1, -, -⟩ := HQ.out.2.2.2.1
    go_wp2_with fail
    go_fit hnw
    rintro r w5 ⟨rfl, hb5⟩
    have hB6 := bnext' hB5 hb5
    have m0 := cell_later hb5 n0
    have m1 := cell_later hb5 n1
    have hsg := rSign_e (hRE.below hb5)
    have e0 : isgn 0 = 0 := rfl
    rw [e0] at hsg
    clear hnw n0 n1 hB5 HQ hRE ha ha'
    go_wp2_with fail
    go_fit hsg
    rintro r w6 ⟨rfl, hb6⟩
    have HB : Hid (Below w.heap.size w w6) := bnext' hB6 hb6
    clear hsg hb6 hB6 m0 m1 hb5
    go_wp2
    go_ret
    exact ⟨rfl, HB.out⟩
  have hy0 : al = 3 → y ≠ 0 := fun h1 h2 => hz ⟨h1, h2⟩
  have hnw := oNew_all HQ.out.2.2.2.2 ha' hy0
  go_wp2_with fail
  go_fit hnw
  rintro r w5 ⟨g, rfl, hRQ, hb5⟩
  have hB6 := bnext' hB5 hb5
  have HS : Hid (PA w5 3 q2 m2 mc2 fs2 zs ∧ RE w5 2 y u2 ∧ (y.natAbs : Int) < pw 1 ∧ Bx w5 gn (.bool u2.s) (.slice u2.p u2.n u2.c) ∧ RuleQ w5 g al (qof al y) ∧ (al = 3 → y ≠ 0)) := ⟨HQ.out.1.below hb5, HQ.out.2.1.below hb5, HQ.out.2.2.1, HQ.out.2.2.2.1.later hb5, hRQ, hy0⟩
  clear hnw hRQ hB5 hb5 HQ hz hy0 ha
  by_cases h3 : al = 3
  · subst h3
    have hRE := HS.out.2.1
    obtain ⟨n0, n1, -, -⟩ := HS.out.2.2.2.1
    have g1 : (isgn y == 0) = false := by have := HS.out.2.2.2.2.2 rfl; rw [beq_eq_false_iff_ne]; unfold isgn; split <;> (try split) <;> omega
    have g2 : ¬ isgn y = 0 := by have := HS.out.2.2.2.2.2 rfl; unfold isgn; split <;> (try split) <;> omega
    have hsg := rSign_e hRE
    generalize isgn y = sg at *
    go_wp2_with fail
    go_fit hsg
    rintro r w6 ⟨rfl, hb6⟩
    have hB7 := bnext' hB6 hb6
    have m0 := cell_later hb6 n0
    have m1 := cell_later hb6 n1
    clear hsg n0 n1
    have hal6 : Below w6.heap.size w6 (w6.alloc (.cells #[.int .i64 3, .bool false, .slice none 0 0] 40)) := (Below.refl _ _).alloc (Nat.le_refl _) _
    have l0 := cell_later hal6 m0
    have l1 := cell_later hal6 m1
    clear m0 m1 a1 a2 ha'
    go_wp2_with fail
    have hal7 : Below w6.heap.size w6 (w6.alloc (.cells #[.int .i64 3, .bool u2.s, .slice u2.p u2.n u2.c] 40)) := (Below.refl _ _).alloc (Nat.le_refl _) _
    have NS : Hid (NewS w (w6.alloc (.cells #[.int .i64 3, .bool u2.s, .slice u2.p u2.n u2.c] 40)) g gn w6.heap.size 3 (qof 3 y) q2 m2 mc2 fs2 zs u2) := ⟨(HS.out.1.below hb6).below hal7, (HS.out.2.2.2.2.1.below hb6).below hal7, by simp [go_sem], by simp [go_sem], by simp [go_sem], by rw [qof, if_pos rfl]; exact (hRE.below hb6).below hal7, bnext' hB7 hal7⟩
    generalize w6.alloc (.cells #[.int .i64 3, .bool u2.s, .slice u2.p u2.n u2.c] 40) = W7 at *
    generalize w6.heap.size = gq at *
    generalize u2 = xe at *
    clear hal6 hal7 l0 l1 hB7 hb6 hRE HS g1 g2 hB6
    have hm7' := hm7
    have hxt := tlen_le zs
    have hzl := NS.out.pa.zl
    obtain ⟨k0, k1, k2⟩ := (⟨NS.out.c0, NS.out.c1, NS.out.c2⟩ : _ ∧ _ ∧ _)
    go_cut [12] (fun ov wq => ov = .bool true ∧ Hid (NewS w wq g gn gq 3 (qof 3 y) q2 m2 mc2 fs2 zs xe))
    case first =>
      go_region_held3 (fun w' => w'.cell? ⟨gq, 0, none⟩ = some (.int .i64 3) ∧ w'.cell? ⟨gq, 1, none⟩ = some (.bool xe.s) ∧ w'.cell? ⟨gq, 2, none⟩ = some (.slice xe.p xe.n xe.c)) (first | with_reducible exact ⟨k0, k1, k2⟩ | with_reducible exact ⟨p0, p1, p2⟩ | with_reducible exact ⟨q0, q1, q2'⟩ | with_reducible exact ⟨r0, r1, r2⟩ | with_reducible exact ⟨s0, s1, s2⟩ | (simp [go_sem, *]; done))
        (first
          | (go_at_call 16; go_fit (oSigma_all (NS.out.rq.below (Below.refl _ _).drew) (NS.out.pa.below (Below.refl _ _).drew) (by omega) (by decide)); rintro r v1 ⟨p4, n4, e4, rfl, hN1, hv1⟩; have hV1 := undrew hv1; have p0 := cell_later hV1 k0; have p1 := cell_later hV1 k1; have p2 := cell_later hV1 k2)
          | (go_at_call 18; go_fit (rpFrom_any (NS.out.pa.below hV1) (by omega) (by decide)); rintro r v2 ⟨p5, n5, e5, rfl, hR2, hF2, ht2, hv2⟩; have hV2 := bnext' hV1 hv2; have q0 := cell_later hv2 p0; have q1 := cell_later hv2 p1; have q2' := cell_later hv2 p2)
          | (go_at_call 17; go_fit (rSigma_all (u := xe) (M := 2) (K := 3) NS.out.rq.a (fun h => ⟨NS.out.re.below hV2, NS.out.rq.q h⟩) NS.out.rq.bd hR2 (by rw [tlen_tr, length_tr]) (by rw [tlen_tr] at ht2; omega) (by decide) (by decide) (by decide) (fun i => by rw [gx_tr]; exact NS.out.pa.gbd i) (by rw [tlen_tr] at ht2; omega)); rintro r v3 ⟨p6, n6, c6, e6, rfl, hR3, hv3⟩; rw [SGM_tr] at hR3; have hV3 := bnext' hV2 hv3; have r0 := cell_later hv3 q0; have r1 := cell_later hv3 q1; have r2 := cell_later hv3 q2')
          | (go_at_call 15; go_fit (rpIs3 ((hN1.below hv2).below hv3) hR3 (by omega) (by rw [tlen_tr] at ht2; omega) (by have := hN1.zl; have := SGM_len 3 (qof 3 y) zs; omega)); rintro r v4 ⟨rfl, hv4⟩; have hV4 := bnext' hV3 hv4; have s0 := cell_later hv4 r0; have s1 := cell_later hv4 r1; have s2 := cell_later hv4 r2))
      all_goals
        have H3 : Hid (NewS w v4 g gn gq 3 (qof 3 y) q2 m2 mc2 fs2 zs xe) := NS.out.later hV4
        clear hN1 hR2 hR3
        go_wp2_with fail
        go_meet
        exact ⟨rfl, H3.out⟩
    case rest =>
      obtain ⟨rfl, NS2⟩ := hcut
      clear k0 k1 k2 NS
      go_wp2_with fail
      obtain ⟨k0, k1, k2⟩ := (⟨NS2.out.c0, NS2.out.c1, NS2.out.c2⟩ : _ ∧ _ ∧ _)
      go_cut [13] (fun ov wq => ov = .bool true ∧ Hid (NewS w wq g gn gq 3 (qof 3 y) q2 m2 mc2 fs2 zs xe))
      case first =>
        go_region_held3 (fun w' => w'.cell? ⟨gq, 0, none⟩ = some (.int .i64 3) ∧ w'.cell? ⟨gq, 1, none⟩ = some (.bool xe.s) ∧ w'.cell? ⟨gq, 2, none⟩ = some (.slice xe.p xe.n xe.c)) (first | with_reducible exact ⟨k0, k1, k2⟩ | with_reducible exact ⟨p0, p1, p2⟩ | with_reducible exact ⟨q0, q1, q2'⟩ | with_reducible exact ⟨r0, r1, r2⟩ | with_reducible exact ⟨s0, s1, s2⟩ | (simp [go_sem, *]; done))
          (first
            | (go_at_call 19; go_fit (oDelta_all (NS2.out.rq.below (Below.refl _ _).drew) (NS2.out.pa.below (Below.refl _ _).drew) (by omega) (by decide)); rintro r v1 ⟨p4, n4, e4, rfl, hN1, hv1⟩; have hV1 := undrew hv1; have p0 := cell_later hV1 k0; have p1 := cell_later hV1 k1; have p2 := cell_later hV1 k2)
            | (go_at_call 18; go_fit (rpFrom_any (NS2.out.pa.below hV1) (by omega) (by decide)); rintro r v2 ⟨p5, n5, e5, rfl, hR2, hF2, ht2, hv2⟩; have hV2 := bnext' hV1 hv2; have q0 := cell_later hv2 p0; have q1 := cell_later hv2 p1; have q2' := cell_later hv2 p2)
            | (go_at_call 20; go_fit (rDelta_all (u := xe) (K := 3) hR2 (by rw [tlen_tr, length_tr]) (by rw [tlen_tr] at ht2; omega) (by decide) (fun i => by rw [gx_tr]; exact NS2.out.pa.gbd i)); rintro r v3 ⟨p6, n6, c6, e6, rfl, hR3, hv3⟩; rw [DLM_tr] at hR3; have hV3 := bnext' hV2 hv3; have r0 := cell_later hv3 q0; have r1 := cell_later hv3 q1; have r2 := cell_later hv3 q2')
            | (go_at_call 15; go_fit (rpIs3 ((hN1.below hv2).below hv3) hR3 (by omega) (by rw [tlen_tr] at ht2; omega) (by have := hN1.zl; have := DLM_len 3 zs; omega)); rintro r v4 ⟨rfl, hv4⟩; have hV4 := bnext' hV3 hv4; have s0 := cell_later hv4 r0; have s1 := cell_later hv4 r1; have s2 := cell_later hv4 r2))
        all_goals
          have H3 : Hid (NewS w v4 g gn gq 3 (qof 3 y) q2 m2 mc2 fs2 zs xe) := NS2.out.later hV4
          clear hN1 hR2 hR3
          go_wp2_with fail
          go_meet
          exact ⟨rfl, H3.out⟩
      case rest =>
        obtain ⟨rfl, NS3⟩ := hcut
        clear k0 k1 k2 NS2
        go_wp2_with fail
        refine region_openX 21 [(0, 89), (1, 90), (2, 91), (3, 92), (4, 93), (5, 94), (6, 95), (7, 96), (8, 97), (9, 98), (10, 99), (11, 100), (12, 101), (13, 102), (14, 103), (15, 104), (16, 105), (17, 106), (18, 107), (19, 108), (20, 6)] [] [(1, true), (7, true), (14, true), (17, true)]
          [Ax.val (Value.bool true), Ax.val (Value.bool true), Ax.val (Value.pointer (some { block := g, off := 0 })), Ax.val (Value.int IntKind.i64 3), Ax.val (Value.int IntKind.i64 3), Ax.val (Value.bool true), Ax.val (Value.bool true), Ax.val (Value.bool true), Ax.val (Value.pointer (some { block := g, off := 0 })), Ax.nvq (qof 3 y), Ax.val (Value.pointer (some { block := gq, off := 1 })), Ax.val (Value.agg #[Value.bool xe.s, Value.slice xe.p xe.n xe.c]), Ax.val (Value.bool true), Ax.val (Value.bool true), Ax.val (Value.bool true), Ax.val (Value.bool true), Ax.val (Value.bool true), Ax.val (Value.bool true), Ax.val (Value.bool true), Ax.val (Value.bool true), Ax.val (Value.bool true)]
          (by kernel_rfl) (by kernel_rfl) (by kernel_rfl) ⟨fun _ _ _ h => h, fun _ _ _ h => h, fun _ _ _ h => h, fun _ _ _ h => h, trivial⟩ (by kernel_rfl) (by decide) (by decide) (by rfl) ?_ ?_
        · refine ⟨fun _ => ?_, fun _ => ?_, fun _ => ?_, fun _ => ?_, fun _ => ?_, fun _ => ?_, fun _ => ?_, fun _ => ?_, fun _ => ?_, fun _ => ?_, fun _ => ?_, fun _ => ?_, fun _ => ?_, fun _ => ?_, fun _ => ?_, fun _ => ?_, fun _ => ?_, fun _ => ?_, fun _ => ?_, fun _ => ?_, fun _ => ?_, trivial⟩
          · exact ox_pure rfl fun X ρ v R => ⟨_, by simp [execOp, go_sem], R.old 7 (by decide)⟩
          · exact ox_pure rfl fun X ρ v R => ⟨_, by simp [execOp, go_sem], R.dep 0 89 (by decide) rfl rfl⟩
          · exact ox_pure rfl fun X ρ v R => ⟨_, by simp [execOp, go_sem], R.old 9 (by decide)⟩
          · exact ox_call 21 rfl fun X ρ v R => by
              have e91 : ρ (.tmp 91) = Value.pointer (some { block := g, off := 0 }) := R.dep 2 91 (by decide) rfl rfl
              exact ⟨_, by simp [execOp, go_sem, e91, R.fn], an_valN (oAlg_all (NS3.out.rq.below R.b))⟩
          · exact ox_pure rfl fun X ρ v R => ⟨_, by simp [execOp, go_sem], R.old 0 (by decide)⟩
          · exact ox_pure rfl fun X ρ v R => by
              have e92 : ρ (.tmp 92) = Value.int IntKind.i64 3 := R.dep 3 92 (by decide) rfl rfl
              have e93 : ρ (.tmp 93) = Value.int IntKind.i64 3 := R.dep 4 93 (by decide) rfl rfl
              exact ⟨_, by simp [execOp, go_sem, e92, e93], rfl⟩
          · exact ox_pure rfl fun X ρ v R => by
              have e90 : ρ (.tmp 90) = Value.bool true := R.dep 1 90 (by decide) rfl rfl
              have e94 : ρ (.tmp 94) = Value.bool true := R.dep 5 94 (by decide) rfl rfl
              exact ⟨_, by simp [execOp, go_sem, e90, e94, R.con], rfl⟩
          · exact ox_pure rfl fun X ρ v R => ⟨_, by simp [execOp, go_sem], R.dep 6 95 (by decide) rfl rfl⟩
          · exact ox_pure rfl fun X ρ v R => ⟨_, by simp [execOp, go_sem], R.old 9 (by decide)⟩
          · exact ox_call 23 rfl fun X ρ v R => by
              have e97 : ρ (.tmp 97) = Value.pointer (some { block := g, off := 0 }) := R.dep 8 97 (by decide) rfl rfl
              exact ⟨_, by simp [execOp, go_sem, e97, R.fn], nvq_ax (NS3.out.rq.below R.b)⟩
          · exact ox_pure rfl fun X ρ v R => by
              have e11 : ρ (.tmp 11) = Value.pointer (some { block := gq, off := 0 }) := R.old 11 (by decide)
              exact ⟨_, by simp [execOp, go_sem, e11], rfl⟩
          · exact ox_pure rfl fun X ρ v R => by
              have e99 : ρ (.tmp 99) = Value.pointer (some { block := gq, off := 1 }) := R.dep 10 99 (by decide) rfl rfl
              have x0 := cell_later R.b NS3.out.c1
              have x1 := cell_later R.b NS3.out.c2
              exact ⟨_, by simp [execOp, go_sem, e99, x0, x1], rfl⟩
          · exact ox_call 22 rfl fun X ρ v R => by
              obtain ⟨u98, B98, e98, H98⟩ := R.dep 9 98 (by decide) rfl rfl
              have e100 : ρ (.tmp 100) = Value.agg #[Value.bool xe.s, Value.slice xe.p xe.n xe.c] := R.dep 11 100 (by decide) rfl rfl
              exact ⟨_, by simp [execOp, go_sem, e98, e100, R.fn], an_valN (rIs_e H98 (by decide) (NS3.out.re.below R.b) (by decide))⟩
          · exact ox_pure rfl fun X ρ v R => by
              have e96 : ρ (.tmp 96) = Value.bool true := R.dep 7 96 (by decide) rfl rfl
              have e101 : ρ (.tmp 101) = Value.bool true := R.dep 12 101 (by decide) rfl rfl
              exact ⟨_, by simp [execOp, go_sem, e96, e101, R.con], rfl⟩
          · exact ox_pure rfl fun X ρ v R => ⟨_, by simp [execOp, go_sem], R.dep 13 102 (by decide) rfl rfl⟩
          · exact ox_pure rfl fun X ρ v R => ⟨_, by simp [execOp, go_sem], R.old 12 (by decide)⟩
          · exact ox_pure rfl fun X ρ v R => by
              have e103 : ρ (.tmp 103) = Value.bool true := R.dep 14 103 (by decide) rfl rfl
              have e104 : ρ (.tmp 104) = Value.bool true := R.dep 15 104 (by decide) rfl rfl
              exact ⟨_, by simp [execOp, go_sem, e103, e104, R.con], rfl⟩
          · exact ox_pure rfl fun X ρ v R => ⟨_, by simp [execOp, go_sem], R.dep 16 105 (by decide) rfl rfl⟩
          · exact ox_pure rfl fun X ρ v R => ⟨_, by simp [execOp, go_sem], R.old 13 (by decide)⟩
          · exact ox_pure rfl fun X ρ v R => by
              have e106 : ρ (.tmp 106) = Value.bool true := R.dep 17 106 (by decide) rfl rfl
              have e107 : ρ (.tmp 107) = Value.bool true := R.dep 18 107 (by decide) rfl rfl
              exact ⟨_, by simp [execOp, go_sem, e106, e107, R.con], rfl⟩
          · exact ox_pure rfl fun X ρ v R => ⟨_, by simp [execOp, go_sem], R.dep 19 108 (by decide) rfl rfl⟩
        intro vals w8 hb8 hv
        have e_0 : vals 0 = Value.bool true := hv (0, 89) (by decide)
        have e_1 : vals 1 = Value.bool true := hv (1, 90) (by decide)
        have e_2 : vals 2 = Value.pointer (some { block := g, off := 0 }) := hv (2, 91) (by decide)
        have e_3 : vals 3 = Value.int IntKind.i64 3 := hv (3, 92) (by decide)
        have e_4 : vals 4 = Value.int IntKind.i64 3 := hv (4, 93) (by decide)
        have e_5 : vals 5 = Value.bool true := hv (5, 94) (by decide)
        have e_6 : vals 6 = Value.bool true := hv (6, 95) (by decide)
        have e_7 : vals 7 = Value.bool true := hv (7, 96) (by decide)
        have e_8 : vals 8 = Value.pointer (some { block := g, off := 0 }) := hv (8, 97) (by decide)
        obtain ⟨u_9, B_9, e_9, H_9⟩ := hv (9, 98) (by decide)
        have e_10 : vals 10 = Value.pointer (some { block := gq, off := 1 }) := hv (10, 99) (by decide)
        have e_11 : vals 11 = Value.agg #[Value.bool xe.s, Value.slice xe.p xe.n xe.c] := hv (11, 100) (by decide)
        have e_12 : vals 12 = Value.bool true := hv (12, 101) (by decide)
        have e_13 : vals 13 = Value.bool true := hv (13, 102) (by decide)
        have e_14 : vals 14 = Value.bool true := hv (14, 103) (by decide)
        have e_15 : vals 15 = Value.bool true := hv (15, 104) (by decide)
        have e_16 : vals 16 = Value.bool true := hv (16, 105) (by decide)
        have e_17 : vals 17 = Value.bool true := hv (17, 106) (by decide)
        have e_18 : vals 18 = Value.bool true := hv (18, 107) (by decide)
        have e_19 : vals 19 = Value.bool true := hv (19, 108) (by decide)
        have e_20 : vals 20 = Value.bool true := hv (20, 6) (by decide)
        refine ends_none rfl ?_
        simp only [List.foldl, e_0, e_1, e_2, e_3, e_4, e_5, e_6, e_7, e_8, e_9, e_10, e_11, e_12, e_13, e_14, e_15, e_16, e_17, e_18, e_19, e_20, List.setIfInBounds_toArray, List.set_cons_succ, List.set_cons_zero]
        clear hv e_0 e_1 e_2 e_3 e_4 e_5 e_6 e_7 e_8 e_9 e_10 e_11 e_12 e_13 e_14 e_15 e_16 e_17 e_18 e_19 e_20
        have HB : Hid (Below w.heap.size w w8) := bnext' NS3.out.b hb8
        clear hb8 NS3
        go_wp2
        go_ret
        exact ⟨rfl, HB.out⟩
  · have h4 : (al == 3) = false := by rw [beq_eq_false_iff_ne]; exact h3
    go_wp2_with fail
    have hal7 : Below w5.heap.size w5 (w5.alloc (.cells #[.int .i64 al, .bool false, .slice none 0 0] 40)) := (Below.refl _ _).alloc (Nat.le_refl _) _
    have NS : Hid (NewS w (w5.alloc (.cells #[.int .i64 al, .bool false, .slice none 0 0] 40)) g gn w5.heap.size al (qof al y) q2 m2 mc2 fs2 zs e00) := ⟨HS.out.1.below hal7, HS.out.2.2.2.2.1.below hal7, by simp [go_sem], by simp [go_sem, e00], by simp [go_sem, e00], by rw [qof, if_neg h3]; exact re_zero _ _, bnext' hB6 hal7⟩
    generalize w5.alloc (.cells #[.int .i64 al, .bool false, .slice none 0 0] 40) = W7 at *
    generalize w5.heap.size = gq at *
    generalize e00 = xe at *
    clear hal7 HS hB6
    have hm7' := hm7
    have hxt := tlen_le zs
    have hzl := NS.out.pa.zl
    obtain ⟨k0, k1, k2⟩ := (⟨NS.out.c0, NS.out.c1, NS.out.c2⟩ : _ ∧ _ ∧ _)
    go_cut [12] (fun ov wq => ov = .bool true ∧ Hid (NewS w wq g gn gq al (qof al y) q2 m2 mc2 fs2 zs xe))
    case first =>
      go_region_held3 (fun w' => w'.cell? ⟨gq, 0, none⟩ = some (.int .i64 al) ∧ w'.cell? ⟨gq, 1, none⟩ = some (.bool xe.s) ∧ w'.cell? ⟨gq, 2, none⟩ = some (.slice xe.p xe.n xe.c)) (first | with_reducible exact ⟨k0, k1, k2⟩ | with_reducible exact ⟨p0, p1, p2⟩ | with_reducible exact ⟨q0, q1, q2'⟩ | with_reducible exact ⟨r0, r1, r2⟩ | with_reducible exact ⟨s0, s1, s2⟩ | (simp [go_sem, *]; done))
        (first
          | (go_at_call 16; go_fit (oSigma_all (NS.out.rq.below (Below.refl _ _).drew) (NS.out.pa.below (Below.refl _ _).drew) (by omega) (by decide)); rintro r v1 ⟨p4, n4, e4, rfl, hN1, hv1⟩; have hV1 := undrew hv1; have p0 := cell_later hV1 k0; have p1 := cell_later hV1 k1; have p2 := cell_later hV1 k2)
          | (go_at_call 18; go_fit (rpFrom_any (NS.out.pa.below hV1) (by omega) (by decide)); rintro r v2 ⟨p5, n5, e5, rfl, hR2, hF2, ht2, hv2⟩; have hV2 := bnext' hV1 hv2; have q0 := cell_later hv2 p0; have q1 := cell_later hv2 p1; have q2' := cell_later hv2 p2)
          | (go_at_call 17; go_fit (rSigma_all (u := xe) (M := 2) (K := 3) NS.out.rq.a (fun h => ⟨NS.out.re.below hV2, NS.out.rq.q h⟩) NS.out.rq.bd hR2 (by rw [tlen_tr, length_tr]) (by rw [tlen_tr] at ht2; omega) (by decide) (by decide) (by decide) (fun i => by rw [gx_tr]; exact NS.out.pa.gbd i) (by rw [tlen_tr] at ht2; omega)); rintro r v3 ⟨p6, n6, c6, e6, rfl, hR3, hv3⟩; rw [SGM_tr] at hR3; have hV3 := bnext' hV2 hv3; have r0 := cell_later hv3 q0; have r1 := cell_later hv3 q1; have r2 := cell_later hv3 q2')
          | (go_at_call 15; go_fit (rpIs3 ((hN1.below hv2).below hv3) hR3 (by omega) (by rw [tlen_tr] at ht2; omega) (by have := hN1.zl; have := SGM_len al (qof al y) zs; omega)); rintro r v4 ⟨rfl, hv4⟩; have hV4 := bnext' hV3 hv4; have s0 := cell_later hv4 r0; have s1 := cell_later hv4 r1; have s2 := cell_later hv4 r2))
      all_goals
        have H3 : Hid (NewS w v4 g gn gq al (qof al y) q2 m2 mc2 fs2 zs xe) := NS.out.later hV4
        clear hN1 hR2 hR3
        go_wp2_with fail
        go_meet
        exact ⟨rfl, H3.out⟩
    case rest =>
      obtain ⟨rfl, NS2⟩ := hcut
      clear k0 k1 k2 NS
      go_wp2_with fail
      obtain ⟨k0, k1, k2⟩ := (⟨NS2.out.c0, NS2.out.c1, NS2.out.c2⟩ : _ ∧ _ ∧ _)
      go_cut [13] (fun ov wq => ov = .bool true ∧ Hid (NewS w wq g gn gq al (qof al y) q2 m2 mc2 fs2 zs xe))
      case first =>
        go_region_held3 (fun w' => w'.cell? ⟨gq, 0, none⟩ = some (.int .i64 al) ∧ w'.cell? ⟨gq, 1, none⟩ = some (.bool xe.s) ∧ w'.cell? ⟨gq, 2, none⟩ = some (.slice xe.p xe.n xe.c)) (first | with_reducible exact ⟨k0, k1, k2⟩ | with_reducible exact ⟨p0, p1, p2⟩ | with_reducible exact ⟨q0, q1, q2'⟩ | with_reducible exact ⟨r0, r1, r2⟩ | with_reducible exact ⟨s0, s1, s2⟩ | (simp [go_sem, *]; done))
          (first
            | (go_at_call 19; go_fit (oDelta_all (NS2.out.rq.below (Below.refl _ _).drew) (NS2.out.pa.below (Below.refl _ _).drew) (by omega) (by decide)); rintro r v1 ⟨p4, n4, e4, rfl, hN1, hv1⟩; have hV1 := undrew hv1; have p0 := cell_later hV1 k0; have p1 := cell_later hV1 k1; have p2 := cell_later hV1 k2)
            | (go_at_call 18; go_fit (rpFrom_any (NS2.out.pa.below hV1) (by omega) (by decide)); rintro r v2 ⟨p5, n5, e5, rfl, hR2, hF2, ht2, hv2⟩; have hV2 := bnext' hV1 hv2; have q0 := cell_later hv2 p0; have q1 := cell_later hv2 p1; have q2' := cell_later hv2 p2)
            | (go_at_call 20; go_fit (rDelta_all (u := xe) (K := 3) hR2 (by rw [tlen_tr, length_tr]) (by rw [tlen_tr] at ht2; omega) (by decide) (fun i => by rw [gx_tr]; exact NS2.out.pa.gbd i)); rintro r v3 ⟨p6, n6, c6, e6, rfl, hR3, hv3⟩; rw [DLM_tr] at hR3; have hV3 := bnext' hV2 hv3; have r0 := cell_later hv3 q0; have r1 := cell_later hv3 q1; have r2 := cell_later hv3 q2')
            | (go_at_call 15; go_fit (rpIs3 ((hN1.below hv2).below hv3) hR3 (by omega) (by rw [tlen_tr] at ht2; omega) (by have := hN1.zl; have := DLM_len al zs; omega)); rintro r v4 ⟨rfl, hv4⟩; have hV4 := bnext' hV3 hv4; have s0 := cell_later hv4 r0; have s1 := cell_later hv4 r1; have s2 := cell_later hv4 r2))
        all_goals
          have H3 : Hid (NewS w v4 g gn gq al (qof al y) q2 m2 mc2 fs2 zs xe) := NS2.out.later hV4
          clear hN1 hR2 hR3
          go_wp2_with fail
          go_meet
          exact ⟨rfl, H3.out⟩
      case rest =>
        obtain ⟨rfl, NS3⟩ := hcut
        clear k0 k1 k2 NS2
        go_wp2_with fail
        refine region_openX 21 [(0, 89), (1, 90), (2, 91), (3, 92), (4, 93), (5, 94), (6, 95), (7, 96), (8, 97), (9, 98), (10, 99), (11, 100), (12, 101), (13, 102), (14, 103), (15, 104), (16, 105), (17, 106), (18, 107), (19, 108), (20, 6)] [] [(1, true), (7, true), (14, true), (17, true)]
          [Ax.val (Value.bool true), Ax.val (Value.bool true), Ax.val (Value.pointer (some { block := g, off := 0 })), Ax.val (Value.int IntKind.i64 al), Ax.val (Value.int IntKind.i64 al), Ax.val (Value.bool true), Ax.val (Value.bool true), Ax.val (Value.bool true), Ax.val (Value.pointer (some { block := g, off := 0 })), Ax.nvq (qof al y), Ax.val (Value.pointer (some { block := gq, off := 1 })), Ax.val (Value.agg #[Value.bool xe.s, Value.slice xe.p xe.n xe.c]), Ax.val (Value.bool true), Ax.val (Value.bool true), Ax.val (Value.bool true), Ax.val (Value.bool true), Ax.val (Value.bool true), Ax.val (Value.bool true), Ax.val (Value.bool true), Ax.val (Value.bool true), Ax.val (Value.bool true)]
          (by kernel_rfl) (by kernel_rfl) (by kernel_rfl) ⟨fun _ _ _ h => h, fun _ _ _ h => h, fun _ _ _ h => h, fun _ _ _ h => h, trivial⟩ (by kernel_rfl) (by decide) (by decide) (by rfl) ?_ ?_
        · refine ⟨fun _ => ?_, fun _ => ?_, fun _ => ?_, fun _ => ?_, fun _ => ?_, fun _ => ?_, fun _ => ?_, fun _ => ?_, fun _ => ?_, fun _ => ?_, fun _ => ?_, fun _ => ?_, fun _ => ?_, fun _ => ?_, fun _ => ?_, fun _ => ?_, fun _ => ?_, fun _ => ?_, fun _ => ?_, fun _ => ?_, fun _ => ?_, trivial⟩
          · exact ox_pure rfl fun X ρ v R => ⟨_, by simp [execOp, go_sem], R.old 7 (by decide)⟩
          · exact ox_pure rfl fun X ρ v R => ⟨_, by simp [execOp, go_sem], R.dep 0 89 (by decide) rfl rfl⟩
          · exact ox_pure rfl fun X ρ v R => ⟨_, by simp [execOp, go_sem], R.old 9 (by decide)⟩
          · exact ox_call 21 rfl fun X ρ v R => by
              have e91 : ρ (.tmp 91) = Value.pointer (some { block := g, off := 0 }) := R.dep 2 91 (by decide) rfl rfl
              exact ⟨_, by simp [execOp, go_sem, e91, R.fn], an_valN (oAlg_all (NS3.out.rq.below R.b))⟩
          · exact ox_pure rfl fun X ρ v R => ⟨_, by simp [execOp, go_sem], R.old 0 (by decide)⟩
          · exact ox_pure rfl fun X ρ v R => by
              have e92 : ρ (.tmp 92) = Value.int IntKind.i64 al := R.dep 3 92 (by decide) rfl rfl
              have e93 : ρ (.tmp 93) = Value.int IntKind.i64 al := R.dep 4 93 (by decide) rfl rfl
              exact ⟨_, by simp [execOp, go_sem, e92, e93], rfl⟩
          · exact ox_pure rfl fun X ρ v R => by
              have e90 : ρ (.tmp 90) = Value.bool true := R.dep 1 90 (by decide) rfl rfl
              have e94 : ρ (.tmp 94) = Value.bool true := R.dep 5 94 (by decide) rfl rfl
              exact ⟨_, by simp [execOp, go_sem, e90, e94, R.con], rfl⟩
          · exact ox_pure rfl fun X ρ v R => ⟨_, by simp [execOp, go_sem], R.dep 6 95 (by decide) rfl rfl⟩
          · exact ox_pure rfl fun X ρ v R => ⟨_, by simp [execOp, go_sem], R.old 9 (by decide)⟩
          · exact ox_call 23 rfl fun X ρ v R => by
              have e97 : ρ (.tmp 97) = Value.pointer (some { block := g, off := 0 }) := R.dep 8 97 (by decide) rfl rfl
              exact ⟨_, by simp [execOp, go_sem, e97, R.fn], nvq_ax (NS3.out.rq.below R.b)⟩
          · exact ox_pure rfl fun X ρ v R => by
              have e11 : ρ (.tmp 11) = Value.pointer (some { block := gq, off := 0 }) := R.old 11 (by decide)
              exact ⟨_, by simp [execOp, go_sem, e11], rfl⟩
          · exact ox_pure rfl fun X ρ v R => by
              have e99 : ρ (.tmp 99) = Value.pointer (some { block := gq, off := 1 }) := R.dep 10 99 (by decide) rfl rfl
              have x0 := cell_later R.b NS3.out.c1
              have x1 := cell_later R.b NS3.out.c2
              exact ⟨_, by simp [execOp, go_sem, e99, x0, x1], rfl⟩
          · exact ox_call 22 rfl fun X ρ v R => by
              obtain ⟨u98, B98, e98, H98⟩ := R.dep 9 98 (by decide) rfl rfl
              have e100 : ρ (.tmp 100) = Value.agg #[Value.bool xe.s, Value.slice xe.p xe.n xe.c] := R.dep 11 100 (by decide) rfl rfl
              exact ⟨_, by simp [execOp, go_sem, e98, e100, R.fn], an_valN (rIs_e H98 (by decide) (NS3.out.re.below R.b) (by decide))⟩
          · exact ox_pure rfl fun X ρ v R => by
              have e96 : ρ (.tmp 96) = Value.bool true := R.dep 7 96 (by decide) rfl rfl
              have e101 : ρ (.tmp 101) = Value.bool true := R.dep 12 101 (by decide) rfl rfl
              exact ⟨_, by simp [execOp, go_sem, e96, e101, R.con], rfl⟩
          · exact ox_pure rfl fun X ρ v R => ⟨_, by simp [execOp, go_sem], R.dep 13 102 (by decide) rfl rfl⟩
          · exact ox_pure rfl fun X ρ v R => ⟨_, by simp [execOp, go_sem], R.old 12 (by decide)⟩
          · exact ox_pure rfl fun X ρ v R => by
              have e103 : ρ (.tmp 103) = Value.bool true := R.dep 14 103 (by decide) rfl rfl
              have e104 : ρ (.tmp 104) = Value.bool true := R.dep 15 104 (by decide) rfl rfl
              exact ⟨_, by simp [execOp, go_sem, e103, e104, R.con], rfl⟩
          · exact ox_pure rfl fun X ρ v R => ⟨_, by simp [execOp, go_sem], R.dep 16 105 (by decide) rfl rfl⟩
          · exact ox_pure rfl fun X ρ v R => ⟨_, by simp [execOp, go_sem], R.old 13 (by decide)⟩
          · exact ox_pure rfl fun X ρ v R => by
              have e106 : ρ (.tmp 106) = Value.bool true := R.dep 17 106 (by decide) rfl rfl
              have e107 : ρ (.tmp 107) = Value.bool true := R.dep 18 107 (by decide) rfl rfl
              exact ⟨_, by simp [execOp, go_sem, e106, e107, R.con], rfl⟩
          · exact ox_pure rfl fun X ρ v R => ⟨_, by simp [execOp, go_sem], R.dep 19 108 (by decide) rfl rfl⟩
        intro vals w8 hb8 hv
        have e_0 : vals 0 = Value.bool true := hv (0, 89) (by decide)
        have e_1 : vals 1 = Value.bool true := hv (1, 90) (by decide)
        have e_2 : vals 2 = Value.pointer (some { block := g, off := 0 }) := hv (2, 91) (by decide)
        have e_3 : vals 3 = Value.int IntKind.i64 al := hv (3, 92) (by decide)
        have e_4 : vals 4 = Value.int IntKind.i64 al := hv (4, 93) (by decide)
        have e_5 : vals 5 = Value.bool true := hv (5, 94) (by decide)
        have e_6 : vals 6 = Value.bool true := hv (6, 95) (by decide)
        have e_7 : vals 7 = Value.bool true := hv (7, 96) (by decide)
        have e_8 : vals 8 = Value.pointer (some { block := g, off := 0 }) := hv (8, 97) (by decide)
        obtain ⟨u_9, B_9, e_9, H_9⟩ := hv (9, 98) (by decide)
        have e_10 : vals 10 = Value.pointer (some { block := gq, off := 1 }) := hv (10, 99) (by decide)
        have e_11 : vals 11 = Value.agg #[Value.bool xe.s, Value.slice xe.p xe.n xe.c] := hv (11, 100) (by decide)
        have e_12 : vals 12 = Value.bool true := hv (12, 101) (by decide)
        have e_13 : vals 13 = Value.bool true := hv (13, 102) (by decide)
        have e_14 : vals 14 = Value.bool true := hv (14, 103) (by decide)
        have e_15 : vals 15 = Value.bool true := hv (15, 104) (by decide)
        have e_16 : vals 16 = Value.bool true := hv (16, 105) (by decide)
        have e_17 : vals 17 = Value.bool true := hv (17, 106) (by decide)
        have e_18 : vals 18 = Value.bool true := hv (18, 107) (by decide)
        have e_19 : vals 19 = Value.bool true := hv (19, 108) (by decide)
        have e_20 : vals 20 = Value.bool true := hv (20, 6) (by decide)
        refine ends_none rfl ?_
        simp only [List.foldl, e_0, e_1, e_2, e_3, e_4, e_5, e_6, e_7, e_8, e_9, e_10, e_11, e_12, e_13, e_14, e_15, e_16, e_17, e_18, e_19, e_20, List.setIfInBounds_toArray, List.set_cons_succ, List.set_cons_zero]
        clear hv e_0 e_1 e_2 e_3 e_4 e_5 e_6 e_7 e_8 e_9 e_10 e_11 e_12 e_13 e_14 e_15 e_16 e_17 e_18 e_19 e_20
        have HB : Hid (Below w.heap.size w w8) := bnext' NS3.out.b hb8
        clear hb8 NS3
        go_wp2
        go_ret
        exact ⟨rfl, HB.out⟩
end Go.Proofs.YtifebbacnlhggaaGreatDoor
