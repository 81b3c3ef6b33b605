/-
  ashlarref1.Quo where it does not go.
-/
import Derived.Test.YtdjjlghlcffflaaGreatDoorYpRn
import Derived.Test.YtdjjlghlcffflaaGreatDoorVqDcUjLeUkWi
import Derived.Deep.DeepFit
namespace Go.Proofs.YtdjjlghlcffflaaGreatDoor
open Go.RowKit
set_option linter.unusedVariables false
set_option linter.unusedSimpArgs false
set_option maxHeartbeats 8000000
def RyPost (w : World) (e : Ending) (w' : World) : Prop :=
  ∃ u v : Ent, e = .returned (.tuple #[.agg #[.bool u.s, .slice u.p u.n u.c], .agg #[.bool v.s, .slice v.p v.n v.c]]) ∧ (∃ N z, RE w' N z v ∧ z ≠ 0) ∧ Below w.heap.size w w'
theorem rSub_e {w : World} {N M : Nat} {x y : Int} {e f : Ent} (h : RE w N x e) (k : RE w M y f) (hN : N ≤ 1000) (hM : M ≤ 1000) :
    Calls Tryz.prog 147 #[.agg #[.bool e.s, .slice e.p e.n e.c], .agg #[.bool f.s, .slice f.p f.n f.c]] w fun r w' => ∃ u : Ent, r = .returned (.agg #[.bool u.s, .slice u.p u.n u.c]) ∧ RE w' (N + M + 1) (x - y) u ∧ Go.Proofs.YtdjjlghlcffflaaGreatDoor.From w.heap.size u.p ∧ Below w.heap.size w w' := by
  obtain ⟨⟨xs, h1, rfl, h3⟩, h4⟩ := h
  obtain ⟨⟨ys, k1, rfl, k3⟩, k4⟩ := k
  rw [h4, k4]
  refine (rSub_rn h1 k1 (by omega) (by omega)).mono ?_
  rintro r w1 ⟨s, p, n, d, rfl, g1, g2, g3, g4, g5⟩
  exact ⟨⟨s, p, n, n⟩, rfl, ⟨⟨d, g1, g2, by show n ≤ _; omega⟩, rfl⟩, g4, g5⟩
theorem keep6u {w : World} {r1 r2 r3 g : Nat} {u v s0 s1 s2 s3 s4 s5 : Value} (h : w.cell? ⟨r1, 0, none⟩ = some s0 ∧ w.cell? ⟨r1, 1, none⟩ = some s1 ∧ w.cell? ⟨r2, 0, none⟩ = some s2 ∧ w.cell? ⟨r2, 1, none⟩ = some s3 ∧ w.cell? ⟨r3, 0, none⟩ = some s4 ∧ w.cell? ⟨r3, 1, none⟩ = some s5) (hg : r1 ≠ g ∧ r2 ≠ g ∧ r3 ≠ g) :
    ((w.setCell ⟨g, 0, none⟩ u).setCell ⟨g, 1, none⟩ v).cell? ⟨r1, 0, none⟩ = some s0 ∧ ((w.setCell ⟨g, 0, none⟩ u).setCell ⟨g, 1, none⟩ v).cell? ⟨r1, 1, none⟩ = some s1 ∧ ((w.setCell ⟨g, 0, none⟩ u).setCell ⟨g, 1, none⟩ v).cell? ⟨r2, 0, none⟩ = some s2 ∧ ((w.setCell ⟨g, 0, none⟩ u).setCell ⟨g, 1, none⟩ v).cell? ⟨r2, 1, none⟩ = some s3 ∧ ((w.setCell ⟨g, 0, none⟩ u).setCell ⟨g, 1, none⟩ v).cell? ⟨r3, 0, none⟩ = some s4 ∧ ((w.setCell ⟨g, 0, none⟩ u).setCell ⟨g, 1, none⟩ v).cell? ⟨r3, 1, none⟩ = some s5 := by
  obtain ⟨h0, h1, h2, h3, h4, h5⟩ := h
  obtain ⟨g1, g2, g3⟩ := hg
  have far : ∀ (r o : Nat) (x : Value), r ≠ g → w.cell? ⟨r, o, none⟩ = some x → ((w.setCell ⟨g, 0, none⟩ u).setCell ⟨g, 1, none⟩ v).cell? ⟨r, o, none⟩ = some x := fun r o x hr hx => by
    rw [World.cell?_setCell_far _ _ _ _ (fun e => hr e.symm), World.cell?_setCell_far _ _ _ _ (fun e => hr e.symm)]
    exact hx
  exact ⟨far _ _ _ g1 h0, far _ _ _ g1 h1, far _ _ _ g2 h2, far _ _ _ g2 h3, far _ _ _ g3 h4, far _ _ _ g3 h5⟩
set_option maxRecDepth 100000 in
theorem rQuo_ne_false_false (p q : Option Addr) (n m : Nat) (ds es : List Int) (w : World) (hA : RN w false p n ds) (hB : RN w false q m es) (hn : n ≤ 900) (hm : m ≤ 900) (hm0 : 0 < m) (hx : ¬ ∃ c, vd ds = c * vd es) :
    Calls Tryz.prog 91 #[.agg #[.bool false, .slice p n n], .agg #[.bool false, .slice q m m]] w (RyPost w) := by
  have HX := (show Hid _ from hx)
  clear hx
  go_enter Tryz.func91, Tryz.ntmps91
  go_upto_region 1 with fail
  have b1 : Bx (((((w.alloc (.cells #[.bool false, .slice p n n] 65)).alloc (.cells #[.bool false, .slice q m m] 65)).alloc (.cells #[.bool false, .slice none 0 0] 65)).alloc (.cells #[.bool false, .slice none 0 0] 65))) w.heap.size (.bool false) (.slice p n n) := (((Bx.new _ _ _ rfl).alloc _).alloc _).alloc _
  have b2 : Bx (((((w.alloc (.cells #[.bool false, .slice p n n] 65)).alloc (.cells #[.bool false, .slice q m m] 65)).alloc (.cells #[.bool false, .slice none 0 0] 65)).alloc (.cells #[.bool false, .slice none 0 0] 65))) (w.heap.size + 1) (.bool false) (.slice q m m) := ((Bx.new _ _ _ (World.size_alloc ..).symm).alloc _).alloc _
  have b3 : Bx (((((w.alloc (.cells #[.bool false, .slice p n n] 65)).alloc (.cells #[.bool false, .slice q m m] 65)).alloc (.cells #[.bool false, .slice none 0 0] 65)).alloc (.cells #[.bool false, .slice none 0 0] 65))) (w.heap.size + 1 + 1) (.bool false) (.slice none 0 0) := (Bx.new _ _ _ (by rw [World.size_alloc, World.size_alloc])).alloc _
  have b4 : Bx (((((w.alloc (.cells #[.bool false, .slice p n n] 65)).alloc (.cells #[.bool false, .slice q m m] 65)).alloc (.cells #[.bool false, .slice none 0 0] 65)).alloc (.cells #[.bool false, .slice none 0 0] 65))) (w.heap.size + 1 + 1 + 1) (.bool false) (.slice none 0 0) := Bx.new _ _ _ (by rw [World.size_alloc, World.size_alloc, World.size_alloc])
  have hbw : Below w.heap.size w (((((w.alloc (.cells #[.bool false, .slice p n n] 65)).alloc (.cells #[.bool false, .slice q m m] 65)).alloc (.cells #[.bool false, .slice none 0 0] 65)).alloc (.cells #[.bool false, .slice none 0 0] 65))) := bel_al (bel_al (bel_al (bel_al (Below.refl _ _))))
  generalize ((((w.alloc (.cells #[.bool false, .slice p n n] 65)).alloc (.cells #[.bool false, .slice q m m] 65)).alloc (.cells #[.bool false, .slice none 0 0] 65)).alloc (.cells #[.bool false, .slice none 0 0] 65)) = W at *
  have hA1 := hA.below hbw
  have hB1 := hB.below hbw
  have k1 := b1.c1
  have k2 := b2.c1
  go_wp2_with fail
  refine (rdivide_any p q n n m m ds es _ hA1.len (by omega) (Nat.le_refl _) (by unfold maxLen; omega) hA1.rd hA1.u hA1.nrm hB1.len hm0 (by omega) hB1.rd hB1.u hB1.nrm).mono ?_
  rintro e w1 ⟨qa, qn, qc, qs, ra, rn, rc, rs, rfl, q1, q2, q3, q4, q5, q6, r1, r2, r3, r4, r5, r6, eq, lt, hb1, qf, rf⟩
  have c1 := b1.later hb1
  have c2 := b2.later hb1
  have c3 := b3.later hb1
  have c4 := b4.later hb1
  have hbw1 := bnext hbw (Nat.le_refl _) hb1
  have hWs : w.heap.size + 1 + 1 + 1 < W.heap.size := block_lt_of_cell b4.c0
  have HW : Hid (w.heap.size + 1 + 1 + 1 < W.heap.size ∧ W.heap.size ≤ w1.heap.size) := ⟨hWs, hb1.size⟩
  have hr0 : 0 < vd rs := by
    have h1 := vd_nonneg r2
    rcases (show vd rs = 0 ∨ 0 < vd rs by omega) with h2 | h2
    · exact absurd ⟨vd qs, by rw [h2, Int.add_zero] at eq; exact eq.symm⟩ HX.out
    · exact h2
  have hlr : 0 < tlen rs := by
    rcases Nat.eq_zero_or_pos (tlen rs) with h1 | h1
    · have := (tlen_zero_iff16 r2).1 h1; omega
    · exact h1
  have hdl : 0 < ds.length := by
    rcases Nat.eq_zero_or_pos ds.length with h1 | h1
    · have h2 : ds = [] := List.eq_nil_of_length_eq_zero h1
      have h3 := Int.mul_nonneg (vd_nonneg q2) (vd_nonneg hB.u)
      rw [h2, show vd [] = 0 from rfl] at eq
      omega
    · exact h1
  have htq : tlen qs ≤ 990 := by have := tlen_le qs; omega
  have htr' : tlen rs ≤ 990 := by have := tlen_le rs; omega
  have HT : Hid (0 < tlen rs ∧ U16 rs ∧ 0 < vd rs ∧ vd rs < vd es ∧ (ra = p ∨ Go.Proofs.YtdjjlghlcffflaaGreatDoor.From W.heap.size ra) ∧ 0 < ds.length) := ⟨hlr, r2, hr0, lt, rf, hdl⟩
  have HQ : Hid (U16 qs ∧ Go.Proofs.YtdjjlghlcffflaaGreatDoor.From W.heap.size qa) := ⟨q2, qf⟩
  have HBB := (show Hid _ from hB1.below hb1)
  have HAA := (show Hid _ from hA)
  clear rf hWs eq lt hr0 hlr hdl b1 b2 b3 b4 hbw k1 k2 hA1 hB1 q2 r2 qf hA hB
  have k0 := c1.c0
  have k1 := c2.c0
  go_wp2_with fail
  refine (rtrim_any false qa qn qc qs _ q3 q4 q5 q1).mono ?_
  rintro e w2 ⟨rfl, hb2⟩
  generalize hs1 : nsg false qs = s1
  have HS1 := (show Hid _ from hs1)
  clear hs1
  have hal2 : Below w2.heap.size w2 (w2.alloc (.cells #[.bool s1, .slice qa (tlen qs) (tlen qs)] 65)) := bel_al (Below.refl _ _)
  have x2 : Bx (w2.alloc (.cells #[.bool s1, .slice qa (tlen qs) (tlen qs)] 65)) w2.heap.size (.bool s1) (.slice qa (tlen qs) (tlen qs)) := Bx.new _ _ _ rfl
  have d1 := (c1.later hb2).later hal2
  have d2 := (c2.later hb2).later hal2
  have d3 := (c3.later hb2).later hal2
  have d4 := (c4.later hb2).later hal2
  have e1 := (q1.below hb2).below hal2
  have e2 := (r1.below hb2).below hal2
  have hbw2 := bnext (bnext hbw1 (Nat.le_refl _) hb2) (Nat.le_refl _) hal2
  have HB2 : Hid (w1.heap.size ≤ w2.heap.size) := hb2.size
  have HB3 := (show Hid _ from (HBB.out.below hb2).below hal2)
  clear c1 c2 c3 c4 k0 k1 q1 r1 hbw1 hb2 hal2
  have k0 := d1.c0
  go_wp2_with fail
  have HG2 : Hid (w1.heap.size ≤ w2.heap.size ∧ w2.heap.size ≤ (w2.alloc (.cells #[.bool s1, .slice qa (tlen qs) (tlen qs)] 65)).heap.size) := ⟨HB2.out, by simp⟩
  generalize (w2.alloc (.cells #[.bool s1, .slice qa (tlen qs) (tlen qs)] 65)) = W2 at *
  generalize w2.heap.size = gx2 at *
  refine (rtrim_any false ra rn rc rs _ r3 r4 r5 e2).mono ?_
  rintro e w3 ⟨rfl, hb3⟩
  have hns : nsg false rs = false := by rw [nsg, if_neg (by have := HT.out.1; omega)]
  rw [hns]
  clear hns
  have hal3 : Below w3.heap.size w3 (w3.alloc (.cells #[.bool false, .slice ra (tlen rs) (tlen rs)] 65)) := bel_al (Below.refl _ _)
  have y3 : Bx (w3.alloc (.cells #[.bool false, .slice ra (tlen rs) (tlen rs)] 65)) w3.heap.size (.bool false) (.slice ra (tlen rs) (tlen rs)) := Bx.new _ _ _ rfl
  have x3 := (x2.later hb3).later hal3
  have f2 := (d2.later hb3).later hal3
  have f3 := (d3.later hb3).later hal3
  have HB4 := (show Hid _ from (HB3.out.below hb3).below hal3)
  have g2 := (e2.below hb3).below hal3
  have f4 := (d4.later hb3).later hal3
  have g1 := (e1.below hb3).below hal3
  have hbw3 := bnext (bnext hbw2 (Nat.le_refl _) hb3) (Nat.le_refl _) hal3
  have HG : Hid (gx2 ≠ w.heap.size + 1 + 1 ∧ gx2 ≠ w.heap.size + 1 + 1 + 1 ∧ w3.heap.size ≠ w.heap.size + 1 + 1 ∧ w3.heap.size ≠ w.heap.size + 1 + 1 + 1) := by
    have h1 := HG2.out
    have h2 := HW.out
    have h3 := hb3.size
    exact ⟨by omega, by omega, by omega, by omega⟩
  clear d1 d2 d3 d4 k0 x2 e1 e2 hbw2 hb3 hal3 HB3 HBB
  have k0 := y3.c0
  have k1 := y3.c1
  have k2 := x3.c0
  have k3 := x3.c1
  have z0 := f3.c0
  have z1 := f3.c1
  have z2 := f4.c0
  have z3 := f4.c1
  have v0 := f3.f0
  have v1 := f3.f1
  have v2 := f4.f0
  have v3 := f4.f1
  have k4 := f2.c0
  have k5 := f2.c1
  go_wp2_with fail
  generalize (w3.alloc (.cells #[.bool false, .slice ra (tlen rs) (tlen rs)] 65)) = W3 at *
  generalize w3.heap.size = gx3 at *
  have hg2 : gx2 ≠ w.heap.size + 1 + 1 ∧ gx2 ≠ w.heap.size + 1 + 1 + 1 ∧ gx3 ≠ w.heap.size + 1 + 1 ∧ gx3 ≠ w.heap.size + 1 + 1 + 1 := HG.out
  obtain ⟨o1, o2, o3, o4⟩ := hg2
  have hYN : RN W3 false ra (tlen rs) (tr rs) := by
    have h1 := rn_trims false g2 HT.out.2.1 (by omega)
    rwa [show nsg false rs = false by rw [nsg, if_neg (by have := HT.out.1; omega)]] at h1
  have hWW := HW.out.1
  go_region
  all_goals go_wp2
  have hO : ∀ y, w.heap.size ≤ y → y < W.heap.size → 0 < tlen rs → Off y ra := fun y h1 h2 _ a ha e => by
    rcases HT.out.2.2.2.2.1 with h3 | h3
    · rw [h3] at ha
      obtain ⟨b0, o0, hp0, hlt0⟩ := HAA.out.rd.lt HT.out.2.2.2.2.2
      rw [hp0] at ha
      cases ha
      dsimp only at e
      omega
    · have := h3 a ha
      omega
  have hO1 := hO (w.heap.size + 1 + 1) (by omega) (by omega)
  have hO2 := hO (w.heap.size + 1 + 1 + 1) (by omega) (by omega)
  refine bodyPost_ret (v := .tuple #[.agg #[.bool s1, .slice qa (tlen qs) (tlen qs)], .agg #[.bool false, .slice ra (tlen rs) (tlen rs)]]) (by simp [results, Tryz.results91, go_sem, z0, z1, z2, z3]) rfl ⟨⟨s1, qa, tlen qs, tlen qs⟩, ⟨false, ra, tlen rs, tlen rs⟩, rfl, ⟨_, vd rs, ⟨⟨tr rs, ?_, by show vd (tr rs) = vd rs; exact vd_tr rs, Nat.le_refl _⟩, rfl⟩, by have := HT.out; omega⟩, ?_⟩
  · exact ((((hYN.drew.set (a := ⟨w.heap.size + 1 + 1, 0, none⟩) hO1 _).set (a := ⟨w.heap.size + 1 + 1, 1, none⟩) hO1 _).set (a := ⟨w.heap.size + 1 + 1 + 1, 0, none⟩) hO2 _).set (a := ⟨w.heap.size + 1 + 1 + 1, 1, none⟩) hO2 _)
  · exact (((hbw3.drew.setCell (p := ⟨w.heap.size + 1 + 1, 0, none⟩) (by simp; omega) _).setCell (p := ⟨w.heap.size + 1 + 1, 1, none⟩) (by simp; omega) _).setCell (p := ⟨w.heap.size + 1 + 1 + 1, 0, none⟩) (by simp; omega) _).setCell (p := ⟨w.heap.size + 1 + 1 + 1, 1, none⟩) (by simp; omega) _
set_option maxRecDepth 100000 in
theorem rQuo_ne_false_true (p q : Option Addr) (n m : Nat) (ds es : List Int) (w : World) (hA : RN w false p n ds) (hB : RN w true q m es) (hn : n ≤ 900) (hm : m ≤ 900) (hm0 : 0 < m) (hx : ¬ ∃ c, vd ds = c * vd es) :
    Calls Tryz.prog 91 #[.agg #[.bool false, .slice p n n], .agg #[.bool true, .slice q m m]] w (RyPost w) := by
  have HX := (show Hid _ from hx)
  clear hx
  go_enter Tryz.func91, Tryz.ntmps91
  go_upto_region 1 with fail
  have b1 : Bx (((((w.alloc (.cells #[.bool false, .slice p n n] 65)).alloc (.cells #[.bool true, .slice q m m] 65)).alloc (.cells #[.bool false, .slice none 0 0] 65)).alloc (.cells #[.bool false, .slice none 0 0] 65))) w.heap.size (.bool false) (.slice p n n) := (((Bx.new _ _ _ rfl).alloc _).alloc _).alloc _
  have b2 : Bx (((((w.alloc (.cells #[.bool false, .slice p n n] 65)).alloc (.cells #[.bool true, .slice q m m] 65)).alloc (.cells #[.bool false, .slice none 0 0] 65)).alloc (.cells #[.bool false, .slice none 0 0] 65))) (w.heap.size + 1) (.bool true) (.slice q m m) := ((Bx.new _ _ _ (World.size_alloc ..).symm).alloc _).alloc _
  have b3 : Bx (((((w.alloc (.cells #[.bool false, .slice p n n] 65)).alloc (.cells #[.bool true, .slice q m m] 65)).alloc (.cells #[.bool false, .slice none 0 0] 65)).alloc (.cells #[.bool false, .slice none 0 0] 65))) (w.heap.size + 1 + 1) (.bool false) (.slice none 0 0) := (Bx.new _ _ _ (by rw [World.size_alloc, World.size_alloc])).alloc _
  have b4 : Bx (((((w.alloc (.cells #[.bool false, .slice p n n] 65)).alloc (.cells #[.bool true, .slice q m m] 65)).alloc (.cells #[.bool false, .slice none 0 0] 65)).alloc (.cells #[.bool false, .slice none 0 0] 65))) (w.heap.size + 1 + 1 + 1) (.bool false) (.slice none 0 0) := Bx.new _ _ _ (by rw [World.size_alloc, World.size_alloc, World.size_alloc])
  have hbw : Below w.heap.size w (((((w.alloc (.cells #[.bool false, .slice p n n] 65)).alloc (.cells #[.bool true, .slice q m m] 65)).alloc (.cells #[.bool false, .slice none 0 0] 65)).alloc (.cells #[.bool false, .slice none 0 0] 65))) := bel_al (bel_al (bel_al (bel_al (Below.refl _ _))))
  generalize ((((w.alloc (.cells #[.bool false, .slice p n n] 65)).alloc (.cells #[.bool true, .slice q m m] 65)).alloc (.cells #[.bool false, .slice none 0 0] 65)).alloc (.cells #[.bool false, .slice none 0 0] 65)) = W at *
  have hA1 := hA.below hbw
  have hB1 := hB.below hbw
  have k1 := b1.c1
  have k2 := b2.c1
  go_wp2_with fail
  refine (rdivide_any p q n n m m ds es _ hA1.len (by omega) (Nat.le_refl _) (by unfold maxLen; omega) hA1.rd hA1.u hA1.nrm hB1.len hm0 (by omega) hB1.rd hB1.u hB1.nrm).mono ?_
  rintro e w1 ⟨qa, qn, qc, qs, ra, rn, rc, rs, rfl, q1, q2, q3, q4, q5, q6, r1, r2, r3, r4, r5, r6, eq, lt, hb1, qf, rf⟩
  have c1 := b1.later hb1
  have c2 := b2.later hb1
  have c3 := b3.later hb1
  have c4 := b4.later hb1
  have hbw1 := bnext hbw (Nat.le_refl _) hb1
  have hWs : w.heap.size + 1 + 1 + 1 < W.heap.size := block_lt_of_cell b4.c0
  have HW : Hid (w.heap.size + 1 + 1 + 1 < W.heap.size ∧ W.heap.size ≤ w1.heap.size) := ⟨hWs, hb1.size⟩
  have hr0 : 0 < vd rs := by
    have h1 := vd_nonneg r2
    rcases (show vd rs = 0 ∨ 0 < vd rs by omega) with h2 | h2
    · exact absurd ⟨vd qs, by rw [h2, Int.add_zero] at eq; exact eq.symm⟩ HX.out
    · exact h2
  have hlr : 0 < tlen rs := by
    rcases Nat.eq_zero_or_pos (tlen rs) with h1 | h1
    · have := (tlen_zero_iff16 r2).1 h1; omega
    · exact h1
  have hdl : 0 < ds.length := by
    rcases Nat.eq_zero_or_pos ds.length with h1 | h1
    · have h2 : ds = [] := List.eq_nil_of_length_eq_zero h1
      have h3 := Int.mul_nonneg (vd_nonneg q2) (vd_nonneg hB.u)
      rw [h2, show vd [] = 0 from rfl] at eq
      omega
    · exact h1
  have htq : tlen qs ≤ 990 := by have := tlen_le qs; omega
  have htr' : tlen rs ≤ 990 := by have := tlen_le rs; omega
  have HT : Hid (0 < tlen rs ∧ U16 rs ∧ 0 < vd rs ∧ vd rs < vd es ∧ (ra = p ∨ Go.Proofs.YtdjjlghlcffflaaGreatDoor.From W.heap.size ra) ∧ 0 < ds.length) := ⟨hlr, r2, hr0, lt, rf, hdl⟩
  have HQ : Hid (U16 qs ∧ Go.Proofs.YtdjjlghlcffflaaGreatDoor.From W.heap.size qa) := ⟨q2, qf⟩
  have HBB := (show Hid _ from hB1.below hb1)
  have HAA := (show Hid _ from hA)
  clear rf hWs eq lt hr0 hlr hdl b1 b2 b3 b4 hbw k1 k2 hA1 hB1 q2 r2 qf hA hB
  have k0 := c1.c0
  have k1 := c2.c0
  go_wp2_with fail
  refine (rtrim_any true qa qn qc qs _ q3 q4 q5 q1).mono ?_
  rintro e w2 ⟨rfl, hb2⟩
  generalize hs1 : nsg true qs = s1
  have HS1 := (show Hid _ from hs1)
  clear hs1
  have hal2 : Below w2.heap.size w2 (w2.alloc (.cells #[.bool s1, .slice qa (tlen qs) (tlen qs)] 65)) := bel_al (Below.refl _ _)
  have x2 : Bx (w2.alloc (.cells #[.bool s1, .slice qa (tlen qs) (tlen qs)] 65)) w2.heap.size (.bool s1) (.slice qa (tlen qs) (tlen qs)) := Bx.new _ _ _ rfl
  have d1 := (c1.later hb2).later hal2
  have d2 := (c2.later hb2).later hal2
  have d3 := (c3.later hb2).later hal2
  have d4 := (c4.later hb2).later hal2
  have e1 := (q1.below hb2).below hal2
  have e2 := (r1.below hb2).below hal2
  have hbw2 := bnext (bnext hbw1 (Nat.le_refl _) hb2) (Nat.le_refl _) hal2
  have HB2 : Hid (w1.heap.size ≤ w2.heap.size) := hb2.size
  have HB3 := (show Hid _ from (HBB.out.below hb2).below hal2)
  clear c1 c2 c3 c4 k0 k1 q1 r1 hbw1 hb2 hal2
  have k0 := d1.c0
  go_wp2_with fail
  have HG2 : Hid (w1.heap.size ≤ w2.heap.size ∧ w2.heap.size ≤ (w2.alloc (.cells #[.bool s1, .slice qa (tlen qs) (tlen qs)] 65)).heap.size) := ⟨HB2.out, by simp⟩
  generalize (w2.alloc (.cells #[.bool s1, .slice qa (tlen qs) (tlen qs)] 65)) = W2 at *
  generalize w2.heap.size = gx2 at *
  refine (rtrim_any false ra rn rc rs _ r3 r4 r5 e2).mono ?_
  rintro e w3 ⟨rfl, hb3⟩
  have hns : nsg false rs = false := by rw [nsg, if_neg (by have := HT.out.1; omega)]
  rw [hns]
  clear hns
  have hal3 : Below w3.heap.size w3 (w3.alloc (.cells #[.bool false, .slice ra (tlen rs) (tlen rs)] 65)) := bel_al (Below.refl _ _)
  have y3 : Bx (w3.alloc (.cells #[.bool false, .slice ra (tlen rs) (tlen rs)] 65)) w3.heap.size (.bool false) (.slice ra (tlen rs) (tlen rs)) := Bx.new _ _ _ rfl
  have x3 := (x2.later hb3).later hal3
  have f2 := (d2.later hb3).later hal3
  have f3 := (d3.later hb3).later hal3
  have HB4 := (show Hid _ from (HB3.out.below hb3).below hal3)
  have g2 := (e2.below hb3).below hal3
  have f4 := (d4.later hb3).later hal3
  have g1 := (e1.below hb3).below hal3
  have hbw3 := bnext (bnext hbw2 (Nat.le_refl _) hb3) (Nat.le_refl _) hal3
  have HG : Hid (gx2 ≠ w.heap.size + 1 + 1 ∧ gx2 ≠ w.heap.size + 1 + 1 + 1 ∧ w3.heap.size ≠ w.heap.size + 1 + 1 ∧ w3.heap.size ≠ w.heap.size + 1 + 1 + 1) := by
    have h1 := HG2.out
    have h2 := HW.out
    have h3 := hb3.size
    exact ⟨by omega, by omega, by omega, by omega⟩
  clear d1 d2 d3 d4 k0 x2 e1 e2 hbw2 hb3 hal3 HB3 HBB
  have k0 := y3.c0
  have k1 := y3.c1
  have k2 := x3.c0
  have k3 := x3.c1
  have z0 := f3.c0
  have z1 := f3.c1
  have z2 := f4.c0
  have z3 := f4.c1
  have v0 := f3.f0
  have v1 := f3.f1
  have v2 := f4.f0
  have v3 := f4.f1
  have k4 := f2.c0
  have k5 := f2.c1
  go_wp2_with fail
  generalize (w3.alloc (.cells #[.bool false, .slice ra (tlen rs) (tlen rs)] 65)) = W3 at *
  generalize w3.heap.size = gx3 at *
  have hg2 : gx2 ≠ w.heap.size + 1 + 1 ∧ gx2 ≠ w.heap.size + 1 + 1 + 1 ∧ gx3 ≠ w.heap.size + 1 + 1 ∧ gx3 ≠ w.heap.size + 1 + 1 + 1 := HG.out
  obtain ⟨o1, o2, o3, o4⟩ := hg2
  have hYN : RN W3 false ra (tlen rs) (tr rs) := by
    have h1 := rn_trims false g2 HT.out.2.1 (by omega)
    rwa [show nsg false rs = false by rw [nsg, if_neg (by have := HT.out.1; omega)]] at h1
  have hWW := HW.out.1
  go_region
  all_goals go_wp2
  have hO : ∀ y, w.heap.size ≤ y → y < W.heap.size → 0 < tlen rs → Off y ra := fun y h1 h2 _ a ha e => by
    rcases HT.out.2.2.2.2.1 with h3 | h3
    · rw [h3] at ha
      obtain ⟨b0, o0, hp0, hlt0⟩ := HAA.out.rd.lt HT.out.2.2.2.2.2
      rw [hp0] at ha
      cases ha
      dsimp only at e
      omega
    · have := h3 a ha
      omega
  have hO1 := hO (w.heap.size + 1 + 1) (by omega) (by omega)
  have hO2 := hO (w.heap.size + 1 + 1 + 1) (by omega) (by omega)
  refine bodyPost_ret (v := .tuple #[.agg #[.bool s1, .slice qa (tlen qs) (tlen qs)], .agg #[.bool false, .slice ra (tlen rs) (tlen rs)]]) (by simp [results, Tryz.results91, go_sem, z0, z1, z2, z3]) rfl ⟨⟨s1, qa, tlen qs, tlen qs⟩, ⟨false, ra, tlen rs, tlen rs⟩, rfl, ⟨_, vd rs, ⟨⟨tr rs, ?_, by show vd (tr rs) = vd rs; exact vd_tr rs, Nat.le_refl _⟩, rfl⟩, by have := HT.out; omega⟩, ?_⟩
  · exact ((((hYN.drew.set (a := ⟨w.heap.size + 1 + 1, 0, none⟩) hO1 _).set (a := ⟨w.heap.size + 1 + 1, 1, none⟩) hO1 _).set (a := ⟨w.heap.size + 1 + 1 + 1, 0, none⟩) hO2 _).set (a := ⟨w.heap.size + 1 + 1 + 1, 1, none⟩) hO2 _)
  · exact (((hbw3.drew.setCell (p := ⟨w.heap.size + 1 + 1, 0, none⟩) (by simp; omega) _).setCell (p := ⟨w.heap.size + 1 + 1, 1, none⟩) (by simp; omega) _).setCell (p := ⟨w.heap.size + 1 + 1 + 1, 0, none⟩) (by simp; omega) _).setCell (p := ⟨w.heap.size + 1 + 1 + 1, 1, none⟩) (by simp; omega) _
set_option maxRecDepth 100000 in
theorem rQuo_ne_true_false (p q : Option Addr) (n m : Nat) (ds es : List Int) (w : World) (hA : RN w true p n ds) (hB : RN w false q m es) (hn : n ≤ 900) (hm : m ≤ 900) (hm0 : 0 < m) (hx : ¬ ∃ c, vd ds = c * vd es) :
    Calls Tryz.prog 91 #[.agg #[.bool true, .slice p n n], .agg #[.bool false, .slice q m m]] w (RyPost w) := by
  have HX := (show Hid _ from hx)
  clear hx
  go_enter Tryz.func91, Tryz.ntmps91
  go_upto_region 1 with fail
  have b1 : Bx (((((w.alloc (.cells #[.bool true, .slice p n n] 65)).alloc (.cells #[.bool false, .slice q m m] 65)).alloc (.cells #[.bool false, .slice none 0 0] 65)).alloc (.cells #[.bool false, .slice none 0 0] 65))) w.heap.size (.bool true) (.slice p n n) := (((Bx.new _ _ _ rfl).alloc _).alloc _).alloc _
  have b2 : Bx (((((w.alloc (.cells #[.bool true, .slice p n n] 65)).alloc (.cells #[.bool false, .slice q m m] 65)).alloc (.cells #[.bool false, .slice none 0 0] 65)).alloc (.cells #[.bool false, .slice none 0 0] 65))) (w.heap.size + 1) (.bool false) (.slice q m m) := ((Bx.new _ _ _ (World.size_alloc ..).symm).alloc _).alloc _
  have b3 : Bx (((((w.alloc (.cells #[.bool true, .slice p n n] 65)).alloc (.cells #[.bool false, .slice q m m] 65)).alloc (.cells #[.bool false, .slice none 0 0] 65)).alloc (.cells #[.bool false, .slice none 0 0] 65))) (w.heap.size + 1 + 1) (.bool false) (.slice none 0 0) := (Bx.new _ _ _ (by rw [World.size_alloc, World.size_alloc])).alloc _
  have b4 : Bx (((((w.alloc (.cells #[.bool true, .slice p n n] 65)).alloc (.cells #[.bool false, .slice q m m] 65)).alloc (.cells #[.bool false, .slice none 0 0] 65)).alloc (.cells #[.bool false, .slice none 0 0] 65))) (w.heap.size + 1 + 1 + 1) (.bool false) (.slice none 0 0) := Bx.new _ _ _ (by rw [World.size_alloc, World.size_alloc, World.size_alloc])
  have hbw : Below w.heap.size w (((((w.alloc (.cells #[.bool true, .slice p n n] 65)).alloc (.cells #[.bool false, .slice q m m] 65)).alloc (.cells #[.bool false, .slice none 0 0] 65)).alloc (.cells #[.bool false, .slice none 0 0] 65))) := bel_al (bel_al (bel_al (bel_al (Below.refl _ _))))
  generalize ((((w.alloc (.cells #[.bool true, .slice p n n] 65)).alloc (.cells #[.bool false, .slice q m m] 65)).alloc (.cells #[.bool false, .slice none 0 0] 65)).alloc (.cells #[.bool false, .slice none 0 0] 65)) = W at *
  have hA1 := hA.below hbw
  have hB1 := hB.below hbw
  have k1 := b1.c1
  have k2 := b2.c1
  go_wp2_with fail
  refine (rdivide_any p q n n m m ds es _ hA1.len (by omega) (Nat.le_refl _) (by unfold maxLen; omega) hA1.rd hA1.u hA1.nrm hB1.len hm0 (by omega) hB1.rd hB1.u hB1.nrm).mono ?_
  rintro e w1 ⟨qa, qn, qc, qs, ra, rn, rc, rs, rfl, q1, q2, q3, q4, q5, q6, r1, r2, r3, r4, r5, r6, eq, lt, hb1, qf, rf⟩
  have c1 := b1.later hb1
  have c2 := b2.later hb1
  have c3 := b3.later hb1
  have c4 := b4.later hb1
  have hbw1 := bnext hbw (Nat.le_refl _) hb1
  have hWs : w.heap.size + 1 + 1 + 1 < W.heap.size := block_lt_of_cell b4.c0
  have HW : Hid (w.heap.size + 1 + 1 + 1 < W.heap.size ∧ W.heap.size ≤ w1.heap.size) := ⟨hWs, hb1.size⟩
  have hr0 : 0 < vd rs := by
    have h1 := vd_nonneg r2
    rcases (show vd rs = 0 ∨ 0 < vd rs by omega) with h2 | h2
    · exact absurd ⟨vd qs, by rw [h2, Int.add_zero] at eq; exact eq.symm⟩ HX.out
    · exact h2
  have hlr : 0 < tlen rs := by
    rcases Nat.eq_zero_or_pos (tlen rs) with h1 | h1
    · have := (tlen_zero_iff16 r2).1 h1; omega
    · exact h1
  have hdl : 0 < ds.length := by
    rcases Nat.eq_zero_or_pos ds.length with h1 | h1
    · have h2 : ds = [] := List.eq_nil_of_length_eq_zero h1
      have h3 := Int.mul_nonneg (vd_nonneg q2) (vd_nonneg hB.u)
      rw [h2, show vd [] = 0 from rfl] at eq
      omega
    · exact h1
  have htq : tlen qs ≤ 990 := by have := tlen_le qs; omega
  have htr' : tlen rs ≤ 990 := by have := tlen_le rs; omega
  have HT : Hid (0 < tlen rs ∧ U16 rs ∧ 0 < vd rs ∧ vd rs < vd es ∧ (ra = p ∨ Go.Proofs.YtdjjlghlcffflaaGreatDoor.From W.heap.size ra) ∧ 0 < ds.length) := ⟨hlr, r2, hr0, lt, rf, hdl⟩
  have HQ : Hid (U16 qs ∧ Go.Proofs.YtdjjlghlcffflaaGreatDoor.From W.heap.size qa) := ⟨q2, qf⟩
  have HBB := (show Hid _ from hB1.below hb1)
  have HAA := (show Hid _ from hA)
  clear rf hWs eq lt hr0 hlr hdl b1 b2 b3 b4 hbw k1 k2 hA1 hB1 q2 r2 qf hA hB
  have k0 := c1.c0
  have k1 := c2.c0
  go_wp2_with fail
  refine (rtrim_any true qa qn qc qs _ q3 q4 q5 q1).mono ?_
  rintro e w2 ⟨rfl, hb2⟩
  generalize hs1 : nsg true qs = s1
  have HS1 := (show Hid _ from hs1)
  clear hs1
  have hal2 : Below w2.heap.size w2 (w2.alloc (.cells #[.bool s1, .slice qa (tlen qs) (tlen qs)] 65)) := bel_al (Below.refl _ _)
  have x2 : Bx (w2.alloc (.cells #[.bool s1, .slice qa (tlen qs) (tlen qs)] 65)) w2.heap.size (.bool s1) (.slice qa (tlen qs) (tlen qs)) := Bx.new _ _ _ rfl
  have d1 := (c1.later hb2).later hal2
  have d2 := (c2.later hb2).later hal2
  have d3 := (c3.later hb2).later hal2
  have d4 := (c4.later hb2).later hal2
  have e1 := (q1.below hb2).below hal2
  have e2 := (r1.below hb2).below hal2
  have hbw2 := bnext (bnext hbw1 (Nat.le_refl _) hb2) (Nat.le_refl _) hal2
  have HB2 : Hid (w1.heap.size ≤ w2.heap.size) := hb2.size
  have HB3 := (show Hid _ from (HBB.out.below hb2).below hal2)
  clear c1 c2 c3 c4 k0 k1 q1 r1 hbw1 hb2 hal2
  have k0 := d1.c0
  go_wp2_with fail
  have HG2 : Hid (w1.heap.size ≤ w2.heap.size ∧ w2.heap.size ≤ (w2.alloc (.cells #[.bool s1, .slice qa (tlen qs) (tlen qs)] 65)).heap.size) := ⟨HB2.out, by simp⟩
  generalize (w2.alloc (.cells #[.bool s1, .slice qa (tlen qs) (tlen qs)] 65)) = W2 at *
  generalize w2.heap.size = gx2 at *
  refine (rtrim_any true ra rn rc rs _ r3 r4 r5 e2).mono ?_
  rintro e w3 ⟨rfl, hb3⟩
  have hns : nsg true rs = true := by rw [nsg, if_neg (by have := HT.out.1; omega)]
  rw [hns]
  clear hns
  have hal3 : Below w3.heap.size w3 (w3.alloc (.cells #[.bool true, .slice ra (tlen rs) (tlen rs)] 65)) := bel_al (Below.refl _ _)
  have y3 : Bx (w3.alloc (.cells #[.bool true, .slice ra (tlen rs) (tlen rs)] 65)) w3.heap.size (.bool true) (.slice ra (tlen rs) (tlen rs)) := Bx.new _ _ _ rfl
  have x3 := (x2.later hb3).later hal3
  have f2 := (d2.later hb3).later hal3
  have f3 := (d3.later hb3).later hal3
  have HB4 := (show Hid _ from (HB3.out.below hb3).below hal3)
  have g2 := (e2.below hb3).below hal3
  have f4 := (d4.later hb3).later hal3
  have g1 := (e1.below hb3).below hal3
  have hbw3 := bnext (bnext hbw2 (Nat.le_refl _) hb3) (Nat.le_refl _) hal3
  have HG : Hid (gx2 ≠ w.heap.size + 1 + 1 ∧ gx2 ≠ w.heap.size + 1 + 1 + 1 ∧ w3.heap.size ≠ w.heap.size + 1 + 1 ∧ w3.heap.size ≠ w.heap.size + 1 + 1 + 1) := by
    have h1 := HG2.out
    have h2 := HW.out
    have h3 := hb3.size
    exact ⟨by omega, by omega, by omega, by omega⟩
  clear d1 d2 d3 d4 k0 x2 e1 e2 hbw2 hb3 hal3 HB3 HBB
  have k0 := y3.c0
  have k1 := y3.c1
  have k2 := x3.c0
  have k3 := x3.c1
  have z0 := f3.c0
  have z1 := f3.c1
  have z2 := f4.c0
  have z3 := f4.c1
  have v0 := f3.f0
  have v1 := f3.f1
  have v2 := f4.f0
  have v3 := f4.f1
  have k4 := f2.c0
  have k5 := f2.c1
  go_wp2_with fail
  generalize (w3.alloc (.cells #[.bool true, .slice ra (tlen rs) (tlen rs)] 65)) = W3 at *
  generalize w3.heap.size = gx3 at *
  have hg2 : gx2 ≠ w.heap.size + 1 + 1 ∧ gx2 ≠ w.heap.size + 1 + 1 + 1 ∧ gx3 ≠ w.heap.size + 1 + 1 ∧ gx3 ≠ w.heap.size + 1 + 1 + 1 := HG.out
  obtain ⟨o1, o2, o3, o4⟩ := hg2
  have hYN : RN W3 true ra (tlen rs) (tr rs) := by
    have h1 := rn_trims true g2 HT.out.2.1 (by omega)
    rwa [show nsg true rs = true by rw [nsg, if_neg (by have := HT.out.1; omega)]] at h1
  have hWW := HW.out.1
  have hXN := rn_trims true g1 HQ.out.1 (by omega)
  rw [HS1.out] at hXN
  have hXE : RE W3 (tlen qs) (rval s1 (tr qs)) ⟨s1, qa, tlen qs, tlen qs⟩ := ⟨⟨tr qs, hXN, rfl, Nat.le_refl _⟩, rfl⟩
  have hYE : RE W3 (tlen rs) (rval true (tr rs)) ⟨true, ra, tlen rs, tlen rs⟩ := ⟨⟨tr rs, hYN, rfl, Nat.le_refl _⟩, rfl⟩
  have hBE : RE W3 m (rval false es) ⟨false, q, m, m⟩ := ⟨⟨es, HB4.out, rfl, Nat.le_refl _⟩, rfl⟩
  have o5 : gx2 ≠ w.heap.size + 1 + 1 ∧ gx3 ≠ w.heap.size + 1 + 1 ∧ w.heap.size + 1 ≠ w.heap.size + 1 + 1 := ⟨o1, o3, by omega⟩
  have o6 : gx2 ≠ w.heap.size + 1 + 1 + 1 ∧ gx3 ≠ w.heap.size + 1 + 1 + 1 ∧ w.heap.size + 1 ≠ w.heap.size + 1 + 1 + 1 := ⟨o2, o4, by omega⟩
  clear hXN hYN
  refine wp_region_noPanic ?_
  refine wp_region_held_drew (S := fun w' => w'.cell? ⟨gx2, 0, none⟩ = some (.bool s1) ∧ w'.cell? ⟨gx2, 1, none⟩ = some (.slice qa (tlen qs) (tlen qs)) ∧ w'.cell? ⟨gx3, 0, none⟩ = some (.bool true) ∧ w'.cell? ⟨gx3, 1, none⟩ = some (.slice ra (tlen rs) (tlen rs)) ∧ w'.cell? ⟨w.heap.size + 1, 0, none⟩ = some (.bool false) ∧ w'.cell? ⟨w.heap.size + 1, 1, none⟩ = some (.slice q m m)) (by kernel_rfl) ⟨k2, k3, k0, k1, k4, k5⟩ (fun hHeld => ?_)
  refine wpAnyH_take (i := 0) (v := .agg #[.bool s1, .slice qa (tlen qs) (tlen qs)]) rfl (by kernel_rfl) (by kernel_rfl) (by kernel_rfl) (fun _ _ _ h => h) (Or.inl ⟨by rfl, fun w hSw => ?_⟩) (by assumption) ?_
  · dsimp only at hSw
    go_simp
  try simp only [Act.put, List.setIfInBounds_toArray, List.set_cons_zero, List.set_cons_succ]
  refine wpAnyH_take (i := 3) (v := .agg #[.bool true, .slice ra (tlen rs) (tlen rs)]) rfl (by kernel_rfl) (by kernel_rfl) (by kernel_rfl) (fun _ _ _ h => h) (Or.inl ⟨by rfl, fun w hSw => ?_⟩) (by assumption) ?_
  · dsimp only at hSw
    go_simp
  try simp only [Act.put, List.setIfInBounds_toArray, List.set_cons_zero, List.set_cons_succ]
  refine wpAnyH_take (i := 4) (v := .agg #[.bool false, .slice q m m]) rfl (by kernel_rfl) (by kernel_rfl) (by kernel_rfl) (fun _ _ _ h => h) (Or.inl ⟨by rfl, fun w hSw => ?_⟩) (by assumption) ?_
  · dsimp only at hSw
    go_simp
  try simp only [Act.put, List.setIfInBounds_toArray, List.set_cons_zero, List.set_cons_succ]
  refine wpAnyH_ready (rs := [1]) (by kernel_rfl) (by simp) ?_
  refine AllReadyH.cons rfl (fun K hK => ?_) AllReadyH.nil
  go_simp
  go_fit (rOf_n 1 _ (by decide) (by decide))
  rintro r y1 ⟨u1, rfl, hu1, -, hb4⟩
  have hV1 := undrew hb4
  go_wp2_with fail
  refine hK.out _ _ (keepc6 ⟨k2, k3, k0, k1, k4, k5⟩ hV1) (fun hHeld => ?_)
  clear hK K
  try simp only [Act.put, List.setIfInBounds_toArray, List.set_cons_zero, List.set_cons_succ]
  refine wpAnyH_ready (rs := [2]) (by kernel_rfl) (by simp) ?_
  refine AllReadyH.cons rfl (fun K hK => ?_) AllReadyH.nil
  go_simp
  have hc1 := rSub_e (hXE.below hV1) hu1 (by omega) (by decide)
  dsimp only at hc1
  go_fit hc1
  rintro r y2 ⟨u2, rfl, hu2, -, hb5⟩
  have hV2 := bnext' hV1 hb5
  go_wp2_with fail
  refine hK.out _ _ (keepc6 ⟨k2, k3, k0, k1, k4, k5⟩ hV2) (fun hHeld => ?_)
  clear hK K
  try simp only [Act.put, List.setIfInBounds_toArray, List.set_cons_zero, List.set_cons_succ]
  refine wpAnyH_ready (rs := [5]) (by kernel_rfl) (by simp) ?_
  refine AllReadyH.cons rfl (fun K hK => ?_) AllReadyH.nil
  go_simp
  have hc2 := rAdd_e (hYE.below hV2) (hBE.below hV2) (by omega) (by omega)
  dsimp only at hc2
  go_fit hc2
  rintro r y4 ⟨u3, rfl, hu3, hF3, hb6⟩
  have hV3 := bnext' hV2 hb6
  obtain ⟨c30, c31, r30, r31⟩ := f3.later hV3
  obtain ⟨c40, c41, r40, r41⟩ := f4.later hV3
  go_wp2_with fail
  refine hK.out _ _ (keepc6 ⟨k2, k3, k0, k1, k4, k5⟩ hV3) (fun hHeld => ?_)
  clear hK K
  try simp only [Act.put, List.setIfInBounds_toArray, List.set_cons_zero, List.set_cons_succ]
  refine wpAnyH_ready (rs := [6]) (by kernel_rfl) (by simp) ?_
  refine AllReadyH.cons rfl (fun K hK => ?_) AllReadyH.nil
  go_simp
  refine hK.out _ _ (keep6u (keepc6 ⟨k2, k3, k0, k1, k4, k5⟩ hV3) o5) (fun hHeld => ?_)
  clear hK K
  try simp only [Act.put, List.setIfInBounds_toArray, List.set_cons_zero, List.set_cons_succ]
  have hBx4 : Bx ((y4.setCell ⟨w.heap.size + 1 + 1, 0, none⟩ (.bool u2.s)).setCell ⟨w.heap.size + 1 + 1, 1, none⟩ (.slice u2.p u2.n u2.c)) (w.heap.size + 1 + 1 + 1) _ _ := Bx_oth (f4.later hV3) (by omega)
  obtain ⟨c50, c51, r50, r51⟩ := hBx4
  refine wpAnyH_ready (rs := [7]) (by kernel_rfl) (by simp) ?_
  refine AllReadyH.cons rfl (fun K hK => ?_) AllReadyH.nil
  go_simp
  refine hK.out _ _ (keep6u (keep6u (keepc6 ⟨k2, k3, k0, k1, k4, k5⟩ hV3) o5) o6) (fun hHeld => ?_)
  clear hK K
  try simp only [Act.put, List.setIfInBounds_toArray, List.set_cons_zero, List.set_cons_succ]
  refine wpAnyH_done (by kernel_rfl) ?_ _
  refine NoPanic.normal ?_
  have hOu : ∀ y, y < y2.heap.size → 0 < u3.n → Off y u3.p := fun y hy _ a ha e => by have := hF3 a ha; omega
  have hsz := hV2.size
  have hsw := hbw3.size
  have hlt4 : w.heap.size + 1 + 1 + 1 < W3.heap.size := block_lt_of_cell z2
  have hE3 : RE ((((y4.setCell ⟨w.heap.size + 1 + 1, 0, none⟩ (.bool u2.s)).setCell ⟨w.heap.size + 1 + 1, 1, none⟩ (.slice u2.p u2.n u2.c)).setCell ⟨w.heap.size + 1 + 1 + 1, 0, none⟩ (.bool u3.s)).setCell ⟨w.heap.size + 1 + 1 + 1, 1, none⟩ (.slice u3.p u3.n u3.c)) _ _ u3 := (hu3.set2 (o := 0) (hOu (w.heap.size + 1 + 1) (by omega))).set2 (o := 0) (hOu (w.heap.size + 1 + 1 + 1) (by omega))
  have hBe := bset2 (g := w.heap.size + 1 + 1 + 1) (bset2 (g := w.heap.size + 1 + 1) (bnext' hbw3 hV3) (by omega) (.bool u2.s) (.slice u2.p u2.n u2.c)) (by omega) (.bool u3.s) (.slice u3.p u3.n u3.c)
  have hx3 : Bx ((((y4.setCell ⟨w.heap.size + 1 + 1, 0, none⟩ (.bool u2.s)).setCell ⟨w.heap.size + 1 + 1, 1, none⟩ (.slice u2.p u2.n u2.c)).setCell ⟨w.heap.size + 1 + 1 + 1, 0, none⟩ (.bool u3.s)).setCell ⟨w.heap.size + 1 + 1 + 1, 1, none⟩ (.slice u3.p u3.n u3.c)) (w.heap.size + 1 + 1) (.bool u2.s) (.slice u2.p u2.n u2.c) := Bx_oth (Bx_set (f3.later hV3)) (by omega)
  have hx4 : Bx ((((y4.setCell ⟨w.heap.size + 1 + 1, 0, none⟩ (.bool u2.s)).setCell ⟨w.heap.size + 1 + 1, 1, none⟩ (.slice u2.p u2.n u2.c)).setCell ⟨w.heap.size + 1 + 1 + 1, 0, none⟩ (.bool u3.s)).setCell ⟨w.heap.size + 1 + 1 + 1, 1, none⟩ (.slice u3.p u3.n u3.c)) (w.heap.size + 1 + 1 + 1) (.bool u3.s) (.slice u3.p u3.n u3.c) := Bx_set (Bx_oth (f4.later hV3) (by omega))
  have HF : Hid (RyPost w (.returned (.tuple #[.agg #[.bool u2.s, .slice u2.p u2.n u2.c], .agg #[.bool u3.s, .slice u3.p u3.n u3.c]])) ((((y4.setCell ⟨w.heap.size + 1 + 1, 0, none⟩ (.bool u2.s)).setCell ⟨w.heap.size + 1 + 1, 1, none⟩ (.slice u2.p u2.n u2.c)).setCell ⟨w.heap.size + 1 + 1 + 1, 0, none⟩ (.bool u3.s)).setCell ⟨w.heap.size + 1 + 1 + 1, 1, none⟩ (.slice u3.p u3.n u3.c))) := by
    refine ⟨u2, u3, rfl, ⟨_, _, hE3, ?_⟩, hBe⟩
    have h1 := HT.out
    have h2 := vd_tr rs
    have h3 : rval true (tr rs) = - vd rs := by rw [← h2]; rfl
    have h4 : rval false es = vd es := rfl
    rw [h3, h4]
    omega
  generalize (((y4.setCell ⟨w.heap.size + 1 + 1, 0, none⟩ (.bool u2.s)).setCell ⟨w.heap.size + 1 + 1, 1, none⟩ (.slice u2.p u2.n u2.c)).setCell ⟨w.heap.size + 1 + 1 + 1, 0, none⟩ (.bool u3.s)).setCell ⟨w.heap.size + 1 + 1 + 1, 1, none⟩ (.slice u3.p u3.n u3.c) = WF at *
  obtain ⟨p0, p1, -, -⟩ := hx3
  obtain ⟨p2, p3, -, -⟩ := hx4
  clear hE3 hBe c50 c51 r50 r51 c30 c31 c40 c41 r30 r31 r40 r41 hu3 hu2 hu1 hHeld
  go_wp2
  exact bodyPost_ret (v := .tuple #[.agg #[.bool u2.s, .slice u2.p u2.n u2.c], .agg #[.bool u3.s, .slice u3.p u3.n u3.c]]) (by simp [results, Tryz.results91, go_sem, p0, p1, p2, p3]) rfl HF.out
set_option maxRecDepth 100000 in
theorem rQuo_ne_true_true (p q : Option Addr) (n m : Nat) (ds es : List Int) (w : World) (hA : RN w true p n ds) (hB : RN w true q m es) (hn : n ≤ 900) (hm : m ≤ 900) (hm0 : 0 < m) (hx : ¬ ∃ c, vd ds = c * vd es) :
    Calls Tryz.prog 91 #[.agg #[.bool true, .slice p n n], .agg #[.bool true, .slice q m m]] w (RyPost w) := by
  have HX := (show Hid _ from hx)
  clear hx
  go_enter Tryz.func91, Tryz.ntmps91
  go_upto_region 1 with fail
  have b1 : Bx (((((w.alloc (.cells #[.bool true, .slice p n n] 65)).alloc (.cells #[.bool true, .slice q m m] 65)).alloc (.cells #[.bool false, .slice none 0 0] 65)).alloc (.cells #[.bool false, .slice none 0 0] 65))) w.heap.size (.bool true) (.slice p n n) := (((Bx.new _ _ _ rfl).alloc _).alloc _).alloc _
  have b2 : Bx (((((w.alloc (.cells #[.bool true, .slice p n n] 65)).alloc (.cells #[.bool true, .slice q m m] 65)).alloc (.cells #[.bool false, .slice none 0 0] 65)).alloc (.cells #[.bool false, .slice none 0 0] 65))) (w.heap.size + 1) (.bool true) (.slice q m m) := ((Bx.new _ _ _ (World.size_alloc ..).symm).alloc _).alloc _
  have b3 : Bx (((((w.alloc (.cells #[.bool true, .slice p n n] 65)).alloc (.cells #[.bool true, .slice q m m] 65)).alloc (.cells #[.bool false, .slice none 0 0] 65)).alloc (.cells #[.bool false, .slice none 0 0] 65))) (w.heap.size + 1 + 1) (.bool false) (.slice none 0 0) := (Bx.new _ _ _ (by rw [World.size_alloc, World.size_alloc])).alloc _
  have b4 : Bx (((((w.alloc (.cells #[.bool true, .slice p n n] 65)).alloc (.cells #[.bool true, .slice q m m] 65)).alloc (.cells #[.bool false, .slice none 0 0] 65)).alloc (.cells #[.bool false, .slice none 0 0] 65))) (w.heap.size + 1 + 1 + 1) (.bool false) (.slice none 0 0) := Bx.new _ _ _ (by rw [World.size_alloc, World.size_alloc, World.size_alloc])
  have hbw : Below w.heap.size w (((((w.alloc (.cells #[.bool true, .slice p n n] 65)).alloc (.cells #[.bool true, .slice q m m] 65)).alloc (.cells #[.bool false, .slice none 0 0] 65)).alloc (.cells #[.bool false, .slice none 0 0] 65))) := bel_al (bel_al (bel_al (bel_al (Below.refl _ _))))
  generalize ((((w.alloc (.cells #[.bool true, .slice p n n] 65)).alloc (.cells #[.bool true, .slice q m m] 65)).alloc (.cells #[.bool false, .slice none 0 0] 65)).alloc (.cells #[.bool false, .slice none 0 0] 65)) = W at *
  have hA1 := hA.below hbw
  have hB1 := hB.below hbw
  have k1 := b1.c1
  have k2 := b2.c1
  go_wp2_with fail
  refine (rdivide_any p q n n m m ds es _ hA1.len (by omega) (Nat.le_refl _) (by unfold maxLen; omega) hA1.rd hA1.u hA1.nrm hB1.len hm0 (by omega) hB1.rd hB1.u hB1.nrm).mono ?_
  rintro e w1 ⟨qa, qn, qc, qs, ra, rn, rc, rs, rfl, q1, q2, q3, q4, q5, q6, r1, r2, r3, r4, r5, r6, eq, lt, hb1, qf, rf⟩
  have c1 := b1.later hb1
  have c2 := b2.later hb1
  have c3 := b3.later hb1
  have c4 := b4.later hb1
  have hbw1 := bnext hbw (Nat.le_refl _) hb1
  have hWs : w.heap.size + 1 + 1 + 1 < W.heap.size := block_lt_of_cell b4.c0
  have HW : Hid (w.heap.size + 1 + 1 + 1 < W.heap.size ∧ W.heap.size ≤ w1.heap.size) := ⟨hWs, hb1.size⟩
  have hr0 : 0 < vd rs := by
    have h1 := vd_nonneg r2
    rcases (show vd rs = 0 ∨ 0 < vd rs by omega) with h2 | h2
    · exact absurd ⟨vd qs, by rw [h2, Int.add_zero] at eq; exact eq.symm⟩ HX.out
    · exact h2
  have hlr : 0 < tlen rs := by
    rcases Nat.eq_zero_or_pos (tlen rs) with h1 | h1
    · have := (tlen_zero_iff16 r2).1 h1; omega
    · exact h1
  have hdl : 0 < ds.length := by
    rcases Nat.eq_zero_or_pos ds.length with h1 | h1
    · have h2 : ds = [] := List.eq_nil_of_length_eq_zero h1
      have h3 := Int.mul_nonneg (vd_nonneg q2) (vd_nonneg hB.u)
      rw [h2, show vd [] = 0 from rfl] at eq
      omega
    · exact h1
  have htq : tlen qs ≤ 990 := by have := tlen_le qs; omega
  have htr' : tlen rs ≤ 990 := by have := tlen_le rs; omega
  have HT : Hid (0 < tlen rs ∧ U16 rs ∧ 0 < vd rs ∧ vd rs < vd es ∧ (ra = p ∨ Go.Proofs.YtdjjlghlcffflaaGreatDoor.From W.heap.size ra) ∧ 0 < ds.length) := ⟨hlr, r2, hr0, lt, rf, hdl⟩
  have HQ : Hid (U16 qs ∧ Go.Proofs.YtdjjlghlcffflaaGreatDoor.From W.heap.size qa) := ⟨q2, qf⟩
  have HBB := (show Hid _ from hB1.below hb1)
  have HAA := (show Hid _ from hA)
  clear rf hWs eq lt hr0 hlr hdl b1 b2 b3 b4 hbw k1 k2 hA1 hB1 q2 r2 qf hA hB
  have k0 := c1.c0
  have k1 := c2.c0
  go_wp2_with fail
  refine (rtrim_any false qa qn qc qs _ q3 q4 q5 q1).mono ?_
  rintro e w2 ⟨rfl, hb2⟩
  generalize hs1 : nsg false qs = s1
  have HS1 := (show Hid _ from hs1)
  clear hs1
  have hal2 : Below w2.heap.size w2 (w2.alloc (.cells #[.bool s1, .slice qa (tlen qs) (tlen qs)] 65)) := bel_al (Below.refl _ _)
  have x2 : Bx (w2.alloc (.cells #[.bool s1, .slice qa (tlen qs) (tlen qs)] 65)) w2.heap.size (.bool s1) (.slice qa (tlen qs) (tlen qs)) := Bx.new _ _ _ rfl
  have d1 := (c1.later hb2).later hal2
  have d2 := (c2.later hb2).later hal2
  have d3 := (c3.later hb2).later hal2
  have d4 := (c4.later hb2).later hal2
  have e1 := (q1.below hb2).below hal2
  have e2 := (r1.below hb2).below hal2
  have hbw2 := bnext (bnext hbw1 (Nat.le_refl _) hb2) (Nat.le_refl _) hal2
  have HB2 : Hid (w1.heap.size ≤ w2.heap.size) := hb2.size
  have HB3 := (show Hid _ from (HBB.out.below hb2).below hal2)
  clear c1 c2 c3 c4 k0 k1 q1 r1 hbw1 hb2 hal2
  have k0 := d1.c0
  go_wp2_with fail
  have HG2 : Hid (w1.heap.size ≤ w2.heap.size ∧ w2.heap.size ≤ (w2.alloc (.cells #[.bool s1, .slice qa (tlen qs) (tlen qs)] 65)).heap.size) := ⟨HB2.out, by simp⟩
  generalize (w2.alloc (.cells #[.bool s1, .slice qa (tlen qs) (tlen qs)] 65)) = W2 at *
  generalize w2.heap.size = gx2 at *
  refine (rtrim_any true ra rn rc rs _ r3 r4 r5 e2).mono ?_
  rintro e w3 ⟨rfl, hb3⟩
  have hns : nsg true rs = true := by rw [nsg, if_neg (by have := HT.out.1; omega)]
  rw [hns]
  clear hns
  have hal3 : Below w3.heap.size w3 (w3.alloc (.cells #[.bool true, .slice ra (tlen rs) (tlen rs)] 65)) := bel_al (Below.refl _ _)
  have y3 : Bx (w3.alloc (.cells #[.bool true, .slice ra (tlen rs) (tlen rs)] 65)) w3.heap.size (.bool true) (.slice ra (tlen rs) (tlen rs)) := Bx.new _ _ _ rfl
  have x3 := (x2.later hb3).later hal3
  have f2 := (d2.later hb3).later hal3
  have f3 := (d3.later hb3).later hal3
  have HB4 := (show Hid _ from (HB3.out.below hb3).below hal3)
  have g2 := (e2.below hb3).below hal3
  have f4 := (d4.later hb3).later hal3
  have g1 := (e1.below hb3).below hal3
  have hbw3 := bnext (bnext hbw2 (Nat.le_refl _) hb3) (Nat.le_refl _) hal3
  have HG : Hid (gx2 ≠ w.heap.size + 1 + 1 ∧ gx2 ≠ w.heap.size + 1 + 1 + 1 ∧ w3.heap.size ≠ w.heap.size + 1 + 1 ∧ w3.heap.size ≠ w.heap.size + 1 + 1 + 1) := by
    have h1 := HG2.out
    have h2 := HW.out
    have h3 := hb3.size
    exact ⟨by omega, by omega, by omega, by omega⟩
  clear d1 d2 d3 d4 k0 x2 e1 e2 hbw2 hb3 hal3 HB3 HBB
  have k0 := y3.c0
  have k1 := y3.c1
  have k2 := x3.c0
  have k3 := x3.c1
  have z0 := f3.c0
  have z1 := f3.c1
  have z2 := f4.c0
  have z3 := f4.c1
  have v0 := f3.f0
  have v1 := f3.f1
  have v2 := f4.f0
  have v3 := f4.f1
  have k4 := f2.c0
  have k5 := f2.c1
  go_wp2_with fail
  generalize (w3.alloc (.cells #[.bool true, .slice ra (tlen rs) (tlen rs)] 65)) = W3 at *
  generalize w3.heap.size = gx3 at *
  have hg2 : gx2 ≠ w.heap.size + 1 + 1 ∧ gx2 ≠ w.heap.size + 1 + 1 + 1 ∧ gx3 ≠ w.heap.size + 1 + 1 ∧ gx3 ≠ w.heap.size + 1 + 1 + 1 := HG.out
  obtain ⟨o1, o2, o3, o4⟩ := hg2
  have hYN : RN W3 true ra (tlen rs) (tr rs) := by
    have h1 := rn_trims true g2 HT.out.2.1 (by omega)
    rwa [show nsg true rs = true by rw [nsg, if_neg (by have := HT.out.1; omega)]] at h1
  have hWW := HW.out.1
  have hXN := rn_trims false g1 HQ.out.1 (by omega)
  rw [HS1.out] at hXN
  have hXE : RE W3 (tlen qs) (rval s1 (tr qs)) ⟨s1, qa, tlen qs, tlen qs⟩ := ⟨⟨tr qs, hXN, rfl, Nat.le_refl _⟩, rfl⟩
  have hYE : RE W3 (tlen rs) (rval true (tr rs)) ⟨true, ra, tlen rs, tlen rs⟩ := ⟨⟨tr rs, hYN, rfl, Nat.le_refl _⟩, rfl⟩
  have hBE : RE W3 m (rval true es) ⟨true, q, m, m⟩ := ⟨⟨es, HB4.out, rfl, Nat.le_refl _⟩, rfl⟩
  have o5 : gx2 ≠ w.heap.size + 1 + 1 ∧ gx3 ≠ w.heap.size + 1 + 1 ∧ w.heap.size + 1 ≠ w.heap.size + 1 + 1 := ⟨o1, o3, by omega⟩
  have o6 : gx2 ≠ w.heap.size + 1 + 1 + 1 ∧ gx3 ≠ w.heap.size + 1 + 1 + 1 ∧ w.heap.size + 1 ≠ w.heap.size + 1 + 1 + 1 := ⟨o2, o4, by omega⟩
  clear hXN hYN
  refine wp_region_noPanic ?_
  refine wp_region_held_drew (S := fun w' => w'.cell? ⟨gx2, 0, none⟩ = some (.bool s1) ∧ w'.cell? ⟨gx2, 1, none⟩ = some (.slice qa (tlen qs) (tlen qs)) ∧ w'.cell? ⟨gx3, 0, none⟩ = some (.bool true) ∧ w'.cell? ⟨gx3, 1, none⟩ = some (.slice ra (tlen rs) (tlen rs)) ∧ w'.cell? ⟨w.heap.size + 1, 0, none⟩ = some (.bool true) ∧ w'.cell? ⟨w.heap.size + 1, 1, none⟩ = some (.slice q m m)) (by kernel_rfl) ⟨k2, k3, k0, k1, k4, k5⟩ (fun hHeld => ?_)
  refine wpAnyH_take (i := 0) (v := .agg #[.bool s1, .slice qa (tlen qs) (tlen qs)]) rfl (by kernel_rfl) (by kernel_rfl) (by kernel_rfl) (fun _ _ _ h => h) (Or.inl ⟨by rfl, fun w hSw => ?_⟩) (by assumption) ?_
  · dsimp only at hSw
    go_simp
  try simp only [Act.put, List.setIfInBounds_toArray, List.set_cons_zero, List.set_cons_succ]
  refine wpAnyH_take (i := 3) (v := .agg #[.bool true, .slice ra (tlen rs) (tlen rs)]) rfl (by kernel_rfl) (by kernel_rfl) (by kernel_rfl) (fun _ _ _ h => h) (Or.inl ⟨by rfl, fun w hSw => ?_⟩) (by assumption) ?_
  · dsimp only at hSw
    go_simp
  try simp only [Act.put, List.setIfInBounds_toArray, List.set_cons_zero, List.set_cons_succ]
  refine wpAnyH_take (i := 4) (v := .agg #[.bool true, .slice q m m]) rfl (by kernel_rfl) (by kernel_rfl) (by kernel_rfl) (fun _ _ _ h => h) (Or.inl ⟨by rfl, fun w hSw => ?_⟩) (by assumption) ?_
  · dsimp only at hSw
    go_simp
  try simp only [Act.put, List.setIfInBounds_toArray, List.set_cons_zero, List.set_cons_succ]
  refine wpAnyH_ready (rs := [1]) (by kernel_rfl) (by simp) ?_
  refine AllReadyH.cons rfl (fun K hK => ?_) AllReadyH.nil
  go_simp
  go_fit (rOf_n 1 _ (by decide) (by decide))
  rintro r y1 ⟨u1, rfl, hu1, -, hb4⟩
  have hV1 := undrew hb4
  go_wp2_with fail
  refine hK.out _ _ (keepc6 ⟨k2, k3, k0, k1, k4, k5⟩ hV1) (fun hHeld => ?_)
  clear hK K
  try simp only [Act.put, List.setIfInBounds_toArray, List.set_cons_zero, List.set_cons_succ]
  refine wpAnyH_ready (rs := [2]) (by kernel_rfl) (by simp) ?_
  refine AllReadyH.cons rfl (fun K hK => ?_) AllReadyH.nil
  go_simp
  have hc1 := rAdd_e (hXE.below hV1) hu1 (by omega) (by decide)
  dsimp only at hc1
  go_fit hc1
  rintro r y2 ⟨u2, rfl, hu2, -, hb5⟩
  have hV2 := bnext' hV1 hb5
  go_wp2_with fail
  refine hK.out _ _ (keepc6 ⟨k2, k3, k0, k1, k4, k5⟩ hV2) (fun hHeld => ?_)
  clear hK K
  try simp only [Act.put, List.setIfInBounds_toArray, List.set_cons_zero, List.set_cons_succ]
  refine wpAnyH_ready (rs := [5]) (by kernel_rfl) (by simp) ?_
  refine AllReadyH.cons rfl (fun K hK => ?_) AllReadyH.nil
  go_simp
  have hc2 := rSub_e (hYE.below hV2) (hBE.below hV2) (by omega) (by omega)
  dsimp only at hc2
  go_fit hc2
  rintro r y4 ⟨u3, rfl, hu3, hF3, hb6⟩
  have hV3 := bnext' hV2 hb6
  obtain ⟨c30, c31, r30, r31⟩ := f3.later hV3
  obtain ⟨c40, c41, r40, r41⟩ := f4.later hV3
  go_wp2_with fail
  refine hK.out _ _ (keepc6 ⟨k2, k3, k0, k1, k4, k5⟩ hV3) (fun hHeld => ?_)
  clear hK K
  try simp only [Act.put, List.setIfInBounds_toArray, List.set_cons_zero, List.set_cons_succ]
  refine wpAnyH_ready (rs := [6]) (by kernel_rfl) (by simp) ?_
  refine AllReadyH.cons rfl (fun K hK => ?_) AllReadyH.nil
  go_simp
  refine hK.out _ _ (keep6u (keepc6 ⟨k2, k3, k0, k1, k4, k5⟩ hV3) o5) (fun hHeld => ?_)
  clear hK K
  try simp only [Act.put, List.setIfInBounds_toArray, List.set_cons_zero, List.set_cons_succ]
  have hBx4 : Bx ((y4.setCell ⟨w.heap.size + 1 + 1, 0, none⟩ (.bool u2.s)).setCell ⟨w.heap.size + 1 + 1, 1, none⟩ (.slice u2.p u2.n u2.c)) (w.heap.size + 1 + 1 + 1) _ _ := Bx_oth (f4.later hV3) (by omega)
  obtain ⟨c50, c51, r50, r51⟩ := hBx4
  refine wpAnyH_ready (rs := [7]) (by kernel_rfl) (by simp) ?_
  refine AllReadyH.cons rfl (fun K hK => ?_) AllReadyH.nil
  go_simp
  refine hK.out _ _ (keep6u (keep6u (keepc6 ⟨k2, k3, k0, k1, k4, k5⟩ hV3) o5) o6) (fun hHeld => ?_)
  clear hK K
  try simp only [Act.put, List.setIfInBounds_toArray, List.set_cons_zero, List.set_cons_succ]
  refine wpAnyH_done (by kernel_rfl) ?_ _
  refine NoPanic.normal ?_
  have hOu : ∀ y, y < y2.heap.size → 0 < u3.n → Off y u3.p := fun y hy _ a ha e => by have := hF3 a ha; omega
  have hsz := hV2.size
  have hsw := hbw3.size
  have hlt4 : w.heap.size + 1 + 1 + 1 < W3.heap.size := block_lt_of_cell z2
  have hE3 : RE ((((y4.setCell ⟨w.heap.size + 1 + 1, 0, none⟩ (.bool u2.s)).setCell ⟨w.heap.size + 1 + 1, 1, none⟩ (.slice u2.p u2.n u2.c)).setCell ⟨w.heap.size + 1 + 1 + 1, 0, none⟩ (.bool u3.s)).setCell ⟨w.heap.size + 1 + 1 + 1, 1, none⟩ (.slice u3.p u3.n u3.c)) _ _ u3 := (hu3.set2 (o := 0) (hOu (w.heap.size + 1 + 1) (by omega))).set2 (o := 0) (hOu (w.heap.size + 1 + 1 + 1) (by omega))
  have hBe := bset2 (g := w.heap.size + 1 + 1 + 1) (bset2 (g := w.heap.size + 1 + 1) (bnext' hbw3 hV3) (by omega) (.bool u2.s) (.slice u2.p u2.n u2.c)) (by omega) (.bool u3.s) (.slice u3.p u3.n u3.c)
  have hx3 : Bx ((((y4.setCell ⟨w.heap.size + 1 + 1, 0, none⟩ (.bool u2.s)).setCell ⟨w.heap.size + 1 + 1, 1, none⟩ (.slice u2.p u2.n u2.c)).setCell ⟨w.heap.size + 1 + 1 + 1, 0, none⟩ (.bool u3.s)).setCell ⟨w.heap.size + 1 + 1 + 1, 1, none⟩ (.slice u3.p u3.n u3.c)) (w.heap.size + 1 + 1) (.bool u2.s) (.slice u2.p u2.n u2.c) := Bx_oth (Bx_set (f3.later hV3)) (by omega)
  have hx4 : Bx ((((y4.setCell ⟨w.heap.size + 1 + 1, 0, none⟩ (.bool u2.s)).setCell ⟨w.heap.size + 1 + 1, 1, none⟩ (.slice u2.p u2.n u2.c)).setCell ⟨w.heap.size + 1 + 1 + 1, 0, none⟩ (.bool u3.s)).setCell ⟨w.heap.size + 1 + 1 + 1, 1, none⟩ (.slice u3.p u3.n u3.c)) (w.heap.size + 1 + 1 + 1) (.bool u3.s) (.slice u3.p u3.n u3.c) := Bx_set (Bx_oth (f4.later hV3) (by omega))
  have HF : Hid (RyPost w (.returned (.tuple #[.agg #[.bool u2.s, .slice u2.p u2.n u2.c], .agg #[.bool u3.s, .slice u3.p u3.n u3.c]])) ((((y4.setCell ⟨w.heap.size + 1 + 1, 0, none⟩ (.bool u2.s)).setCell ⟨w.heap.size + 1 + 1, 1, none⟩ (.slice u2.p u2.n u2.c)).setCell ⟨w.heap.size + 1 + 1 + 1, 0, none⟩ (.bool u3.s)).setCell ⟨w.heap.size + 1 + 1 + 1, 1, none⟩ (.slice u3.p u3.n u3.c))) := by
    refine ⟨u2, u3, rfl, ⟨_, _, hE3, ?_⟩, hBe⟩
    have h1 := HT.out
    have h2 := vd_tr rs
    have h3 : rval true (tr rs) = - vd rs := by rw [← h2]; rfl
    have h4 : rval true es = - vd es := rfl
    rw [h3, h4]
    omega
  generalize (((y4.setCell ⟨w.heap.size + 1 + 1, 0, none⟩ (.bool u2.s)).setCell ⟨w.heap.size + 1 + 1, 1, none⟩ (.slice u2.p u2.n u2.c)).setCell ⟨w.heap.size + 1 + 1 + 1, 0, none⟩ (.bool u3.s)).setCell ⟨w.heap.size + 1 + 1 + 1, 1, none⟩ (.slice u3.p u3.n u3.c) = WF at *
  obtain ⟨p0, p1, -, -⟩ := hx3
  obtain ⟨p2, p3, -, -⟩ := hx4
  clear hE3 hBe c50 c51 r50 r51 c30 c31 c40 c41 r30 r31 r40 r41 hu3 hu2 hu1 hHeld
  go_wp2
  exact bodyPost_ret (v := .tuple #[.agg #[.bool u2.s, .slice u2.p u2.n u2.c], .agg #[.bool u3.s, .slice u3.p u3.n u3.c]]) (by simp [results, Tryz.results91, go_sem, p0, p1, p2, p3]) rfl HF.out
theorem rQuo_ne (s t : Bool) (p q : Option Addr) (n m : Nat) (ds es : List Int) (w : World) (hA : RN w s p n ds) (hB : RN w t q m es) (hn : n ≤ 900) (hm : m ≤ 900) (hm0 : 0 < m) (hx : ¬ ∃ c, vd ds = c * vd es) :
    Calls Tryz.prog 91 #[.agg #[.bool s, .slice p n n], .agg #[.bool t, .slice q m m]] w (RyPost w) := by
  cases s with
  | false =>
    cases t with
    | false => exact rQuo_ne_false_false p q n m ds es w hA hB hn hm hm0 hx
    | true => exact rQuo_ne_false_true p q n m ds es w hA hB hn hm hm0 hx
  | true =>
    cases t with
    | false => exact rQuo_ne_true_false p q n m ds es w hA hB hn hm hm0 hx
    | true => exact rQuo_ne_true_true p q n m ds es w hA hB hn hm hm0 hx
theorem rQuo_left {w : World} {N M : Nat} {x y : Int} {e f : Ent} (h : RE w N x e) (k : RE w M y f) (hy : y ≠ 0) (hd : ¬ y ∣ x) (hN : N ≤ 900) (hM : M ≤ 900) :
    Calls Tryz.prog 91 #[.agg #[.bool e.s, .slice e.p e.n e.c], .agg #[.bool f.s, .slice f.p f.n f.c]] w (RyPost w) := by
  obtain ⟨⟨ds, h1, rfl, h3⟩, h4⟩ := h
  obtain ⟨⟨es, k1, rfl, k3⟩, k4⟩ := k
  rw [h4, k4]
  refine rQuo_ne e.s f.s e.p f.p e.n f.n ds es w h1 k1 (by omega) (by omega) ?_ ?_
  · rcases Nat.eq_zero_or_pos f.n with h0 | h0
    · exfalso
      have h5 : es = [] := List.eq_nil_of_length_eq_zero (by rw [k1.len]; exact h0)
      refine hy ?_
      rw [h5]
      cases f.s <;> rfl
    · exact h0
  · rintro ⟨c, hc⟩
    refine hd ?_
    have e1 : rval e.s ds = vd ds ∨ rval e.s ds = - vd ds := by cases e.s <;> simp [rval]
    have e2 : rval f.s es = vd es ∨ rval f.s es = - vd es := by cases f.s <;> simp [rval]
    rcases e1 with e1 | e1 <;> rcases e2 with e2 | e2 <;> rw [e1, e2, hc]
    · exact ⟨c, Int.mul_comm _ _⟩
    · exact ⟨-c, by rw [Int.neg_mul_neg, Int.mul_comm]⟩
    · exact ⟨-c, by rw [Int.mul_neg, Int.mul_comm]⟩
    · exact ⟨c, by rw [Int.neg_mul, Int.mul_comm]⟩
end Go.Proofs.YtdjjlghlcffflaaGreatDoor
