/-
  rat.lowest.
-/
import Derived.Test.YtkbgeggflhfleaaGreatDoorGgWfZbVgDeC4
import Derived.Test.YtkbgeggflhfleaaGreatDoorQh
namespace Go.Proofs.YtkbgeggflhfleaaGreatDoor
open Go.RowKit
set_option linter.unusedVariables false
set_option linter.unusedSimpArgs false
set_option maxHeartbeats 8000000
theorem Bq_oth2 {w : World} {r g : Nat} {a0 a1 a2 a3 x y : Value} (h : Bq w r a0 a1 a2 a3) (hne : r ≠ g) : Bq ((w.setCell ⟨g, 0, none⟩ x).setCell ⟨g, 1, none⟩ y) r a0 a1 a2 a3 := by
  have e : ((w.setCell ⟨g, 0, none⟩ x).setCell ⟨g, 1, none⟩ y).heap[r]? = w.heap[r]? := by rw [heap_setCell_other _ _ _ _ hne, heap_setCell_other _ _ _ _ hne]
  exact ⟨by rw [World.cell?_of_block e]; exact h.c0, by rw [World.cell?_of_block e]; exact h.c1, by rw [World.cell?_of_block e]; exact h.c2, by rw [World.cell?_of_block e]; exact h.c3, by rw [World.frozen?_of_block e]; exact h.f0, by rw [World.frozen?_of_block e]; exact h.f1, by rw [World.frozen?_of_block e]; exact h.f2, by rw [World.frozen?_of_block e]; exact h.f3⟩
structure NR (B : Nat) (w : World) (s : Bool) (p : Option Addr) (n : Nat) (xs : List Int) (t : Bool) (q : Option Addr) (m : Nat) (ys : List Int) (r : Rat) : Prop where
  num : NI B w s p n xs r.num
  den : NI B w t q m ys (r.den : Int)
def NrPost (r : Rat) (w : World) (e : Ending) (w' : World) : Prop :=
  ∃ s p n xs t q m ys, e = .returned (.agg #[.bool s, .slice p n n, .bool t, .slice q m m]) ∧ NR w.heap.size w' s p n xs t q m ys r ∧ Below w.heap.size w w'
set_option maxRecDepth 100000 in
theorem lowest_any (s t : Bool) (p q : Option Addr) (n nc m mc : Nat) (xs ys : List Int) (w : World) (hA : AI w p n nc xs) (hB : AI w q m mc ys) (hd : ival t ys ≠ 0) (hn : n < 150) (hm : m < 150) :
    Calls Tryz.prog 69 #[.agg #[.bool s, .slice p n nc], .agg #[.bool t, .slice q m mc]] w (NrPost (Rat.divInt (ival s xs) (ival t ys)) w) := by
  obtain ⟨G, hG, hG0, hGa, hGb⟩ := rat_low (ival s xs) (ival t ys) hd
  have HG : Hid (G = (if ival t ys < 0 then -(Int.gcd (ival s xs) (ival t ys) : Int) else (Int.gcd (ival s xs) (ival t ys) : Int)) ∧ G ≠ 0 ∧ ival s xs = (Rat.divInt (ival s xs) (ival t ys)).num * G ∧ ival t ys = (Rat.divInt (ival s xs) (ival t ys)).den * G) := ⟨hG, hG0, hGa, hGb⟩
  clear hG hG0 hGa hGb
  generalize Rat.divInt (ival s xs) (ival t ys) = R at *
  go_enter Tryz.func69, Tryz.ntmps69
  go_wp2_with fail
  have hA0 : Bx (((w.alloc (.cells #[.bool s, .slice p n nc] 30)).alloc (.cells #[.bool t, .slice q m mc] 30)).alloc (.cells #[.bool false, .slice none 0 0, .bool false, .slice none 0 0] 32)) w.heap.size (.bool s) (.slice p n nc) := ((Bx.new _ _ _ rfl).alloc _).alloc _
  have hB0 : Bx (((w.alloc (.cells #[.bool s, .slice p n nc] 30)).alloc (.cells #[.bool t, .slice q m mc] 30)).alloc (.cells #[.bool false, .slice none 0 0, .bool false, .slice none 0 0] 32)) (w.heap.size + 1) (.bool t) (.slice q m mc) := (Bx.new _ _ _ (by simp)).alloc _
  have hR : Bq (((w.alloc (.cells #[.bool s, .slice p n nc] 30)).alloc (.cells #[.bool t, .slice q m mc] 30)).alloc (.cells #[.bool false, .slice none 0 0, .bool false, .slice none 0 0] 32)) (w.heap.size + 1 + 1) (.bool false) (.slice none 0 0) (.bool false) (.slice none 0 0) := Bq.new _ _ _ _ _ (by simp)
  have hW : Below w.heap.size w (((w.alloc (.cells #[.bool s, .slice p n nc] 30)).alloc (.cells #[.bool t, .slice q m mc] 30)).alloc (.cells #[.bool false, .slice none 0 0, .bool false, .slice none 0 0] 32)) := (((Below.refl _ _).alloc (Nat.le_refl _) _).alloc (by simp) _).alloc (by simp; omega) _
  generalize ((w.alloc (.cells #[.bool s, .slice p n nc] 30)).alloc (.cells #[.bool t, .slice q m mc] 30)).alloc (.cells #[.bool false, .slice none 0 0, .bool false, .slice none 0 0] 32) = W at *
  refine (Gcd_gen s t p q n nc m mc xs ys _ (hA.below hW) (hB.below hW) 150 (by decide) (by decide) hn hm).mono ?_
  rintro e w1 ⟨s1, p1, n1, z1, rfl, hN1, hn1, hb1⟩
  have hA2 := (hA0.later hb1).alloc (.cells #[.bool s1, .slice p1 n1 n1] 30)
  have hB2 := (hB0.later hb1).alloc (.cells #[.bool s1, .slice p1 n1 n1] 30)
  have hR2 := (hR.later hb1).alloc (.cells #[.bool s1, .slice p1 n1 n1] 30)
  have hg2 : Bx (w1.alloc (.cells #[.bool s1, .slice p1 n1 n1] 30)) w1.heap.size (.bool s1) (.slice p1 n1 n1) := Bx.new _ _ _ rfl
  have hN2 := NI_al (o := .cells #[.bool s1, .slice p1 n1 n1] 30) hN1
  have hW2 := bnext' hW (bel_al (o := .cells #[.bool s1, .slice p1 n1 n1] 30) hb1)
  have sW := hb1.size
  have sR := hR.lt
  clear hA0 hB0 hR hb1 hN1 hW
  have b0 := hB2.c0
  have b1 := hB2.c1
  have sr := hR2.lt
  have hn1' : n1 ≤ m := hN2.le (by have := hB.lt t; have h2 := Int.gcd_le_natAbs_right (a := ival s xs) hd; omega)
  go_wp2_with fail
  generalize w1.alloc (.cells #[.bool s1, .slice p1 n1 n1] 30) = W2 at *
  generalize w1.heap.size = g at *
  refine (Sign_any t q m mc ys _ (hB.below hW2)).mono ?_
  rintro e w3 ⟨rfl, hb3⟩
  have hA3 := hA2.later hb3
  have hB3 := hB2.later hb3
  have hR3 := hR2.later hb3
  have hg3 := hg2.later hb3
  have hN3 := hN2.below hb3
  have hW3 := bnext' hW2 hb3
  clear hA2 hB2 hR2 hg2 hN2 hW2 hb3 b0 b1 sr
  rcases (show ival t ys < 0 ∨ 0 < ival t ys by omega) with h0 | h0
  · rw [isgn_neg h0]
    have HG4 : Hid (G = -(Int.gcd (ival s xs) (ival t ys) : Int)) := by have := HG.out.1; rw [if_pos h0] at this; exact this
    clear h0
    have g0 := hg3.c0
    have g1 := hg3.c1
    go_wp2_with fail
    refine (Neg_any s1 p1 n1 n1 z1 _ (hN3.ai (by omega))).mono ?_
    rintro e w4 ⟨s4, p4, n4, z4, rfl, hN4, hn4, hb4⟩
    have hg4 := hg3.later hb4
    have hv4 : ival (!s1) z1 = G := by rw [ival_not, hN3.v, HG4.out]
    rw [hv4] at hN4
    have sl : g < w3.heap.size := block_lt_of_cell g0
    have sl2 := hW3.size
    have hA5 := Bx_oth (g := g) (x := .bool s4) (y := .slice p4 n4 n4) (hA3.later hb4) (by omega)
    have hB5 := Bx_oth (g := g) (x := .bool s4) (y := .slice p4 n4 n4) (hB3.later hb4) (by omega)
    have hR5 := Bq_oth2 (g := g) (x := .bool s4) (y := .slice p4 n4 n4) (hR3.later hb4) (by omega)
    have hg5 := Bx_set (x := .bool s4) (y := .slice p4 n4 n4) hg4
    have hN5 := (((hN4.set (a := ⟨g, 0, none⟩) sl (.bool s4)).set (a := ⟨g, 1, none⟩) sl (.slice p4 n4 n4))).mono (B' := W.heap.size) (by omega)
    have hW5 := bset2 (g := g) (bnext' hW3 hb4) (by omega) (.bool s4) (.slice p4 n4 n4)
    obtain ⟨-, -, gf0, gf1⟩ := hg4
    have g0' := (hg3.later hb4).c0
    have g1' := (hg3.later hb4).c1
    clear hA3 hB3 hR3 hg3 hN3 hW3 hv4 HG4 g0 g1 hN4
    have a0 := hA5.c0
    have a1 := hA5.c1
    have g0 := hg5.c0
    have g1 := hg5.c1
    go_wp2_with fail
    have hG0 : val z4 ≠ 0 := by
      intro h
      have h2 := hN5.v
      have h3 := HG.out.2.1
      rw [ival, h] at h2
      simp at h2
      exact h3 h2.symm
    refine (Quo_mid s s4 p p4 n nc n4 n4 xs z4 _ (hA.below hW5) (hN5.ai (by omega)) (by omega) hG0).mono ?_
    rintro e w6 ⟨s6, p6, n6, z6, s7, p7, n7, z7, Q, R7, rfl, hN6, hN7, h1, h2, h3, hn6, hn7, hb6⟩
    have hB6 := hB5.later hb6
    have hR6 := hR5.later hb6
    have hg6 := hg5.later hb6
    have hN6' := hN5.below hb6
    have hW6 := bnext' hW5 hb6
    obtain ⟨rfl, rfl⟩ : Q = R.num ∧ R7 = 0 := by
      rw [hN5.v] at h1 h3
      exact ediv_one _ _ _ _ _ h1.symm h2 h3 HG.out.2.2.1
    have sV := (show _ < _ from block_lt_of_cell hg5.c0)
    have hM6 := hN6.mono (B' := W.heap.size) (Nat.le_of_lt (Nat.lt_of_le_of_lt sW sV))
    clear a0 a1 g0 g1 hN6 hN7 h1 h2 h3 hn7
    have hal := bel_al (o := .cells #[.bool s7, .slice p7 n7 n7] 30) (bel_al (o := .cells #[.bool s6, .slice p6 n6 n6] 30) (Below.refl w6.heap.size w6))
    have hB8 := hB6.later hal
    have hR8 := hR6.later hal
    have hg8 := hg6.later hal
    have hM8 := hM6.below hal
    have hN8 := hN6'.below hal
    have hW8 := bnext' hW6 hal
    have hn8 : Bx ((w6.alloc (.cells #[.bool s6, .slice p6 n6 n6] 30)).alloc (.cells #[.bool s7, .slice p7 n7 n7] 30)) w6.heap.size (.bool s6) (.slice p6 n6 n6) := (Bx.new _ _ _ rfl).alloc _
    clear hal hB6 hR6 hg6 hM6 hN6' hW6 hA5 hB5 hR5 hg5 hN5 hW5 hb6
    have b0 := hB8.c0
    have b1 := hB8.c1
    have g0 := hg8.c0
    have g1 := hg8.c1
    go_wp2_with fail
    generalize (w6.alloc (.cells #[.bool s6, .slice p6 n6 n6] 30)).alloc (.cells #[.bool s7, .slice p7 n7 n7] 30) = W8 at *
    generalize w6.heap.size = gn at *
    refine (Quo_mid t s4 q p4 m mc n4 n4 ys z4 _ (hB.below hW8) (hN8.ai (by omega)) (by omega) hG0).mono ?_
    rintro e w9 ⟨s9, p9, n9, z9, s10, p10, n10, z10, Q, R7, rfl, hN9, hN10, h1, h2, h3, hn9, hn10, hb9⟩
    obtain ⟨rfl, rfl⟩ : Q = R.den ∧ R7 = 0 := by
      rw [hN8.v] at h1 h3
      exact ediv_one _ _ _ _ _ h1.symm h2 h3 HG.out.2.2.2
    have sV2 := (show _ < _ from block_lt_of_cell g0)
    have hal := bel_al (o := .cells #[.bool s10, .slice p10 n10 n10] 30) (bel_al (o := .cells #[.bool s9, .slice p9 n9 n9] 30) hb9)
    have hR11 := hR8.later hal
    have hn11 := hn8.later hal
    have hd11 : Bx ((w9.alloc (.cells #[.bool s9, .slice p9 n9 n9] 30)).alloc (.cells #[.bool s10, .slice p10 n10 n10] 30)) w9.heap.size (.bool s9) (.slice p9 n9 n9) := (Bx.new _ _ _ rfl).alloc _
    have hM11 := hM8.below hal
    have hW11 := bnext' hW8 hal
    have hE11 := (NI_al (o := .cells #[.bool s10, .slice p10 n10 n10] 30) (NI_al (o := .cells #[.bool s9, .slice p9 n9 n9] 30) hN9)).mono (B' := W.heap.size) (Nat.le_of_lt (Nat.lt_of_le_of_lt sW sV2))
    clear b0 b1 g0 g1 hB8 hR8 hg8 hM8 hN8 hW8 hn8 hal hN9 hN10 h1 h2 h3 hb9
    obtain ⟨r0, r1, r2, r3, f0, f1, f2, f3⟩ := hR11
    obtain ⟨n0, n1', -, -⟩ := hn11
    obtain ⟨d0, d1, -, -⟩ := hd11
    go_wp2
    generalize (w9.alloc (.cells #[.bool s9, .slice p9 n9 n9] 30)).alloc (.cells #[.bool s10, .slice p10 n10 n10] 30) = W11 at *
    refine bodyPost_ret (v := .agg #[.bool s6, .slice p6 n6 n6, .bool s9, .slice p9 n9 n9]) (by simp [results, Tryz.results69, go_sem, r0, r1, r2, r3]) rfl ⟨_, _, _, z6, _, _, _, z9, rfl, ⟨?_, ?_⟩, ?_⟩
    · exact (hM11.set4 sR _ _ _ _).mono (by omega)
    · exact (hE11.set4 sR _ _ _ _).mono (by omega)
    · exact bset4 hW11 (by omega) _ _ _ _
  · rw [isgn_pos h0]
    have HG4 : Hid (G = (Int.gcd (ival s xs) (ival t ys) : Int)) := by have := HG.out.1; rw [if_neg (by omega)] at this; exact this
    clear h0
    rw [← HG4.out] at hN3
    obtain ⟨s4, hs4⟩ : ∃ x, x = s1 := ⟨_, rfl⟩
    obtain ⟨p4, hp4⟩ : ∃ x, x = p1 := ⟨_, rfl⟩
    obtain ⟨n4, hn4⟩ : ∃ x, x = n1 := ⟨_, rfl⟩
    obtain ⟨z4, hz4⟩ : ∃ x, x = z1 := ⟨_, rfl⟩
    subst hs4 hp4 hn4 hz4
    have hA5 := hA3
    have hB5 := hB3
    have hR5 := hR3
    have hg5 := hg3
    have hN5 := hN3
    have hW5 := hW3
    clear hA3 hB3 hR3 hg3 hN3 hW3 HG4
    have a0 := hA5.c0
    have a1 := hA5.c1
    have g0 := hg5.c0
    have g1 := hg5.c1
    go_wp2_with fail
    have hG0 : val z4 ≠ 0 := by
      intro h
      have h2 := hN5.v
      have h3 := HG.out.2.1
      rw [ival, h] at h2
      simp at h2
      exact h3 h2.symm
    refine (Quo_mid s s4 p p4 n nc n4 n4 xs z4 _ (hA.below hW5) (hN5.ai (by omega)) (by omega) hG0).mono ?_
    rintro e w6 ⟨s6, p6, n6, z6, s7, p7, n7, z7, Q, R7, rfl, hN6, hN7, h1, h2, h3, hn6, hn7, hb6⟩
    have hB6 := hB5.later hb6
    have hR6 := hR5.later hb6
    have hg6 := hg5.later hb6
    have hN6' := hN5.below hb6
    have hW6 := bnext' hW5 hb6
    obtain ⟨rfl, rfl⟩ : Q = R.num ∧ R7 = 0 := by
      rw [hN5.v] at h1 h3
      exact ediv_one _ _ _ _ _ h1.symm h2 h3 HG.out.2.2.1
    have sV := (show _ < _ from block_lt_of_cell hg5.c0)
    have hM6 := hN6.mono (B' := W.heap.size) (Nat.le_of_lt (Nat.lt_of_le_of_lt sW sV))
    clear a0 a1 g0 g1 hN6 hN7 h1 h2 h3 hn7
    have hal := bel_al (o := .cells #[.bool s7, .slice p7 n7 n7] 30) (bel_al (o := .cells #[.bool s6, .slice p6 n6 n6] 30) (Below.refl w6.heap.size w6))
    have hB8 := hB6.later hal
    have hR8 := hR6.later hal
    have hg8 := hg6.later hal
    have hM8 := hM6.below hal
    have hN8 := hN6'.below hal
    have hW8 := bnext' hW6 hal
    have hn8 : Bx ((w6.alloc (.cells #[.bool s6, .slice p6 n6 n6] 30)).alloc (.cells #[.bool s7, .slice p7 n7 n7] 30)) w6.heap.size (.bool s6) (.slice p6 n6 n6) := (Bx.new _ _ _ rfl).alloc _
    clear hal hB6 hR6 hg6 hM6 hN6' hW6 hA5 hB5 hR5 hg5 hN5 hW5 hb6
    have b0 := hB8.c0
    have b1 := hB8.c1
    have g0 := hg8.c0
    have g1 := hg8.c1
    go_wp2_with fail
    generalize (w6.alloc (.cells #[.bool s6, .slice p6 n6 n6] 30)).alloc (.cells #[.bool s7, .slice p7 n7 n7] 30) = W8 at *
    generalize w6.heap.size = gn at *
    refine (Quo_mid t s4 q p4 m mc n4 n4 ys z4 _ (hB.below hW8) (hN8.ai (by omega)) (by omega) hG0).mono ?_
    rintro e w9 ⟨s9, p9, n9, z9, s10, p10, n10, z10, Q, R7, rfl, hN9, hN10, h1, h2, h3, hn9, hn10, hb9⟩
    obtain ⟨rfl, rfl⟩ : Q = R.den ∧ R7 = 0 := by
      rw [hN8.v] at h1 h3
      exact ediv_one _ _ _ _ _ h1.symm h2 h3 HG.out.2.2.2
    have sV2 := (show _ < _ from block_lt_of_cell g0)
    have hal := bel_al (o := .cells #[.bool s10, .slice p10 n10 n10] 30) (bel_al (o := .cells #[.bool s9, .slice p9 n9 n9] 30) hb9)
    have hR11 := hR8.later hal
    have hn11 := hn8.later hal
    have hd11 : Bx ((w9.alloc (.cells #[.bool s9, .slice p9 n9 n9] 30)).alloc (.cells #[.bool s10, .slice p10 n10 n10] 30)) w9.heap.size (.bool s9) (.slice p9 n9 n9) := (Bx.new _ _ _ rfl).alloc _
    have hM11 := hM8.below hal
    have hW11 := bnext' hW8 hal
    have hE11 := (NI_al (o := .cells #[.bool s10, .slice p10 n10 n10] 30) (NI_al (o := .cells #[.bool s9, .slice p9 n9 n9] 30) hN9)).mono (B' := W.heap.size) (Nat.le_of_lt (Nat.lt_of_le_of_lt sW sV2))
    clear b0 b1 g0 g1 hB8 hR8 hg8 hM8 hN8 hW8 hn8 hal hN9 hN10 h1 h2 h3 hb9
    obtain ⟨r0, r1, r2, r3, f0, f1, f2, f3⟩ := hR11
    obtain ⟨n0, n1', -, -⟩ := hn11
    obtain ⟨d0, d1, -, -⟩ := hd11
    go_wp2
    generalize (w9.alloc (.cells #[.bool s9, .slice p9 n9 n9] 30)).alloc (.cells #[.bool s10, .slice p10 n10 n10] 30) = W11 at *
    refine bodyPost_ret (v := .agg #[.bool s6, .slice p6 n6 n6, .bool s9, .slice p9 n9 n9]) (by simp [results, Tryz.results69, go_sem, r0, r1, r2, r3]) rfl ⟨_, _, _, z6, _, _, _, z9, rfl, ⟨?_, ?_⟩, ?_⟩
    · exact (hM11.set4 sR _ _ _ _).mono (by omega)
    · exact (hE11.set4 sR _ _ _ _).mono (by omega)
    · exact bset4 hW11 (by omega) _ _ _ _
theorem Bq_set {w : World} {g : Nat} {a0 a1 a2 a3 u v x y : Value} (h : Bq w g a0 a1 a2 a3) : Bq ((((w.setCell ⟨g, 0, none⟩ u).setCell ⟨g, 1, none⟩ v).setCell ⟨g, 2, none⟩ x).setCell ⟨g, 3, none⟩ y) g u v x y := by
  obtain ⟨c0, c1, c2, c3, f0, f1, f2, f3⟩ := h
  have e0 := World.cell?_setCell_same w ⟨g, 0, none⟩ u c0
  have e1 : (w.setCell ⟨g, 0, none⟩ u).cell? ⟨g, 1, none⟩ = some a1 := by rw [World.cell?_setCell_other _ _ _ _ (by simp)]; exact c1
  have e2 : ((w.setCell ⟨g, 0, none⟩ u).setCell ⟨g, 1, none⟩ v).cell? ⟨g, 2, none⟩ = some a2 := by rw [World.cell?_setCell_other _ _ _ _ (by simp), World.cell?_setCell_other _ _ _ _ (by simp)]; exact c2
  have e3 : (((w.setCell ⟨g, 0, none⟩ u).setCell ⟨g, 1, none⟩ v).setCell ⟨g, 2, none⟩ x).cell? ⟨g, 3, none⟩ = some a3 := by rw [World.cell?_setCell_other _ _ _ _ (by simp), World.cell?_setCell_other _ _ _ _ (by simp), World.cell?_setCell_other _ _ _ _ (by simp)]; exact c3
  refine ⟨?_, ?_, ?_, World.cell?_setCell_same _ _ _ e3, ?_, ?_, ?_, ?_⟩
  · rw [World.cell?_setCell_other _ _ _ _ (by simp), World.cell?_setCell_other _ _ _ _ (by simp), World.cell?_setCell_other _ _ _ _ (by simp)]; exact e0
  · rw [World.cell?_setCell_other _ _ _ _ (by simp), World.cell?_setCell_other _ _ _ _ (by simp)]; exact World.cell?_setCell_same _ _ _ e1
  · rw [World.cell?_setCell_other _ _ _ _ (by simp)]; exact World.cell?_setCell_same _ _ _ e2
  all_goals (rw [World.frozen?_setCell, World.frozen?_setCell, World.frozen?_setCell, World.frozen?_setCell]; assumption)
theorem Bq_oth {w : World} {r g : Nat} {a0 a1 a2 a3 u v x y : Value} (h : Bq w r a0 a1 a2 a3) (hne : r ≠ g) : Bq ((((w.setCell ⟨g, 0, none⟩ u).setCell ⟨g, 1, none⟩ v).setCell ⟨g, 2, none⟩ x).setCell ⟨g, 3, none⟩ y) r a0 a1 a2 a3 := by
  have e : ((((w.setCell ⟨g, 0, none⟩ u).setCell ⟨g, 1, none⟩ v).setCell ⟨g, 2, none⟩ x).setCell ⟨g, 3, none⟩ y).heap[r]? = w.heap[r]? := (heap_setCell_other _ _ r y hne).trans ((heap_setCell_other _ _ r x hne).trans ((heap_setCell_other _ _ r v hne).trans (heap_setCell_other _ _ r u hne)))
  exact ⟨(World.cell?_of_block (a := ⟨r, 0, none⟩) e).trans h.c0, (World.cell?_of_block (a := ⟨r, 1, none⟩) e).trans h.c1, (World.cell?_of_block (a := ⟨r, 2, none⟩) e).trans h.c2, (World.cell?_of_block (a := ⟨r, 3, none⟩) e).trans h.c3, (World.frozen?_of_block (a := ⟨r, 0, none⟩) e).trans h.f0, (World.frozen?_of_block (a := ⟨r, 1, none⟩) e).trans h.f1, (World.frozen?_of_block (a := ⟨r, 2, none⟩) e).trans h.f2, (World.frozen?_of_block (a := ⟨r, 3, none⟩) e).trans h.f3⟩
theorem end_nr {w W w1 : World} {r : Nat} {s : Bool} {p : Option Addr} {n : Nat} {xs : List Int} {t : Bool} {q : Option Addr} {m : Nat} {ys : List Int} {z : Rat} {u v x y : Value} (hw : Below w.heap.size w W) (hr : w.heap.size ≤ r) (hr' : r < W.heap.size)
    (hN : NR W.heap.size w1 s p n xs t q m ys z) (hb : Below W.heap.size W w1) :
    NrPost z w (.returned (.agg #[.bool s, .slice p n n, .bool t, .slice q m m])) ((((w1.setCell ⟨r, 0, none⟩ u).setCell ⟨r, 1, none⟩ v).setCell ⟨r, 2, none⟩ x).setCell ⟨r, 3, none⟩ y) :=
  ⟨_, _, _, xs, _, _, _, ys, rfl, ⟨(hN.num.set4 hr' _ _ _ _).mono hw.size, (hN.den.set4 hr' _ _ _ _).mono hw.size⟩, bset4 (bnext' hw hb) hr _ _ _ _⟩
set_option maxRecDepth 100000 in
theorem Norm_any (s t : Bool) (p q : Option Addr) (n nc m mc : Nat) (xs ys : List Int) (w : World) (hA : AI w p n nc xs) (hB : AI w q m mc ys) (hn : n < 150) (hm : m < 150) :
    Calls Tryz.prog 31 #[.agg #[.bool s, .slice p n nc, .bool t, .slice q m mc]] w (NrPost (Rat.divInt (ival s xs) (ival t ys)) w) := by
  generalize hQ : Rat.divInt (ival s xs) (ival t ys) = Q
  have HQ : Hid (Rat.divInt (ival s xs) (ival t ys) = Q) := hQ
  clear hQ
  go_enter Tryz.func31, Tryz.ntmps31
  go_wp2_with fail
  have hA0 : Bq ((w.alloc (.cells #[.bool s, .slice p n nc, .bool t, .slice q m mc] 32)).alloc (.cells #[.bool false, .slice none 0 0, .bool false, .slice none 0 0] 32)) w.heap.size (.bool s) (.slice p n nc) (.bool t) (.slice q m mc) := (Bq.new _ _ _ _ _ rfl).alloc _
  have hR : Bq ((w.alloc (.cells #[.bool s, .slice p n nc, .bool t, .slice q m mc] 32)).alloc (.cells #[.bool false, .slice none 0 0, .bool false, .slice none 0 0] 32)) (w.heap.size + 1) (.bool false) (.slice none 0 0) (.bool false) (.slice none 0 0) := Bq.new _ _ _ _ _ (by simp)
  have hW : Below w.heap.size w ((w.alloc (.cells #[.bool s, .slice p n nc, .bool t, .slice q m mc] 32)).alloc (.cells #[.bool false, .slice none 0 0, .bool false, .slice none 0 0] 32)) := ((Below.refl _ _).alloc (Nat.le_refl _) _).alloc (by simp) _
  generalize (w.alloc (.cells #[.bool s, .slice p n nc, .bool t, .slice q m mc] 32)).alloc (.cells #[.bool false, .slice none 0 0, .bool false, .slice none 0 0] 32) = W at *
  have hs := hR.lt
  refine (upright_any s t p q n nc m mc xs ys _ (hA.below hW) (hB.below hW) 149 (by omega) (by omega) (by omega)).mono ?_
  rintro e w1 ⟨s1, p1, n1, nc1, x1, t1, q1, m1, mc1, y1, rfl, hA1, hB1, hp, hv, hn1, hm1, hof, hb1⟩
  have ho := hof w.heap.size (by omega) (hA.off (Nat.le_refl _)) (hB.off (Nat.le_refl _))
  have hA2 := hA1.set4 ho.1 (.bool s1) (.slice p1 n1 nc1) (.bool t1) (.slice q1 m1 mc1)
  have hB2 := hB1.set4 ho.2 (.bool s1) (.slice p1 n1 nc1) (.bool t1) (.slice q1 m1 mc1)
  have hBa := Bq_set (u := .bool s1) (v := .slice p1 n1 nc1) (x := .bool t1) (y := .slice q1 m1 mc1) (hA0.later hb1)
  have hBr := Bq_oth (g := w.heap.size) (u := .bool s1) (v := .slice p1 n1 nc1) (x := .bool t1) (y := .slice q1 m1 mc1) (hR.later hb1) (by omega)
  have hW2 := bset4 (g := w.heap.size) (bnext' hW hb1) (Nat.le_refl _) (.bool s1) (.slice p1 n1 nc1) (.bool t1) (.slice q1 m1 mc1)
  obtain ⟨a0, a1, a2, a3, f0, f1, f2, f3⟩ := hA0.later hb1
  obtain ⟨c0, c1, c2, c3, -, -, -, -⟩ := hBa
  clear hof ho hA0 hR hA1 hB1 hW
  have HV : Hid (Rat.divInt (ival s1 x1) (ival t1 y1) = Q) := hv.trans HQ.out
  clear hv
  go_wp2_with fail
  generalize (((w1.setCell ⟨w.heap.size, 0, none⟩ (.bool s1)).setCell ⟨w.heap.size, 1, none⟩ (.slice p1 n1 nc1)).setCell ⟨w.heap.size, 2, none⟩ (.bool t1)).setCell ⟨w.heap.size, 3, none⟩ (.slice q1 m1 mc1) = W2 at *
  have h3 := lowest_any s1 t1 p1 q1 n1 nc1 m1 mc1 x1 y1 W2 hA2 hB2 (by omega) (by omega) (by omega)
  rw [HV.out] at h3
  refine h3.mono ?_
  rintro e w3 ⟨s3, p3, n3, x3, t3, q3, m3, y3, rfl, hN3, hb3⟩
  have hs2 := hBr.lt
  clear c0 c1 c2 c3 a0 a1 a2 a3 f0 f1 f2 f3
  obtain ⟨r0, r1, r2, r3, f0, f1, f2, f3⟩ := hBr.later hb3
  go_wp2
  exact bodyPost_ret (v := .agg #[.bool s3, .slice p3 n3 n3, .bool t3, .slice q3 m3 m3]) (by simp [results, Tryz.results31, go_sem, r0, r1, r2, r3]) rfl (end_nr hW2 (by omega) hs2 hN3 hb3)
theorem rat_bd {a b : Int} {K : Nat} (ha : (a.natAbs : Int) < pw K) (hb : (b.natAbs : Int) < pw K) (hK : 1 ≤ K) : ((Rat.divInt a b).num.natAbs : Int) < pw K ∧ (((Rat.divInt a b).den : Int).natAbs : Int) < pw K := by
  have h1 := rat_num_le a b
  refine ⟨by omega, ?_⟩
  by_cases h : b = 0
  · subst h
    rw [Rat.divInt_zero]
    have h2 := pw_mono hK
    have h3 : pw 1 = 4294967296 := by decide
    show ((1 : Nat) : Int) < _
    omega
  · have h2 := rat_den_le a b h
    omega
def AQ (w : World) (K : Nat) (s : Bool) (p : Option Addr) (n nc : Nat) (t : Bool) (q : Option Addr) (m mc : Nat) (r : Rat) : Prop :=
  ∃ xs ys, AI w p n nc xs ∧ AI w q m mc ys ∧ n ≤ K ∧ m ≤ K ∧ Rat.divInt (ival s xs) (ival t ys) = r
def NQ (B : Nat) (w : World) (K : Nat) (s : Bool) (p : Option Addr) (n : Nat) (t : Bool) (q : Option Addr) (m : Nat) (r : Rat) : Prop :=
  ∃ xs ys, NR B w s p n xs t q m ys r ∧ n ≤ K ∧ m ≤ K
def QP (r : Rat) (K : Nat) (w : World) (e : Ending) (w' : World) : Prop :=
  ∃ s p n t q m, e = .returned (.agg #[.bool s, .slice p n n, .bool t, .slice q m m]) ∧ NQ w.heap.size w' K s p n t q m r ∧ Below w.heap.size w w'
def Sz (r : Rat) (K : Nat) : Prop := (r.num.natAbs : Int) < pw K ∧ ((r.den : Int).natAbs : Int) < pw K
section
variable {w w' : World} {K Ka Kb : Nat} {s t sa ta sb tb : Bool} {p q pa qa pb qb : Option Addr} {n nc m mc na nac ma mac nb nbc mb mbc : Nat} {r ra rb : Rat} {B : Nat}
theorem AQ.below (h : AQ w K s p n nc t q m mc r) (hb : Below w.heap.size w w') : AQ w' K s p n nc t q m mc r := by
  obtain ⟨xs, ys, h1, h2, h3⟩ := h
  exact ⟨xs, ys, h1.below hb, h2.below hb, h3⟩
theorem AQ.sz (h : AQ w K s p n nc t q m mc r) (hK : 1 ≤ K) : Sz r K := by
  obtain ⟨xs, ys, h1, h2, h3, h4, rfl⟩ := h
  refine rat_bd ?_ ?_ hK
  · have := h1.lt s; have := pw_mono h3; omega
  · have := h2.lt t; have := pw_mono h4; omega
theorem nr_nq {xs ys : List Int} (h : NR B w s p n xs t q m ys r) (hs : Sz r K) : NQ B w K s p n t q m r := ⟨xs, ys, h, h.num.le hs.1, h.den.le hs.2⟩
theorem QP.of {K : Nat} {e : Ending} (h : NrPost r w e w') (hs : Sz r K) : QP r K w e w' := by
  obtain ⟨s, p, n, xs, t, q, m, ys, h1, h2, h3⟩ := h
  exact ⟨s, p, n, t, q, m, h1, nr_nq h2 hs, h3⟩
theorem qNorm_q (ha : AQ w K s p n nc t q m mc r) (hK : 1 ≤ K) (hK' : K < 150) :
    Calls Tryz.prog 31 #[.agg #[.bool s, .slice p n nc, .bool t, .slice q m mc]] w (QP r K w) := by
  have hs := ha.sz hK
  obtain ⟨xs, ys, h1, h2, h3, h4, rfl⟩ := ha
  exact (Norm_any s t p q n nc m mc xs ys w h1 h2 (by omega) (by omega)).mono fun e w' h => QP.of h hs
end
end Go.Proofs.YtkbgeggflhfleaaGreatDoor
