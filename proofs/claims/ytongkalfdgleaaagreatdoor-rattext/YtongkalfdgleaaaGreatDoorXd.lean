/-
  rat.parse.
-/
import Derived.Test.YtongkalfdgleaaaGreatDoorZnXcXb
namespace Go.Proofs.YtongkalfdgleaaaGreatDoor
open Go.RowKit
set_option linter.unusedVariables false
set_option linter.unusedSimpArgs false

theorem ten_pw (k : Nat) : (10 : Int) ^ (9 * k) ≤ pw k := by
  induction k with
  | zero => decide
  | succ k ih =>
    have e : (10 : Int) ^ (9 * (k + 1)) = 10 ^ (9 * k) * 1000000000 := by rw [Nat.mul_succ, Int.pow_add]; rfl
    have e2 := pw_succ k
    have : (0 : Int) < 10 ^ (9 * k) := Int.pow_pos (by decide)
    omega
/-- How great a number of a short text is. -/
theorem num_bd {l : List UInt8} {s : Bool} {d : List UInt8} (h : IsNum l s d) (hl : l.length ≤ 700) : (((if s then - dv (bz d) else dv (bz d)) : Int).natAbs : Int) < pw 78 := by
  obtain ⟨⟨hd, -⟩, he, -⟩ := h
  have h1 := dv_bd _ (bz d) rfl (dgs_mem hd)
  have h2 : (bz d).length ≤ l.length := by
    rw [length_bz, he]
    cases s <;> simp
  have h3 := ten_mono (show (bz d).length ≤ 9 * 78 by omega)
  have h4 := ten_pw 78
  cases s <;> simp <;> omega
/-- What a number's text says, at its place in a rational's. -/
def Said1 (l : List UInt8) (v : Option Int) : Prop := (∃ s d, IsNum l s d ∧ v = some (if s then - dv (bz d) else dv (bz d))) ∨ ((∀ s d, ¬ IsNum l s d) ∧ v = none)
theorem said_itx {z : Int} {v : Option Int} (h : Said1 (itx z) v) : v = some z := by
  obtain ⟨t, d, h1, h2⟩ := itx_num z
  rcases h with ⟨s, d', k1, k2⟩ | ⟨k1, -⟩
  · obtain ⟨rfl, rfl⟩ := isNum_one h1 k1
    rw [k2, h2]
  · exact absurd h1 (k1 _ _)
theorem said_one : Said1 [49] (some 1) := .inl ⟨false, [49], ⟨⟨fun j hj => by simp at hj; subst hj; decide, .inr ⟨by decide, by decide⟩⟩, rfl, by decide⟩, rfl⟩
theorem said_same {l : List UInt8} {u v : Option Int} (h : Said1 l u) (k : Said1 l v) : u = v := by
  rcases h with ⟨s, d, h1, h2⟩ | ⟨h1, h2⟩ <;> rcases k with ⟨s', d', k1, k2⟩ | ⟨k1, k2⟩
  · obtain ⟨rfl, rfl⟩ := isNum_one h1 k1
    rw [h2, k2]
  · exact absurd h1 (k1 _ _)
  · exact absurd k1 (h1 _ _)
  · rw [h2, k2]
/-- A text, broken at its first "/". -/
inductive Broken (l : List UInt8) : List UInt8 → List UInt8 → Prop
  | at {a b : List UInt8} (h : l = a ++ 47 :: b) (ha : (47 : UInt8) ∉ a) : Broken l a b
  | not (h : (47 : UInt8) ∉ l) : Broken l l [49]
theorem Broken.rtx {l a b : List UInt8} (h : Broken l a b) {r : Rat} (hr : l = rtx r) {u v : Option Int} (hu : Said1 a u) (hv : Said1 b v) : u = some r.num ∧ v = some (r.den : Int) := by
  cases h with
  | «at» h ha =>
    have hd : ¬ r.den = 1 := fun e => by
      have hm : (47 : UInt8) ∈ l := by rw [h]; simp
      rw [hr, rtx_whole e] at hm
      exact itx_slash _ hm
    rw [rtx_part hd, h] at hr
    obtain ⟨rfl, rfl⟩ := split_one ha (itx_slash _) hr
    exact ⟨said_itx hu, said_itx hv⟩
  | not h =>
    have hd : r.den = 1 := rtx_slash (hr ▸ h)
    rw [hr, rtx_whole hd] at hu
    refine ⟨said_itx hu, ?_⟩
    rw [said_same hv said_one, hd]
    rfl
def RdV (l : List UInt8) (w : World) (e : Ending) (w' : World) : Prop :=
  (∃ z s p n xs, Said1 l (some z) ∧ e = .returned (.tuple #[.agg #[.bool s, .slice p n n], .int .i64 0]) ∧ NI w.heap.size w' s p n xs z ∧ n ≤ 78 ∧ Below w.heap.size w w') ∨
  (Said1 l none ∧ e = .returned (.tuple #[.agg #[.bool false, .slice none 0 0], .int .i64 8]) ∧ Below w.heap.size w w')
theorem Read_v (l : List UInt8) (w : World) (hl : l.length ≤ 700) : Calls Tryz.prog 90 #[.string ⟨l.toArray⟩] w (RdV l w) := by
  refine (Read_any l w (by omega)).mono ?_
  rintro e w' (⟨s, d, s', p', n', zs, h1, h2, h3, h4, h5⟩ | ⟨h1, h2, h3⟩)
  · exact .inl ⟨_, s', p', n', zs, .inl ⟨s, d, h1, rfl⟩, h2, h3, h3.le (num_bd h1 hl), h5⟩
  · exact .inr ⟨.inr ⟨h1, rfl⟩, h2, h3⟩
/-- What parse answers. -/
def PsPost (l : List UInt8) (w : World) (e : Ending) (w' : World) : Prop :=
  Below w.heap.size w w' ∧ ((∃ r s p n t q m, (∀ r0, l = rtx r0 → r0 = r) ∧ e = .returned (.tuple #[.agg #[.bool s, .slice p n n, .bool t, .slice q m m], .bool true]) ∧ NQ w.heap.size w' 78 s p n t q m r) ∨
    ((∀ r0, l ≠ rtx r0) ∧ ∃ s p n nc t q m mc, e = .returned (.tuple #[.agg #[.bool s, .slice p n nc, .bool t, .slice q m mc], .bool false])))
theorem parse_val {r0 : Rat} {n d : Int} (h : some n = some r0.num ∧ some d = some (r0.den : Int)) : r0 = Rat.divInt n d := by
  rw [Option.some.inj h.1, Option.some.inj h.2, Rat.num_divInt_den]
theorem parse_zero {r0 : Rat} {d : Int} (h : some d = some (r0.den : Int)) (hz : d = 0) : False := by
  have := Option.some.inj h
  have := r0.den_nz
  omega
theorem parse_sz {a b : Int} (ha : (a.natAbs : Int) < pw 78) (hb : (b.natAbs : Int) < pw 78) : Sz (Rat.divInt a b) 78 := rat_bd ha hb (by decide)
set_option maxHeartbeats 2000000 in
set_option maxRecDepth 100000 in
/-- rat.parse. -/
theorem parse_any (l : List UInt8) (w : World) (hl : l.length ≤ 700) :
    Calls Tryz.prog 64 #[.string ⟨l.toArray⟩] w (PsPost l w) := by
  have hI : (l.length : Int) ≤ 700 := by omega
  go_enter Tryz.func64, Tryz.ntmps64
  go_wp2_with fail
  have hR0 : Bq (w.alloc (.cells #[.bool false, .slice none 0 0, .bool false, .slice none 0 0] 26)) w.heap.size (.bool false) (.slice none 0 0) (.bool false) (.slice none 0 0) := Bq.new _ _ _ _ _ rfl
  have hW0 : Below w.heap.size w (w.alloc (.cells #[.bool false, .slice none 0 0, .bool false, .slice none 0 0] 26)) := (Below.refl _ _).alloc (Nat.le_refl _) _
  generalize w.alloc (.cells #[.bool false, .slice none 0 0, .bool false, .slice none 0 0] 26) = W0 at *
  refine (Cut_slash l _ (by unfold maxLen; omega)).mono ?_
  rintro e w1 ⟨hb1, ⟨a, b, hab, ha, rfl⟩ | ⟨hn, rfl⟩⟩
  · have HB : Hid (Broken l a b) := Broken.at hab ha
    have hlen : a.length + (b.length + 1) = l.length := by rw [hab]; simp
    have la : a.length ≤ 700 := by omega
    have lb : b.length ≤ 700 := by omega
    have hW := bnext' hW0 hb1
    have hR := hR0.later hb1
    clear hab ha hlen hb1 hW0 hR0 hI hl
    go_wp2_with fail
    refine (Read_v a _ (by omega)).mono ?_
    rintro e w2 (⟨z1, s1, p1, n1, x1, hs1, rfl, hN1, hn1, hb2⟩ | ⟨hs1, rfl, hb2⟩)
    · have hal := bel_al (o := .cells #[.bool s1, .slice p1 n1 n1] 24) hb2
      have hW2 := bnext' hW hal
      have hR2 := hR.later hal
      have hX2 : Bx (w2.alloc (.cells #[.bool s1, .slice p1 n1 n1] 24)) w2.heap.size (.bool s1) (.slice p1 n1 n1) := Bx.new _ _ _ rfl
      have hN1a := NI_al (o := .cells #[.bool s1, .slice p1 n1 n1] 24) hN1
      have H1 : Hid (Said1 a (some z1)) := hs1
      clear hs1 hal hW hR hb2 hN1
      go_wp2_with fail
      generalize w2.alloc (.cells #[.bool s1, .slice p1 n1 n1] 24) = W2 at *
      generalize w2.heap.size = g2 at *
      refine (Read_v b _ (by omega)).mono ?_
      rintro e w3 (⟨z2, s2, p2, n2, x2, hs2, rfl, hN2, hn2, hb3⟩ | ⟨hs2, rfl, hb3⟩)
      · have hal := bel_al (o := .cells #[.bool s2, .slice p2 n2 n2] 24) hb3
        have hW3 := bnext' hW2 hal
        have hR3 := hR2.later hal
        have hX3 := hX2.later hal
        have hY3 : Bx (w3.alloc (.cells #[.bool s2, .slice p2 n2 n2] 24)) w3.heap.size (.bool s2) (.slice p2 n2 n2) := Bx.new _ _ _ rfl
        have hN1' := hN1a.below hal
        have hN2' := NI_al (o := .cells #[.bool s2, .slice p2 n2 n2] 24) hN2
        have H2 : Hid (Said1 b (some z2)) := hs2
        have sW3 : w.heap.size ≤ (w3.alloc (.cells #[.bool s2, .slice p2 n2 n2] 24)).heap.size := hW3.size
        clear hs2 hal hW2 hR2 hb3 hN2 hN1a hX2
        have k0 := hX3.c0
        have k1 := hX3.c1
        have k2 := hY3.c0
        have k3 := hY3.c1
        have sR0 := hR3.lt
        have hcz : Hid (z2 = 0 ∨ ¬ z2 = 0) := Classical.em _
        go_wp2_with fail
        generalize w3.alloc (.cells #[.bool s2, .slice p2 n2 n2] 24) = W3 at *
        generalize w3.heap.size = g3 at *
        rcases hcz.out with hz | hz
        · refine (Over_of s1 s2 p1 p2 n1 n1 n2 n2 x1 x2 _ (hN1'.ai (by omega)) (hN2'.ai (by omega)) (by omega) (by omega) 2 (by rw [hN2'.v]; simp [hz])).mono ?_
          rw [hN1'.v, hN2'.v]
          rintro e w4 ⟨s5, p5, n5, x5, t5, q5, m5, z5, rfl, hN5, hb4⟩
          have hal := bel_al (o := .cells #[.bool s5, .slice p5 n5 n5, .bool t5, .slice q5 m5 m5] 26) hb4
          have hW4 := bnext' hW3 hal
          have hR4 := hR3.later hal
          have hA4 : Bq (w4.alloc (.cells #[.bool s5, .slice p5 n5 n5, .bool t5, .slice q5 m5 m5] 26)) w4.heap.size (.bool s5) (.slice p5 n5 n5) (.bool t5) (.slice q5 m5 m5) := Bq.new _ _ _ _ _ rfl
          have hN6 := hN5.below (bel_al (o := .cells #[.bool s5, .slice p5 n5 n5, .bool t5, .slice q5 m5 m5] 26) (Below.refl _ _))
          have HZ := (show Hid _ from hz)
          have sR := hR3.lt
          clear k0 k1 k2 k3 hal hN5 hb4 hz
          obtain ⟨r0, r1, r2, r3, f0, f1, f2, f3⟩ := hR4
          obtain ⟨a0, a1, a2, a3, -, -, -, -⟩ := hA4
          go_wp2
          refine bodyPost_ret (v := .tuple #[.agg #[.bool s5, .slice p5 n5 n5, .bool t5, .slice q5 m5 m5], .bool false]) (by simp [results, Tryz.results64, go_sem, r0, r1, r2, r3]) rfl ⟨?_, .inr ⟨?_, _, _, _, _, _, _, _, _, rfl⟩⟩
          · exact bset4 hW4 (Nat.le_refl _) _ _ _ _
          · exact fun r0 hr => parse_zero (HB.out.rtx hr H1.out H2.out).2 HZ.out
        · refine (Over_of s1 s2 p1 p2 n1 n1 n2 n2 x1 x2 _ (hN1'.ai (by omega)) (hN2'.ai (by omega)) (by omega) (by omega) 0 (by rw [hN2'.v]; simp [hz])).mono ?_
          rw [hN1'.v, hN2'.v]
          rintro e w4 ⟨s5, p5, n5, x5, t5, q5, m5, z5, rfl, hN5, hb4⟩
          have hal := bel_al (o := .cells #[.bool s5, .slice p5 n5 n5, .bool t5, .slice q5 m5 m5] 26) hb4
          have hW4 := bnext' hW3 hal
          have hR4 := hR3.later hal
          have hA4 : Bq (w4.alloc (.cells #[.bool s5, .slice p5 n5 n5, .bool t5, .slice q5 m5 m5] 26)) w4.heap.size (.bool s5) (.slice p5 n5 n5) (.bool t5) (.slice q5 m5 m5) := Bq.new _ _ _ _ _ rfl
          have hN6 := hN5.below (bel_al (o := .cells #[.bool s5, .slice p5 n5 n5, .bool t5, .slice q5 m5 m5] 26) (Below.refl _ _))
          have HZ := (show Hid _ from hz)
          have sR := hR3.lt
          clear k0 k1 k2 k3 hal hN5 hb4 hz
          obtain ⟨r0, r1, r2, r3, f0, f1, f2, f3⟩ := hR4
          obtain ⟨a0, a1, a2, a3, -, -, -, -⟩ := hA4
          go_wp2
          refine bodyPost_ret (v := .tuple #[.agg #[.bool s5, .slice p5 n5 n5, .bool t5, .slice q5 m5 m5], .bool true]) (by simp [results, Tryz.results64, go_sem, r0, r1, r2, r3]) rfl ⟨?_, .inl ⟨Rat.divInt z1 z2, s5, p5, n5, t5, q5, m5, ?_, rfl, ?_⟩⟩
          · exact bset4 hW4 (Nat.le_refl _) _ _ _ _
          · exact fun r0 hr => parse_val (HB.out.rtx hr H1.out H2.out)
          · exact nr_nq ⟨(hN6.num.set4 sR0 _ _ _ _).mono sW3, (hN6.den.set4 sR0 _ _ _ _).mono sW3⟩ (parse_sz (hN1'.abs_lt hn1) (hN2'.abs_lt hn2))
      · have hal := bel_al (o := .cells #[.bool false, .slice none 0 0] 24) hb3
        have hW3 := bnext' hW2 hal
        have hR3 := hR2.later hal
        have H2 : Hid (Said1 b none) := hs2
        clear hs2 hal hW2 hR2 hb3 hN1a hX2
        obtain ⟨r0, r1, r2, r3, f0, f1, f2, f3⟩ := hR3
        go_wp2
        refine bodyPost_ret (v := .tuple #[.agg #[.bool false, .slice none 0 0, .bool false, .slice none 0 0], .bool false]) (by simp [results, Tryz.results64, go_sem, r0, r1, r2, r3]) rfl ⟨?_, .inr ⟨?_, _, _, _, _, _, _, _, _, rfl⟩⟩
        · exact bset4 hW3 (Nat.le_refl _) _ _ _ _
        · exact fun r0 hr => absurd (HB.out.rtx hr H1.out H2.out).2 (by simp)
    · have hal := bel_al (o := .cells #[.bool false, .slice none 0 0] 24) hb2
      have hW2 := bnext' hW hal
      have hR2 := hR.later hal
      have H1 : Hid (Said1 a none) := hs1
      clear hs1 hal hW hR hb2
      go_wp2_with fail
      refine (Read_v b _ (by omega)).mono ?_
      rintro e w3 (⟨z2, s2, p2, n2, x2, hs2, rfl, hN2, hn2, hb3⟩ | ⟨hs2, rfl, hb3⟩)
      · have hal := bel_al (o := .cells #[.bool s2, .slice p2 n2 n2] 24) hb3
        have hW3 := bnext' hW2 hal
        have hR3 := hR2.later hal
        have H2 : Hid (Said1 b (some z2)) := hs2
        clear hs2 hal hW2 hR2 hb3
        obtain ⟨r0, r1, r2, r3, f0, f1, f2, f3⟩ := hR3
        go_wp2
        refine bodyPost_ret (v := .tuple #[.agg #[.bool false, .slice none 0 0, .bool false, .slice none 0 0], .bool false]) (by simp [results, Tryz.results64, go_sem, r0, r1, r2, r3]) rfl ⟨?_, .inr ⟨?_, _, _, _, _, _, _, _, _, rfl⟩⟩
        · exact bset4 hW3 (Nat.le_refl _) _ _ _ _
        · exact fun r0 hr => absurd (HB.out.rtx hr H1.out H2.out).1 (by simp)
      · have hal := bel_al (o := .cells #[.bool false, .slice none 0 0] 24) hb3
        have hW3 := bnext' hW2 hal
        have hR3 := hR2.later hal
        have H2 : Hid (Said1 b none) := hs2
        clear hs2 hal hW2 hR2 hb3
        obtain ⟨r0, r1, r2, r3, f0, f1, f2, f3⟩ := hR3
        go_wp2
        refine bodyPost_ret (v := .tuple #[.agg #[.bool false, .slice none 0 0, .bool false, .slice none 0 0], .bool false]) (by simp [results, Tryz.results64, go_sem, r0, r1, r2, r3]) rfl ⟨?_, .inr ⟨?_, _, _, _, _, _, _, _, _, rfl⟩⟩
        · exact bset4 hW3 (Nat.le_refl _) _ _ _ _
        · exact fun r0 hr => absurd (HB.out.rtx hr H1.out H2.out).1 (by simp)
  · have HB : Hid (Broken l l [49]) := Broken.not hn
    have hW := bnext' hW0 hb1
    have hR := hR0.later hb1
    clear hn hb1 hW0 hR0 hI
    go_wp2_with fail
    refine (Read_v l _ (by omega)).mono ?_
    rintro e w2 (⟨z1, s1, p1, n1, x1, hs1, rfl, hN1, hn1, hb2⟩ | ⟨hs1, rfl, hb2⟩)
    · have hal := bel_al (o := .cells #[.bool s1, .slice p1 n1 n1] 24) hb2
      have hW2 := bnext' hW hal
      have hR2 := hR.later hal
      have hX2 : Bx (w2.alloc (.cells #[.bool s1, .slice p1 n1 n1] 24)) w2.heap.size (.bool s1) (.slice p1 n1 n1) := Bx.new _ _ _ rfl
      have hN1a := NI_al (o := .cells #[.bool s1, .slice p1 n1 n1] 24) hN1
      have H1 : Hid (Said1 l (some z1)) := hs1
      clear hs1 hal hW hR hb2 hN1
      go_wp2_with fail
      generalize w2.alloc (.cells #[.bool s1, .slice p1 n1 n1] 24) = W2 at *
      generalize w2.heap.size = g2 at *
      refine (Read_v [49] _ (by decide)).mono ?_
      rintro e w3 (⟨z2, s2, p2, n2, x2, hs2, rfl, hN2, hn2, hb3⟩ | ⟨hs2, rfl, hb3⟩)
      · have hal := bel_al (o := .cells #[.bool s2, .slice p2 n2 n2] 24) hb3
        have hW3 := bnext' hW2 hal
        have hR3 := hR2.later hal
        have hX3 := hX2.later hal
        have hY3 : Bx (w3.alloc (.cells #[.bool s2, .slice p2 n2 n2] 24)) w3.heap.size (.bool s2) (.slice p2 n2 n2) := Bx.new _ _ _ rfl
        have hN1' := hN1a.below hal
        have hN2' := NI_al (o := .cells #[.bool s2, .slice p2 n2 n2] 24) hN2
        have H2 : Hid (Said1 [49] (some z2)) := hs2
        have sW3 : w.heap.size ≤ (w3.alloc (.cells #[.bool s2, .slice p2 n2 n2] 24)).heap.size := hW3.size
        clear hs2 hal hW2 hR2 hb3 hN2 hN1a hX2
        have k0 := hX3.c0
        have k1 := hX3.c1
        have k2 := hY3.c0
        have k3 := hY3.c1
        have sR0 := hR3.lt
        have hcz : Hid (z2 = 0 ∨ ¬ z2 = 0) := Classical.em _
        go_wp2_with fail
        generalize w3.alloc (.cells #[.bool s2, .slice p2 n2 n2] 24) = W3 at *
        generalize w3.heap.size = g3 at *
        rcases hcz.out with hz | hz
        · refine (Over_of s1 s2 p1 p2 n1 n1 n2 n2 x1 x2 _ (hN1'.ai (by omega)) (hN2'.ai (by omega)) (by omega) (by omega) 2 (by rw [hN2'.v]; simp [hz])).mono ?_
          rw [hN1'.v, hN2'.v]
          rintro e w4 ⟨s5, p5, n5, x5, t5, q5, m5, z5, rfl, hN5, hb4⟩
          have hal := bel_al (o := .cells #[.bool s5, .slice p5 n5 n5, .bool t5, .slice q5 m5 m5] 26) hb4
          have hW4 := bnext' hW3 hal
          have hR4 := hR3.later hal
          have hA4 : Bq (w4.alloc (.cells #[.bool s5, .slice p5 n5 n5, .bool t5, .slice q5 m5 m5] 26)) w4.heap.size (.bool s5) (.slice p5 n5 n5) (.bool t5) (.slice q5 m5 m5) := Bq.new _ _ _ _ _ rfl
          have hN6 := hN5.below (bel_al (o := .cells #[.bool s5, .slice p5 n5 n5, .bool t5, .slice q5 m5 m5] 26) (Below.refl _ _))
          have HZ := (show Hid _ from hz)
          have sR := hR3.lt
          clear k0 k1 k2 k3 hal hN5 hb4 hz
          obtain ⟨r0, r1, r2, r3, f0, f1, f2, f3⟩ := hR4
          obtain ⟨a0, a1, a2, a3, -, -, -, -⟩ := hA4
          go_wp2
          refine bodyPost_ret (v := .tuple #[.agg #[.bool s5, .slice p5 n5 n5, .bool t5, .slice q5 m5 m5], .bool false]) (by simp [results, Tryz.results64, go_sem, r0, r1, r2, r3]) rfl ⟨?_, .inr ⟨?_, _, _, _, _, _, _, _, _, rfl⟩⟩
          · exact bset4 hW4 (Nat.le_refl _) _ _ _ _
          · exact fun r0 hr => parse_zero (HB.out.rtx hr H1.out H2.out).2 HZ.out
        · refine (Over_of s1 s2 p1 p2 n1 n1 n2 n2 x1 x2 _ (hN1'.ai (by omega)) (hN2'.ai (by omega)) (by omega) (by omega) 0 (by rw [hN2'.v]; simp [hz])).mono ?_
          rw [hN1'.v, hN2'.v]
          rintro e w4 ⟨s5, p5, n5, x5, t5, q5, m5, z5, rfl, hN5, hb4⟩
          have hal := bel_al (o := .cells #[.bool s5, .slice p5 n5 n5, .bool t5, .slice q5 m5 m5] 26) hb4
          have hW4 := bnext' hW3 hal
          have hR4 := hR3.later hal
          have hA4 : Bq (w4.alloc (.cells #[.bool s5, .slice p5 n5 n5, .bool t5, .slice q5 m5 m5] 26)) w4.heap.size (.bool s5) (.slice p5 n5 n5) (.bool t5) (.slice q5 m5 m5) := Bq.new _ _ _ _ _ rfl
          have hN6 := hN5.below (bel_al (o := .cells #[.bool s5, .slice p5 n5 n5, .bool t5, .slice q5 m5 m5] 26) (Below.refl _ _))
          have HZ := (show Hid _ from hz)
          have sR := hR3.lt
          clear k0 k1 k2 k3 hal hN5 hb4 hz
          obtain ⟨r0, r1, r2, r3, f0, f1, f2, f3⟩ := hR4
          obtain ⟨a0, a1, a2, a3, -, -, -, -⟩ := hA4
          go_wp2
          refine bodyPost_ret (v := .tuple #[.agg #[.bool s5, .slice p5 n5 n5, .bool t5, .slice q5 m5 m5], .bool true]) (by simp [results, Tryz.results64, go_sem, r0, r1, r2, r3]) rfl ⟨?_, .inl ⟨Rat.divInt z1 z2, s5, p5, n5, t5, q5, m5, ?_, rfl, ?_⟩⟩
          · exact bset4 hW4 (Nat.le_refl _) _ _ _ _
          · exact fun r0 hr => parse_val (HB.out.rtx hr H1.out H2.out)
          · exact nr_nq ⟨(hN6.num.set4 sR0 _ _ _ _).mono sW3, (hN6.den.set4 sR0 _ _ _ _).mono sW3⟩ (parse_sz (hN1'.abs_lt hn1) (hN2'.abs_lt hn2))
      · have hal := bel_al (o := .cells #[.bool false, .slice none 0 0] 24) hb3
        have hW3 := bnext' hW2 hal
        have hR3 := hR2.later hal
        have H2 : Hid (Said1 [49] none) := hs2
        clear hs2 hal hW2 hR2 hb3 hN1a hX2
        obtain ⟨r0, r1, r2, r3, f0, f1, f2, f3⟩ := hR3
        go_wp2
        refine bodyPost_ret (v := .tuple #[.agg #[.bool false, .slice none 0 0, .bool false, .slice none 0 0], .bool false]) (by simp [results, Tryz.results64, go_sem, r0, r1, r2, r3]) rfl ⟨?_, .inr ⟨?_, _, _, _, _, _, _, _, _, rfl⟩⟩
        · exact bset4 hW3 (Nat.le_refl _) _ _ _ _
        · exact fun r0 hr => absurd (HB.out.rtx hr H1.out H2.out).2 (by simp)
    · have hal := bel_al (o := .cells #[.bool false, .slice none 0 0] 24) hb2
      have hW2 := bnext' hW hal
      have hR2 := hR.later hal
      have H1 : Hid (Said1 l none) := hs1
      clear hs1 hal hW hR hb2
      go_wp2_with fail
      refine (Read_v [49] _ (by decide)).mono ?_
      rintro e w3 (⟨z2, s2, p2, n2, x2, hs2, rfl, hN2, hn2, hb3⟩ | ⟨hs2, rfl, hb3⟩)
      · have hal := bel_al (o := .cells #[.bool s2, .slice p2 n2 n2] 24) hb3
        have hW3 := bnext' hW2 hal
        have hR3 := hR2.later hal
        have H2 : Hid (Said1 [49] (some z2)) := hs2
        clear hs2 hal hW2 hR2 hb3
        obtain ⟨r0, r1, r2, r3, f0, f1, f2, f3⟩ := hR3
        go_wp2
        refine bodyPost_ret (v := .tuple #[.agg #[.bool false, .slice none 0 0, .bool false, .slice none 0 0], .bool false]) (by simp [results, Tryz.results64, go_sem, r0, r1, r2, r3]) rfl ⟨?_, .inr ⟨?_, _, _, _, _, _, _, _, _, rfl⟩⟩
        · exact bset4 hW3 (Nat.le_refl _) _ _ _ _
        · exact fun r0 hr => absurd (HB.out.rtx hr H1.out H2.out).1 (by simp)
      · have hal := bel_al (o := .cells #[.bool false, .slice none 0 0] 24) hb3
        have hW3 := bnext' hW2 hal
        have hR3 := hR2.later hal
        have H2 : Hid (Said1 [49] none) := hs2
        clear hs2 hal hW2 hR2 hb3
        obtain ⟨r0, r1, r2, r3, f0, f1, f2, f3⟩ := hR3
        go_wp2
        refine bodyPost_ret (v := .tuple #[.agg #[.bool false, .slice none 0 0, .bool false, .slice none 0 0], .bool false]) (by simp [results, Tryz.results64, go_sem, r0, r1, r2, r3]) rfl ⟨?_, .inr ⟨?_, _, _, _, _, _, _, _, _, rfl⟩⟩
        · exact bset4 hW3 (Nat.le_refl _) _ _ _ _
        · exact fun r0 hr => absurd (HB.out.rtx hr H1.out H2.out).1 (by simp)
end Go.Proofs.YtongkalfdgleaaaGreatDoor
