/-
  rat.Of, Whole, Bits, Text.
-/
import Derived.Test.YtongkalfdgleaaaGreatDoorZg
import Derived.Test.YtongkalfdgleaaaGreatDoorRdLnWrIb
import Derived.Test.YtongkalfdgleaaaGreatDoorWpBe
namespace Go.Proofs.YtongkalfdgleaaaGreatDoor
open Go.RowKit
set_option linter.unusedVariables false
set_option linter.unusedSimpArgs false

set_option maxRecDepth 100000 in
set_option maxHeartbeats 2000000 in
/-- rat.Of. -/
theorem qOf_any (a b : Int) (w : World) (ha : -9223372036854775808 ≤ a) (ha' : a ≤ 9223372036854775807) (hb : -9223372036854775808 ≤ b) (hb' : b ≤ 9223372036854775807) (c : Int) (hc : (if b = 0 then (2 : Int) else 0) = c) :
    Calls Tryz.prog 25 #[.int .i64 a, .int .i64 b] w (NcPost (Rat.divInt a b) c w) := by
  have HC := (show Hid _ from hc)
  clear hc
  generalize hQ : Rat.divInt a b = Q
  have HQ := (show Hid _ from hQ)
  clear hQ
  go_enter Tryz.func25, Tryz.ntmps25
  go_wp2_with fail
  have hR : Bq (w.alloc (.cells #[.bool false, .slice none 0 0, .bool false, .slice none 0 0] 26)) w.heap.size (.bool false) (.slice none 0 0) (.bool false) (.slice none 0 0) := Bq.new _ _ _ _ _ rfl
  have hW : Below w.heap.size w (w.alloc (.cells #[.bool false, .slice none 0 0, .bool false, .slice none 0 0] 26)) := (Below.refl _ _).alloc (Nat.le_refl _) _
  generalize w.alloc (.cells #[.bool false, .slice none 0 0, .bool false, .slice none 0 0] 26) = W at *
  refine (Of_any a _ ha ha').mono ?_
  rintro e w1 ⟨s1, p1, n1, x1, rfl, hN1, hn1, hb1⟩
  go_wp2_with fail
  refine (Of_any b _ hb hb').mono ?_
  rintro e w2 ⟨s2, p2, n2, x2, rfl, hN2, hn2, hb2⟩
  have hc2 : (if ival s2 x2 = 0 then (2 : Int) else 0) = c := by rw [hN2.v]; exact HC.out
  have h3 := Over_of s1 s2 p1 p2 n1 n1 n2 n2 x1 x2 w2 ((hN1.below hb2).ai (by omega)) (hN2.ai (by omega)) (by omega) (by omega) c hc2
  rw [hN1.v, hN2.v, HQ.out] at h3
  clear hc2
  go_wp2_with fail
  refine h3.mono ?_
  rintro e w3 ⟨s3, p3, n3, x3, t3, q3, m3, y3, rfl, hN3, hb3⟩
  clear h3
  have hb12 := bnext' hb1 hb2
  have sR : w.heap.size < w2.heap.size := Nat.lt_of_lt_of_le hR.lt hb12.size
  obtain ⟨r0, r1, r2, r3, f0, f1, f2, f3⟩ := (hR.later hb12).later hb3
  go_wp2
  exact bodyPost_ret (v := .tuple #[.agg #[.bool s3, .slice p3 n3 n3, .bool t3, .slice q3 m3 m3], .int .i64 c]) (by simp [results, Tryz.results25, go_sem, r0, r1, r2, r3]) rfl (end_nc (bnext' hW hb12) (by omega) sR hN3 hb3)
theorem whole_iff (a b q r : Int) (hb : b ≠ 0) (h : q * b + r = a) (h0 : 0 ≤ r) (h1 : r < (b.natAbs : Int)) : (r = 0 ∧ (Rat.divInt a b).den = 1 ∧ (Rat.divInt a b).num = q) ∨ (r ≠ 0 ∧ (Rat.divInt a b).den ≠ 1) := by
  obtain ⟨g, -, hg, e1, e2⟩ := rat_low a b hb
  by_cases hr : r = 0
  · left
    have h2 : Rat.divInt a b = Rat.divInt q 1 := by
      rw [Rat.divInt_eq_divInt_iff hb (by decide)]
      omega
    rw [h2]
    exact ⟨hr, by rw [Rat.den_divInt]; simp, by rw [Rat.num_divInt]; simp⟩
  · right
    refine ⟨hr, fun hd => ?_⟩
    rw [hd] at e2
    have e3 : a = (Rat.divInt a b).num * b := by
      have e4 : b = g := by omega
      conv => lhs; rw [e1]
      rw [← e4]
    exact hr (ediv_one a q b r _ h.symm h0 h1 e3).2
theorem rat_bd {a b : Int} {K : Nat} (ha : (a.natAbs : Int) < pw K) (hb : (b.natAbs : Int) < pw K) (hK : 1 ≤ K) : ((Rat.divInt a b).num.natAbs : Int) < pw K ∧ (((Rat.divInt a b).den : Int).natAbs : Int) < pw K := by
  have h1 := rat_num_le a b
  refine ⟨by omega, ?_⟩
  by_cases h : b = 0
  · subst h
    rw [Rat.divInt_zero]
    have h2 := pw_mono hK
    have h3 : pw 1 = 4294967296 := by decide
    show ((1 : Nat) : Int) < _
    omega
  · have h2 := rat_den_le a b h
    omega
theorem NI.bits {B : Nat} {w : World} {s : Bool} {p : Option Addr} {n : Nat} {xs : List Int} {z : Int} (h : NI B w s p n xs z) (hn : n ≤ 100) : ∃ b : Nat, nbits xs = (b : Int) ∧ IB b (z.natAbs : Int) ∧ b ≤ 3200 := by
  obtain ⟨b, h1, h2⟩ := nbits_ib h.u
  have hv : (z.natAbs : Int) = val xs := by
    have := val_nonneg h.u
    rw [← h.v, ival]
    split <;> omega
  refine ⟨b, h1, by rw [hv]; exact h2, ?_⟩
  rcases Nat.lt_or_ge 3200 b with hc | hc
  · exfalso
    have h3 := h2.2.2
    rcases h3 with h3 | h3
    · omega
    · have h4 := p2_mono (show 3200 ≤ b - 1 by omega)
      have h5 := val_lt_tlen h.u
      rw [h.nrm, pw_p2] at h5
      have h6 := p2_mono (show 32 * n ≤ 3200 by omega)
      generalize (2 : Int) ^ 3200 = X at *
      generalize (2 : Int) ^ (b - 1) = Y at *
      generalize (2 : Int) ^ (32 * n) = Z at *
      omega
  · exact hc
/-- What Whole answers. -/
def WhPost (Q : Rat) (w : World) (e : Ending) (w' : World) : Prop :=
  ∃ s p n xs, ((Q.den = 1 ∧ e = .returned (.tuple #[.agg #[.bool s, .slice p n n], .bool true]) ∧ NI w.heap.size w' s p n xs Q.num) ∨ (Q.den ≠ 1 ∧ e = .returned (.tuple #[.agg #[.bool false, .slice none 0 0], .bool false]))) ∧ Below w.heap.size w w'
set_option maxRecDepth 100000 in
set_option maxHeartbeats 2000000 in
/-- rat.Whole. -/
theorem Whole_any (s t : Bool) (p q : Option Addr) (n nc m mc : Nat) (xs ys : List Int) (w : World) (hA : AI w p n nc xs) (hB : AI w q m mc ys) (hn : n ≤ 1000) (hm : m < 80) (hd : ival t ys ≠ 0) :
    Calls Tryz.prog 30 #[.agg #[.bool s, .slice p n nc, .bool t, .slice q m mc]] w (WhPost (Rat.divInt (ival s xs) (ival t ys)) w) := by
  have HD := (show Hid _ from hd)
  generalize hQ : Rat.divInt (ival s xs) (ival t ys) = Q
  have HQ := (show Hid _ from hQ)
  clear hQ hd
  go_enter Tryz.func30, Tryz.ntmps30
  go_wp2_with fail
  have hR : Bx ((w.alloc (.cells #[.bool s, .slice p n nc, .bool t, .slice q m mc] 26)).alloc (.cells #[.bool false, .slice none 0 0] 24)) (w.heap.size + 1) (.bool false) (.slice none 0 0) := Bx.new _ _ _ (by simp)
  have hW : Below w.heap.size w ((w.alloc (.cells #[.bool s, .slice p n nc, .bool t, .slice q m mc] 26)).alloc (.cells #[.bool false, .slice none 0 0] 24)) := ((Below.refl _ _).alloc (Nat.le_refl _) _).alloc (by simp) _
  generalize (w.alloc (.cells #[.bool s, .slice p n nc, .bool t, .slice q m mc] 26)).alloc (.cells #[.bool false, .slice none 0 0] 24) = W at *
  have hv0 : val ys ≠ 0 := by
    intro h
    apply HD.out
    rw [ival, h]
    simp
  refine (Quo_small s t p q n nc m mc xs ys _ (hA.below hW) (hB.below hW) (by omega) hm hv0).mono ?_
  rintro e w6 ⟨s6, p6, n6, z6, s7, p7, n7, z7, Q6, R7, rfl, hN6, hN7, h1, h2, h3, hn6, hn7, hb6⟩
  have hal := bel_al (o := .cells #[.bool s7, .slice p7 n7 n7] 24) (bel_al (o := .cells #[.bool s6, .slice p6 n6 n6] 24) hb6)
  have hR8 := hR.later hal
  have hW8 := bnext' hW hal
  have hN8 := NI_al (o := .cells #[.bool s7, .slice p7 n7 n7] 24) (NI_al (o := .cells #[.bool s6, .slice p6 n6 n6] 24) hN6)
  have hM8 := NI_al (o := .cells #[.bool s7, .slice p7 n7 n7] 24) (NI_al (o := .cells #[.bool s6, .slice p6 n6 n6] 24) hN7)
  have hq8 : Bx ((w6.alloc (.cells #[.bool s6, .slice p6 n6 n6] 24)).alloc (.cells #[.bool s7, .slice p7 n7 n7] 24)) w6.heap.size (.bool s6) (.slice p6 n6 n6) := (Bx.new _ _ _ rfl).alloc _
  have hr8 : Bx ((w6.alloc (.cells #[.bool s6, .slice p6 n6 n6] 24)).alloc (.cells #[.bool s7, .slice p7 n7 n7] 24)) (w6.heap.size + 1) (.bool s7) (.slice p7 n7 n7) := Bx.new _ _ _ (by simp)
  have hcs := whole_iff _ _ _ _ HD.out h1 h2 h3
  rw [HQ.out] at hcs
  have HCS := (show Hid _ from hcs)
  have sR : w.heap.size + 1 < W.heap.size := block_lt_of_cell hR.c0
  clear hal hR hN6 hN7 hcs h1 h2 h3 hv0 hb6
  go_wp2_with fail
  generalize (w6.alloc (.cells #[.bool s6, .slice p6 n6 n6] 24)).alloc (.cells #[.bool s7, .slice p7 n7 n7] 24) = W8 at *
  generalize w6.heap.size = g6 at *
  refine (Sign_any s7 p7 n7 n7 z7 _ (hM8.ai (by omega))).mono ?_
  rw [hM8.v]
  rintro e w9 ⟨rfl, hb9⟩
  obtain ⟨q0, q1, -, -⟩ := hq8.later hb9
  obtain ⟨r0, r1, f0, f1⟩ := hR8.later hb9
  have hW9 := bnext' hW8 hb9
  have hN9 := hN8.below hb9
  rcases HCS.out with ⟨rfl, c2, c3⟩ | ⟨c1, c2⟩
  · rw [isgn_zero rfl]
    have C2 := (show Hid _ from c2)
    have C3 := (show Hid _ from c3)
    clear c2 c3 HCS
    go_wp2
    refine bodyPost_ret (v := .tuple #[.agg #[.bool s6, .slice p6 n6 n6], .bool true]) (by simp [results, Tryz.results30, go_sem, r0, r1]) rfl ⟨s6, p6, n6, z6, .inl ⟨C2.out, rfl, ?_⟩, ?_⟩
    · rw [C3.out]
      exact ((hN9.set (a := ⟨w.heap.size + 1, 0, none⟩) sR _).set (a := ⟨w.heap.size + 1, 1, none⟩) sR _).mono hW.size
    · exact bset2 hW9 (by omega) _ _
  · have hi : isgn R7 = 1 ∨ isgn R7 = -1 := by
      rcases (show 0 < R7 ∨ R7 < 0 by omega) with h | h
      · exact .inl (isgn_pos h)
      · exact .inr (isgn_neg h)
    have C2 := (show Hid _ from c2)
    clear c1 c2 HCS
    rcases hi with hi | hi
    all_goals
      rw [hi]
      clear hi
      go_wp2
      exact bodyPost_ret (v := .tuple #[.agg #[.bool false, .slice none 0 0], .bool false]) (by simp [results, Tryz.results30, go_sem, r0, r1]) rfl ⟨false, none, 0, [], .inr ⟨C2.out, rfl⟩, bset2 hW9 (by omega) _ _⟩
set_option maxRecDepth 100000 in
set_option maxHeartbeats 2000000 in
/-- rat.Bits. -/
theorem qBits_any (s t : Bool) (p q : Option Addr) (n nc m mc : Nat) (xs ys : List Int) (w : World) (hA : AI w p n nc xs) (hB : AI w q m mc ys) (hn : n < 80) (hm : m < 80) :
    Calls Tryz.prog 19 #[.agg #[.bool s, .slice p n nc, .bool t, .slice q m mc]] w fun e w' => ∃ b c : Nat, e = .returned (.int .i64 ((b : Int) + c)) ∧ IB b ((Rat.divInt (ival s xs) (ival t ys)).num.natAbs : Int) ∧ IB c ((Rat.divInt (ival s xs) (ival t ys)).den : Int) ∧ Below w.heap.size w w' := by
  have hNo := fun w' h1 h2 => Norm_any s t p q n nc m mc xs ys w' h1 h2 (by omega) (by omega)
  have hbd := rat_bd (K := 80) (a := ival s xs) (b := ival t ys) (by have h1 := hA.lt s; have h2 := pw_mono (show n ≤ 80 by omega); omega) (by have h1 := hB.lt t; have h2 := pw_mono (show m ≤ 80 by omega); omega) (by decide)
  have HBD := (show Hid _ from hbd)
  clear hbd
  generalize Rat.divInt (ival s xs) (ival t ys) = Q at *
  go_enter Tryz.func19, Tryz.ntmps19
  go_wp2_with fail
  have hA0 : Bq (w.alloc (.cells #[.bool s, .slice p n nc, .bool t, .slice q m mc] 26)) w.heap.size (.bool s) (.slice p n nc) (.bool t) (.slice q m mc) := Bq.new _ _ _ _ _ rfl
  have hW : Below w.heap.size w (w.alloc (.cells #[.bool s, .slice p n nc, .bool t, .slice q m mc] 26)) := (Below.refl _ _).alloc (Nat.le_refl _) _
  generalize w.alloc (.cells #[.bool s, .slice p n nc, .bool t, .slice q m mc] 26) = W at *
  refine (hNo W (hA.below hW) (hB.below hW)).mono ?_
  rintro e w1 ⟨s1, p1, n1, x1, t1, q1, m1, y1, rfl, hN1, hb1⟩
  clear hNo
  have sR := hA0.lt
  have hBa := Bq_set (u := .bool s1) (v := .slice p1 n1 n1) (x := .bool t1) (y := .slice q1 m1 m1) (hA0.later hb1)
  have hNn := hN1.num.set4 sR (.bool s1) (.slice p1 n1 n1) (.bool t1) (.slice q1 m1 m1)
  have hNd := hN1.den.set4 sR (.bool s1) (.slice p1 n1 n1) (.bool t1) (.slice q1 m1 m1)
  have hW2 := bset4 (g := w.heap.size) (bnext' hW hb1) (Nat.le_refl _) (.bool s1) (.slice p1 n1 n1) (.bool t1) (.slice q1 m1 m1)
  obtain ⟨a0, a1, a2, a3, f0, f1, f2, f3⟩ := hA0.later hb1
  obtain ⟨c0, c1, c2, c3, -, -, -, -⟩ := hBa
  clear hA0 hN1
  have ln := hNn.le HBD.out.1
  have ld := hNd.le HBD.out.2
  clear HBD
  go_wp2_with fail
  generalize (((w1.setCell ⟨w.heap.size, 0, none⟩ (.bool s1)).setCell ⟨w.heap.size, 1, none⟩ (.slice p1 n1 n1)).setCell ⟨w.heap.size, 2, none⟩ (.bool t1)).setCell ⟨w.heap.size, 3, none⟩ (.slice q1 m1 m1) = W2 at *
  obtain ⟨b, hb, hB1, lb⟩ := hNn.bits (by omega)
  obtain ⟨c, hc, hC1, lc⟩ := hNd.bits (by omega)
  have v0 : IntKind.i64.wrap ((b : Int) + (c : Int)) = (b : Int) + (c : Int) := by rw [IntKind.wrap_i64]; omega
  go_region_held3 (fun w' => w'.cell? ⟨w.heap.size, 0, none⟩ = some (.bool s1) ∧ w'.cell? ⟨w.heap.size, 1, none⟩ = some (.slice p1 n1 n1) ∧ w'.cell? ⟨w.heap.size, 2, none⟩ = some (.bool t1) ∧ w'.cell? ⟨w.heap.size, 3, none⟩ = some (.slice q1 m1 m1)) (first | with_reducible exact ⟨c0, c1, c2, c3⟩ | with_reducible exact keepc4 ⟨c0, c1, c2, c3⟩ hV1 | with_reducible exact keepc4 ⟨c0, c1, c2, c3⟩ hV2 | (simp [go_sem, *]; done))
    (first
      | (go_at_call_of 50 (Value.agg #[.bool s1, .slice p1 n1 n1]); have h1 := Bits_any s1 p1 n1 n1 x1 W2.drew (hNn.drew.ai (by omega)); rw [hb] at h1; refine h1.mono ?_; rintro e v1 ⟨rfl, hv1⟩; clear h1; have hV1 := undrew hv1)
      | (go_at_call_of 50 (Value.agg #[.bool t1, .slice q1 m1 m1]); have h2 := Bits_any t1 q1 m1 m1 y1 _ ((hNd.below hV1).ai (by omega)); rw [hc] at h2; refine h2.mono ?_; rintro e v2 ⟨rfl, hv2⟩; clear h2; have hV2 := bnext' hV1 hv2))
  go_wp2
  go_ret
  exact ⟨b, c, rfl, hB1, by simpa using hC1, bnext' hW2 hV2⟩
/-- The text of a rational, of its parts' texts. -/
def tjoin (d : Nat) (t1 t2 : ByteArray) : ByteArray := if d = 1 then t1 else t1 ++ ⟨#[47]⟩ ++ t2
set_option maxRecDepth 100000 in
set_option maxHeartbeats 2000000 in
/-- rat.Text. -/
theorem qText_any (s t : Bool) (p q : Option Addr) (n nc m mc : Nat) (xs ys : List Int) (w : World) (hA : AI w p n nc xs) (hB : AI w q m mc ys) (hn : n < 80) (hm : m < 80) (Q : Rat) (hQ : Rat.divInt (ival s xs) (ival t ys) = Q) (t1 t2 : ByteArray) (z1 : t1.size ≤ 1000000000) (z2 : t2.size ≤ 1000000000)
    (hT1 : ∀ (B : Nat) (w' : World) (s' : Bool) (p' : Option Addr) (n' : Nat) (xs' : List Int), NI B w' s' p' n' xs' Q.num → n' < 80 → Calls Tryz.prog 63 #[.agg #[.bool s', .slice p' n' n']] w' fun e w'' => e = .returned (.string t1) ∧ Below w'.heap.size w' w'')
    (hT2 : Q.den ≠ 1 → ∀ (B : Nat) (w' : World) (s' : Bool) (p' : Option Addr) (n' : Nat) (xs' : List Int), NI B w' s' p' n' xs' (Q.den : Int) → n' < 80 → Calls Tryz.prog 63 #[.agg #[.bool s', .slice p' n' n']] w' fun e w'' => e = .returned (.string t2) ∧ Below w'.heap.size w' w'') :
    Calls Tryz.prog 34 #[.agg #[.bool s, .slice p n nc, .bool t, .slice q m mc]] w fun e w' => e = .returned (.string (tjoin Q.den t1 t2)) ∧ Below w.heap.size w w' := by
  have hNo := fun w' h1 h2 => Norm_any s t p q n nc m mc xs ys w' h1 h2 (by omega) (by omega)
  have hbd := rat_bd (K := 79) (a := ival s xs) (b := ival t ys) (by have h1 := hA.lt s; have h2 := pw_mono (show n ≤ 79 by omega); omega) (by have h1 := hB.lt t; have h2 := pw_mono (show m ≤ 79 by omega); omega) (by decide)
  rw [hQ] at hbd hNo
  have HBD := (show Hid _ from hbd)
  have HT1 := (show Hid _ from hT1)
  have HT2 := (show Hid _ from hT2)
  clear hbd hQ hT1 hT2
  generalize htj : tjoin Q.den t1 t2 = tt
  have HTJ := (show Hid _ from htj)
  clear htj
  go_enter Tryz.func34, Tryz.ntmps34
  go_wp2_with fail
  have hA0 : Bq (w.alloc (.cells #[.bool s, .slice p n nc, .bool t, .slice q m mc] 26)) w.heap.size (.bool s) (.slice p n nc) (.bool t) (.slice q m mc) := Bq.new _ _ _ _ _ rfl
  have hW : Below w.heap.size w (w.alloc (.cells #[.bool s, .slice p n nc, .bool t, .slice q m mc] 26)) := (Below.refl _ _).alloc (Nat.le_refl _) _
  generalize w.alloc (.cells #[.bool s, .slice p n nc, .bool t, .slice q m mc] 26) = W at *
  refine (hNo W (hA.below hW) (hB.below hW)).mono ?_
  rintro e w1 ⟨s1, p1, n1, x1, u1, q1, m1, y1, rfl, hN1, hb1⟩
  clear hNo
  have sR := hA0.lt
  have hBa := Bq_set (u := .bool s1) (v := .slice p1 n1 n1) (x := .bool u1) (y := .slice q1 m1 m1) (hA0.later hb1)
  have hNn := hN1.num.set4 sR (.bool s1) (.slice p1 n1 n1) (.bool u1) (.slice q1 m1 m1)
  have hNd := hN1.den.set4 sR (.bool s1) (.slice p1 n1 n1) (.bool u1) (.slice q1 m1 m1)
  have hW2 := bset4 (g := w.heap.size) (bnext' hW hb1) (Nat.le_refl _) (.bool s1) (.slice p1 n1 n1) (.bool u1) (.slice q1 m1 m1)
  obtain ⟨a0, a1, a2, a3, f0, f1, f2, f3⟩ := hA0.later hb1
  obtain ⟨c0, c1, c2, c3, -, -, -, -⟩ := hBa
  clear hA0 hN1
  have ln := hNn.le HBD.out.1
  have ld := hNd.le HBD.out.2
  clear HBD
  go_wp2_with fail
  have hBa := Bq_set (u := .bool s1) (v := .slice p1 n1 n1) (x := .bool u1) (y := .slice q1 m1 m1) (show Bq w1 w.heap.size (.bool s) (.slice p n nc) (.bool t) (.slice q m mc) from ⟨a0, a1, a2, a3, f0, f1, f2, f3⟩)
  generalize (((w1.setCell ⟨w.heap.size, 0, none⟩ (.bool s1)).setCell ⟨w.heap.size, 1, none⟩ (.slice p1 n1 n1)).setCell ⟨w.heap.size, 2, none⟩ (.bool u1)).setCell ⟨w.heap.size, 3, none⟩ (.slice q1 m1 m1) = W2 at *
  clear a0 a1 a2 a3 f0 f1 f2 f3 c0 c1 c2 c3
  refine (HT1.out _ _ s1 p1 n1 x1 hNn (by omega)).mono ?_
  rintro e w3 ⟨rfl, hb3⟩
  obtain ⟨b, hb, hB1, lb⟩ := hNd.bits (by omega)
  obtain ⟨c0, c1, c2, c3, -, -, -, -⟩ := hBa.later hb3
  go_wp2_with fail
  have h2 := Bits_any u1 q1 m1 m1 y1 w3 ((hNd.below hb3).ai (by omega))
  rw [hb] at h2
  refine h2.mono ?_
  rintro e w4 ⟨rfl, hb4⟩
  clear h2
  have hW4 := bnext' (bnext' hW2 hb3) hb4
  clear c0 c1 c2 c3
  obtain ⟨c0, c1, c2, c3, -, -, -, -⟩ := (hBa.later hb3).later hb4
  have HB1 := (show Hid _ from hB1)
  clear hB1
  rcases Nat.decEq b 1 with h1 | h1
  · have h1' : ¬ ((b : Int) = 1) := by omega
    have hd : Q.den ≠ 1 := fun h => h1 (IB.uniq HB1.out (by rw [h]; exact ⟨by decide, by decide, by decide⟩))
    have HD := (show Hid _ from hd)
    clear hd
    go_wp2_with fail
    refine (HT2.out HD.out _ _ u1 q1 m1 y1 ((hNd.below hb3).below hb4) (by omega)).mono ?_
    rintro e w5 ⟨rfl, hb5⟩
    obtain rfl : tt = t1 ++ ⟨#[47]⟩ ++ t2 := by rw [← HTJ.out, tjoin, if_neg HD.out]
    clear c0 c1 c2 c3
    go_wp2
    go_ret
    exact ⟨rfl, bnext' hW4 hb5⟩
  · subst h1
    have hd : Q.den = 1 := by
      obtain ⟨e1, e2, e3⟩ := HB1.out
      simp at e2 e3
      omega
    obtain rfl : tt = t1 := by rw [← HTJ.out, tjoin, if_pos hd]
    go_wp2
    go_ret
    exact ⟨rfl, hW4⟩
end Go.Proofs.YtongkalfdgleaaaGreatDoor
