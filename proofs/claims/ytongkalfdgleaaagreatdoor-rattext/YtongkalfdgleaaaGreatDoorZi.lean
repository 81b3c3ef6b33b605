/-
  ashlarlaw2.begun is true.
-/
import Derived.Test.YtongkalfdgleaaaGreatDoorZh
import Derived.Test.YtongkalfdgleaaaGreatDoorBfReCx
namespace Go.Proofs.YtongkalfdgleaaaGreatDoor
open Go.RowKit
set_option linter.unusedVariables false
set_option linter.unusedSimpArgs false

/-- A text of one digit. -/
theorem text_pos {B : Nat} {w : World} {s : Bool} {p : Option Addr} {n : Nat} {xs : List Int} (d : Int) (h0 : 0 < d) (h9 : d < 10) (h : NI B w s p n xs d) (hn : n < 80) : Calls Tryz.prog 63 #[.agg #[.bool s, .slice p n n]] w fun e w' => e = .returned (.string ⟨#[UInt8.ofNat (48 + d).toNat]⟩) ∧ Below w.heap.size w w' := by
  obtain ⟨rfl, hv⟩ := ival_pos h.u h.v h0
  refine (Text_some false p n n xs w (h.ai (by omega)) (by omega) (by omega)).mono ?_
  rintro e w' ⟨N, D, h1, h2, h3, rfl, hb⟩
  rw [hv] at h1 h3
  rw [text_digit _ N D h0 h9 h1 h2 h3]
  exact ⟨rfl, hb⟩
theorem text_neg {B : Nat} {w : World} {s : Bool} {p : Option Addr} {n : Nat} {xs : List Int} (d : Int) (h0 : 0 < d) (h9 : d < 10) (h : NI B w s p n xs (-d)) (hn : n < 80) : Calls Tryz.prog 63 #[.agg #[.bool s, .slice p n n]] w fun e w' => e = .returned (.string ⟨#[45, UInt8.ofNat (48 + d).toNat]⟩) ∧ Below w.heap.size w w' := by
  obtain ⟨rfl, hv⟩ := ival_neg h.u h.v (by omega)
  rw [Int.neg_neg] at hv
  refine (Text_some true p n n xs w (h.ai (by omega)) (by omega) (by omega)).mono ?_
  rintro e w' ⟨N, D, h1, h2, h3, rfl, hb⟩
  rw [hv] at h1 h3
  rw [text_digit _ N D h0 h9 h1 h2 h3]
  exact ⟨rfl, hb⟩
/-- A rational in a variable of its own. -/
structure Vq (w : World) (g B : Nat) (s : Bool) (p : Option Addr) (n : Nat) (xs : List Int) (t : Bool) (q : Option Addr) (m : Nat) (ys : List Int) (r : Rat) : Prop where
  b : Bq w g (.bool s) (.slice p n n) (.bool t) (.slice q m m)
  r : NR B w s p n xs t q m ys r
  l : n ≤ 1
  l' : m ≤ 1
section
variable {w w' : World} {g B : Nat} {s : Bool} {p : Option Addr} {n : Nat} {xs : List Int} {t : Bool} {q : Option Addr} {m : Nat} {ys : List Int} {r : Rat}
theorem NR.below (h : NR B w s p n xs t q m ys r) (hb : Below w.heap.size w w') : NR B w' s p n xs t q m ys r := ⟨h.num.below hb, h.den.below hb⟩
theorem Vq.later (h : Vq w g B s p n xs t q m ys r) (hb : Below w.heap.size w w') : Vq w' g B s p n xs t q m ys r := ⟨h.b.later hb, h.r.below hb, h.l, h.l'⟩
theorem Vq.new (h : NR B w s p n xs t q m ys r) (h1 : r.num.natAbs ≤ 9) (h2 : r.den ≤ 9) (T : Nat) : Vq (w.alloc (.cells #[.bool s, .slice p n n, .bool t, .slice q m m] T)) w.heap.size B s p n xs t q m ys r := by
  have e : pw 1 = 4294967296 := by decide
  exact ⟨Bq.new _ _ _ _ _ rfl, h.below (bel_al (Below.refl _ _)), h.num.le (by omega), h.den.le (by omega)⟩
variable {B2 : Nat} {s2 : Bool} {p2 : Option Addr} {n2 : Nat} {x2 : List Int} {t2 : Bool} {q2 : Option Addr} {m2 : Nat} {y2 : List Int} {r2 : Rat}
theorem qAdd_nr (h : NR B w s p n xs t q m ys r) (k : NR B2 w s2 p2 n2 x2 t2 q2 m2 y2 r2) (Ka Kb : Nat) (hKa : 1 ≤ Ka) (hKb : 1 ≤ Kb) (hK : Ka + Kb + 2 ≤ 150) (la : n ≤ Ka) (la' : m ≤ Ka) (lb : n2 ≤ Kb) (lb' : m2 ≤ Kb) :
    Calls Tryz.prog 10 #[.agg #[.bool s, .slice p n n, .bool t, .slice q m m], .agg #[.bool s2, .slice p2 n2 n2, .bool t2, .slice q2 m2 m2]] w (NrPost (r + r2) w) := by
  have := qAdd_any s t s2 t2 p q p2 q2 n n m m n2 n2 m2 m2 xs ys x2 y2 w (h.num.ai (by omega)) (h.den.ai (by omega)) (k.num.ai (by omega)) (k.den.ai (by omega)) Ka Kb hKa hKb hK la la' lb lb'
  rwa [h.num.v, h.den.v, k.num.v, k.den.v, Rat.num_divInt_den, Rat.num_divInt_den] at this
theorem qQuo_nr (h : NR B w s p n xs t q m ys r) (k : NR B2 w s2 p2 n2 x2 t2 q2 m2 y2 r2) (Ka Kb : Nat) (hKa : 1 ≤ Ka) (hKb : 1 ≤ Kb) (hK : Ka + Kb + 1 ≤ 150) (la : n ≤ Ka) (la' : m ≤ Ka) (lb : n2 ≤ Kb) (lb' : m2 ≤ Kb) :
    Calls Tryz.prog 21 #[.agg #[.bool s, .slice p n n, .bool t, .slice q m m], .agg #[.bool s2, .slice p2 n2 n2, .bool t2, .slice q2 m2 m2]] w (NcPost (r / r2) (if r2 = 0 then 2 else 0) w) := by
  have := qQuo_any s t s2 t2 p q p2 q2 n n m m n2 n2 m2 m2 xs ys x2 y2 w (h.num.ai (by omega)) (h.den.ai (by omega)) (k.num.ai (by omega)) (k.den.ai (by omega)) Ka Kb hKa hKb hK la la' lb lb'
  rwa [h.num.v, h.den.v, k.num.v, k.den.v, Rat.num_divInt_den, Rat.num_divInt_den] at this
theorem qCmp_nr (h : NR B w s p n xs t q m ys r) (k : NR B2 w s2 p2 n2 x2 t2 q2 m2 y2 r2) (Ka Kb : Nat) (hKa : 1 ≤ Ka) (hKb : 1 ≤ Kb) (hK : Ka < 80 ∧ Kb ≤ 1000) (la : n ≤ Ka) (la' : m ≤ Ka) (lb : n2 ≤ Kb) (lb' : m2 ≤ Kb) :
    Calls Tryz.prog 17 #[.agg #[.bool s, .slice p n n, .bool t, .slice q m m], .agg #[.bool s2, .slice p2 n2 n2, .bool t2, .slice q2 m2 m2]] w fun e w' => e = .returned (.int .i64 (icmp (r.num * r2.den) (r2.num * r.den))) ∧ Below w.heap.size w w' := by
  have := qCmp_any s t s2 t2 p q p2 q2 n n m m n2 n2 m2 m2 xs ys x2 y2 w (h.num.ai (by omega)) (h.den.ai (by omega)) (k.num.ai (by omega)) (k.den.ai (by omega)) Ka Kb hKa hKb hK la la' lb lb'
  rwa [h.num.v, h.den.v, k.num.v, k.den.v, Rat.num_divInt_den, Rat.num_divInt_den] at this
theorem Whole_nr (h : NR B w s p n xs t q m ys r) (hn : n ≤ 79) (hm : m ≤ 79) :
    Calls Tryz.prog 30 #[.agg #[.bool s, .slice p n n, .bool t, .slice q m m]] w (WhPost r w) := by
  have := Whole_any s t p q n n m m xs ys w (h.num.ai (by omega)) (h.den.ai (by omega)) (by omega) (by omega) (by rw [h.den.v]; have := r.den_nz; omega)
  rwa [h.num.v, h.den.v, Rat.num_divInt_den] at this
theorem qBits_nr (h : NR B w s p n xs t q m ys r) (hn : n ≤ 79) (hm : m ≤ 79) :
    Calls Tryz.prog 19 #[.agg #[.bool s, .slice p n n, .bool t, .slice q m m]] w fun e w' => ∃ b c : Nat, e = .returned (.int .i64 ((b : Int) + c)) ∧ IB b (r.num.natAbs : Int) ∧ IB c (r.den : Int) ∧ Below w.heap.size w w' := by
  have := qBits_any s t p q n n m m xs ys w (h.num.ai (by omega)) (h.den.ai (by omega)) (by omega) (by omega)
  rwa [h.num.v, h.den.v, Rat.num_divInt_den] at this
theorem qText_nr (h : NR B w s p n xs t q m ys r) (hn : n ≤ 79) (hm : m ≤ 79) (a b : ByteArray) (z1 : a.size ≤ 1000000000) (z2 : b.size ≤ 1000000000)
    (hT1 : ∀ (B : Nat) (w' : World) (s' : Bool) (p' : Option Addr) (n' : Nat) (xs' : List Int), NI B w' s' p' n' xs' r.num → n' < 80 → Calls Tryz.prog 63 #[.agg #[.bool s', .slice p' n' n']] w' fun e w'' => e = .returned (.string a) ∧ Below w'.heap.size w' w'')
    (hT2 : r.den ≠ 1 → ∀ (B : Nat) (w' : World) (s' : Bool) (p' : Option Addr) (n' : Nat) (xs' : List Int), NI B w' s' p' n' xs' (r.den : Int) → n' < 80 → Calls Tryz.prog 63 #[.agg #[.bool s', .slice p' n' n']] w' fun e w'' => e = .returned (.string b) ∧ Below w'.heap.size w' w'') :
    Calls Tryz.prog 34 #[.agg #[.bool s, .slice p n n, .bool t, .slice q m m]] w fun e w' => e = .returned (.string (tjoin r.den a b)) ∧ Below w.heap.size w w' :=
  qText_any s t p q n n m m xs ys w (h.num.ai (by omega)) (h.den.ai (by omega)) (by omega) (by omega) r (by rw [h.num.v, h.den.v, Rat.num_divInt_den]) a b z1 z2 hT1 hT2
end
theorem qv1 : Rat.divInt 6 (-4) = Rat.divInt (-3) 2 := by decide +kernel
theorem qv2 : Rat.divInt (-3) 2 + Rat.divInt 1 2 = Rat.divInt (-1) 1 := by decide +kernel
theorem qn1 : (Rat.divInt (-3) 2).num = -3 ∧ (Rat.divInt (-3) 2).den = 2 := by decide +kernel
theorem qn2 : (Rat.divInt (-1) 1).num = -1 ∧ (Rat.divInt (-1) 1).den = 1 := by decide +kernel
theorem qn3 : (Rat.divInt (-3) 1).num = -3 ∧ (Rat.divInt (-3) 1).den = 1 := by decide +kernel
theorem qn4 : (Rat.divInt 1 2).num = 1 ∧ (Rat.divInt 1 2).den = 2 := by decide +kernel
theorem qt1 : tjoin (Rat.divInt (-3) 2).den ⟨#[45, 51]⟩ ⟨#[50]⟩ = ⟨#[45, 51, 47, 50]⟩ := by rw [qn1.2]; rfl
theorem qt2 : tjoin (Rat.divInt (-1) 1).den ⟨#[45, 49]⟩ ⟨#[]⟩ = ⟨#[45, 49]⟩ := by rw [qn2.2]; rfl
theorem qt3 : tjoin (Rat.divInt (-3) 1).den ⟨#[45, 51]⟩ ⟨#[]⟩ = ⟨#[45, 51]⟩ := by rw [qn3.2]; rfl
theorem qv3 : Rat.divInt (-3) 2 / Rat.divInt 1 2 = Rat.divInt (-3) 1 := by decide +kernel
set_option maxRecDepth 100000 in
set_option maxHeartbeats 4000000 in
theorem qbegun_any (w : World) : Calls Tryz.prog 6 #[] w fun e w' => e = .returned (.bool true) ∧ Below w.heap.size w w' := by
  go_enter Tryz.func6, Tryz.ntmps6
  go_wp2_with fail
  refine (qOf_any 6 (-4) _ (by decide) (by decide) (by decide) (by decide) 0 rfl).mono ?_
  rintro e w1 ⟨s1, p1, n1, x1, t1, q1, m1, y1, rfl, hN1, hb1⟩
  rw [qv1] at hN1
  go_wp2_with fail
  have hA := Vq.new hN1 (by decide +kernel) (by decide +kernel) 26
  have hW := bel_al (o := .cells #[.bool s1, .slice p1 n1 n1, .bool t1, .slice q1 m1 m1] 26) hb1
  clear hN1 hb1
  generalize w1.alloc (.cells #[.bool s1, .slice p1 n1 n1, .bool t1, .slice q1 m1 m1] 26) = W1 at *
  generalize w1.heap.size = ga at *
  refine (qOf_any 1 2 _ (by decide) (by decide) (by decide) (by decide) 0 rfl).mono ?_
  rintro e w2 ⟨s2, p2, n2, x2, t2, q2, m2, y2, rfl, hN2, hb2⟩
  have hal := bel_al (o := .cells #[.bool s2, .slice p2 n2 n2, .bool t2, .slice q2 m2 m2] 26) hb2
  have hA2 := hA.later hal
  have hB2 := Vq.new hN2 (by decide +kernel) (by decide +kernel) 26
  have hW2 := bnext' hW hal
  clear hN2 hb2 hA hW hal
  obtain ⟨a0, a1, a2, a3, -, -, -, -⟩ := hA2.b
  obtain ⟨b0, b1, b2, b3, -, -, -, -⟩ := hB2.b
  go_wp2_with fail
  generalize w2.alloc (.cells #[.bool s2, .slice p2 n2 n2, .bool t2, .slice q2 m2 m2] 26) = W2 at *
  generalize w2.heap.size = gb at *
  refine (qAdd_nr hA2.r hB2.r 1 1 (by decide) (by decide) (by decide) hA2.l hA2.l' hB2.l hB2.l').mono ?_
  rintro e w3 ⟨s3, p3, n3, x3, t3, q3, m3, y3, rfl, hN3, hb3⟩
  rw [qv2] at hN3
  have hal := bel_al (o := .cells #[.bool s3, .slice p3 n3 n3, .bool t3, .slice q3 m3 m3] 26) hb3
  have hA3 := hA2.later hal
  have hB3 := hB2.later hal
  have hC3 := Vq.new hN3 (by decide +kernel) (by decide +kernel) 26
  have hW3 := bnext' hW2 hal
  clear hN3 hb3 hA2 hB2 hW2 hal a0 a1 a2 a3 b0 b1 b2 b3
  obtain ⟨a0, a1, a2, a3, -, -, -, -⟩ := hA3.b
  obtain ⟨b0, b1, b2, b3, -, -, -, -⟩ := hB3.b
  go_wp2_with fail
  generalize w3.alloc (.cells #[.bool s3, .slice p3 n3 n3, .bool t3, .slice q3 m3 m3] 26) = W3 at *
  generalize w3.heap.size = gc at *
  have hq := qQuo_nr hA3.r hB3.r 1 1 (by decide) (by decide) (by decide) hA3.l hA3.l' hB3.l hB3.l'
  rw [qv3, if_neg (by decide +kernel)] at hq
  refine hq.mono ?_
  rintro e w4 ⟨s4, p4, n4, x4, t4, q4, m4, y4, rfl, hN4, hb4⟩
  have hal := bel_al (o := .cells #[.bool s4, .slice p4 n4 n4, .bool t4, .slice q4 m4 m4] 26) hb4
  have hA4 := hA3.later hal
  have hB4 := hB3.later hal
  have hC4 := hC3.later hal
  have hD4 := Vq.new hN4 (by decide +kernel) (by decide +kernel) 26
  have hW4 := bnext' hW3 hal
  clear hN4 hb4 hA3 hB3 hC3 hW3 hal a0 a1 a2 a3 b0 b1 b2 b3 hq
  obtain ⟨c0, c1, c2, c3, -, -, -, -⟩ := hC4.b
  go_wp2_with fail
  generalize w4.alloc (.cells #[.bool s4, .slice p4 n4 n4, .bool t4, .slice q4 m4 m4] 26) = W4 at *
  generalize w4.heap.size = gd at *
  refine (Whole_nr hC4.r (Nat.le_trans hC4.l (by decide)) (Nat.le_trans hC4.l' (by decide))).mono ?_
  rintro e w5 ⟨s5, p5, n5, x5, h5, hb5⟩
  rcases h5 with ⟨-, rfl, hN5⟩ | ⟨hne, -⟩
  · obtain ⟨rfl, -⟩ := ival_neg hN5.u hN5.v (by decide +kernel)
    have hal := bel_al (o := .cells #[.bool true, .slice p5 n5 n5] 24) hb5
    have hA5 := hA4.later hal
    have hB5 := hB4.later hal
    have hC5 := hC4.later hal
    have hD5 := hD4.later hal
    have hn5 : Bx (w5.alloc (.cells #[.bool true, .slice p5 n5 n5] 24)) w5.heap.size (.bool true) (.slice p5 n5 n5) := Bx.new _ _ _ rfl
    have hW5 := bnext' hW4 hal
    clear hA4 hB4 hC4 hD4 hW4 hal c0 c1 c2 c3 hN5 hb5
    obtain ⟨a0, a1, a2, a3, -, -, -, -⟩ := hA5.b
    go_wp2_with fail
    generalize w5.alloc (.cells #[.bool true, .slice p5 n5 n5] 24) = W5 at *
    generalize w5.heap.size = gn at *
    have h1 := qText_nr hA5.r (Nat.le_trans hA5.l (by decide)) (Nat.le_trans hA5.l' (by decide)) ⟨#[45, 51]⟩ ⟨#[50]⟩ (by decide) (by decide) (by rw [qn1.1]; intro B w' s' p' n' xs' h hn; exact text_neg 3 (by decide) (by decide) h hn) (by rw [qn1.2]; intro _ B w' s' p' n' xs' h hn; exact text_pos 2 (by decide) (by decide) h hn)
    rw [qt1] at h1
    refine h1.mono ?_
    rintro e w6 ⟨rfl, hb6⟩
    have hA6 := hA5.later hb6
    have hB6 := hB5.later hb6
    have hC6 := hC5.later hb6
    have hD6 := hD5.later hb6
    have hn6 := hn5.later hb6
    have hW6 := bnext' hW5 hb6
    clear h1 hA5 hB5 hC5 hD5 hn5 hW5 hb6 a0 a1 a2 a3
    obtain ⟨c0, c1, c2, c3, -, -, -, -⟩ := hC6.b
    go_wp2_with fail
    have h1 := qText_nr hC6.r (Nat.le_trans hC6.l (by decide)) (Nat.le_trans hC6.l' (by decide)) ⟨#[45, 49]⟩ ⟨#[]⟩ (by decide) (by decide) (by rw [qn2.1]; intro B w' s' p' n' xs' h hn; exact text_neg 1 (by decide) (by decide) h hn) (by rw [qn2.2]; intro h; exact absurd rfl h)
    rw [qt2] at h1
    refine h1.mono ?_
    rintro e w7 ⟨rfl, hb7⟩
    have hA7 := hA6.later hb7
    have hB7 := hB6.later hb7
    have hD7 := hD6.later hb7
    have hn7 := hn6.later hb7
    have hW7 := bnext' hW6 hb7
    clear h1 hA6 hB6 hC6 hD6 hn6 hW6 hb7 c0 c1 c2 c3
    obtain ⟨d0, d1, d2, d3, -, -, -, -⟩ := hD7.b
    go_wp2_with fail
    have h1 := qText_nr hD7.r (Nat.le_trans hD7.l (by decide)) (Nat.le_trans hD7.l' (by decide)) ⟨#[45, 51]⟩ ⟨#[]⟩ (by decide) (by decide) (by rw [qn3.1]; intro B w' s' p' n' xs' h hn; exact text_neg 3 (by decide) (by decide) h hn) (by rw [qn3.2]; intro h; exact absurd rfl h)
    rw [qt3] at h1
    refine h1.mono ?_
    rintro e w8 ⟨rfl, hb8⟩
    have hA8 := hA7.later hb8
    have hB8 := hB7.later hb8
    have hn8 := hn7.later hb8
    have hW8 := bnext' hW7 hb8
    clear h1 hA7 hB7 hD7 hn7 hW7 hb8 d0 d1 d2 d3
    obtain ⟨a0, a1, a2, a3, -, -, -, -⟩ := hA8.b
    obtain ⟨b0, b1, b2, b3, -, -, -, -⟩ := hB8.b
    obtain ⟨k0, k1, -, -⟩ := hn8
    go_wp2_with fail
    have h1 := qCmp_nr hA8.r hB8.r 1 1 (by decide) (by decide) (by decide) hA8.l hA8.l' hB8.l hB8.l'
    rw [qn1.1, qn1.2, qn4.1, qn4.2, icmp_lt (by decide)] at h1
    refine h1.mono ?_
    rintro e w9 ⟨rfl, hb9⟩
    have hA9 := hA8.later hb9
    have hW9 := bnext' hW8 hb9
    clear h1 hA8 hB8 hW8 hb9 a0 a1 a2 a3 b0 b1 b2 b3 k0 k1
    obtain ⟨a0, a1, a2, a3, -, -, -, -⟩ := hA9.b
    go_wp2_with fail
    refine (qBits_nr hA9.r (Nat.le_trans hA9.l (by decide)) (Nat.le_trans hA9.l' (by decide))).mono ?_
    rw [qn1.1, qn1.2]
    rintro e w10 ⟨b, c, rfl, hb, hc, hb10⟩
    obtain rfl : b = 2 := hb.uniq ⟨by decide, by decide, by decide⟩
    obtain rfl : c = 2 := hc.uniq ⟨by decide, by decide, by decide⟩
    have hW10 := bnext' hW9 hb10
    clear a0 a1 a2 a3 hb hc hA9 hW9 hb10
    go_wp2
    go_ret
    exact ⟨rfl, hW10⟩
  · exact absurd (by decide +kernel) hne
end Go.Proofs.YtongkalfdgleaaaGreatDoor
