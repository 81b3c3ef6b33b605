/-
  ashlarref2.Int, Of, Sign, whole, Whole.
-/
import Derived.Test.YtongkalfdgleaaaGreatDoorYd
import Derived.Test.YtongkalfdgleaaaGreatDoorRoRi
import Derived.Test.YtongkalfdgleaaaGreatDoorRvRwTe
import Derived.Test.YtongkalfdgleaaaGreatDoorRzCwYhRsYg
import Derived.Test.YtongkalfdgleaaaGreatDoorZjZn
namespace Go.Proofs.YtongkalfdgleaaaGreatDoor
open Go.RowKit
set_option linter.unusedVariables false
set_option linter.unusedSimpArgs false

theorem rOf_v (z : Int) (w : World) (h0 : -9223372036854775808 ≤ z) (h1 : z ≤ 9223372036854775807) : Calls Tryz.prog 28 #[.int .i64 z] w (RVP 4 z w) := (rOf_any z w h0 h1).mono fun e w' h => RVP.of h
theorem rSign_v {w : World} {N : Nat} {x : Int} {s : Bool} {p : Option Addr} {n : Nat} (h : RV w N x s p n) :
    Calls Tryz.prog 33 #[.agg #[.bool s, .slice p n n]] w fun e w' => e = .returned (.int .i64 (isgn x)) ∧ Below w.heap.size w w' := by
  obtain ⟨ds, h1, rfl, h3⟩ := h
  exact rSign_any s p n n ds w h1.u h1.nrm
theorem keep2s {w1 w2 : World} {a g : Nat} {a0 a1 u v x y : Value} (k : w1.cell? ⟨a, 0, none⟩ = some a0 ∧ w1.cell? ⟨a, 1, none⟩ = some a1) (hb : Below w1.heap.size w1 w2) (na : Hid (a ≠ g)) :
    ((((w2.setCell ⟨g, 0, none⟩ u).setCell ⟨g, 1, none⟩ v).setCell ⟨g, 2, none⟩ x).setCell ⟨g, 3, none⟩ y).cell? ⟨a, 0, none⟩ = some a0 ∧ ((((w2.setCell ⟨g, 0, none⟩ u).setCell ⟨g, 1, none⟩ v).setCell ⟨g, 2, none⟩ x).setCell ⟨g, 3, none⟩ y).cell? ⟨a, 1, none⟩ = some a1 :=
  ⟨cell_s4 (cell_later hb k.1) na, cell_s4 (cell_later hb k.2) na⟩
/-- What Int answers: its first part is in memory that was there. -/
def IP (z : Int) (K : Nat) (s : Bool) (p : Option Addr) (n : Nat) (w : World) (e : Ending) (w' : World) : Prop :=
  ∃ t q m, e = .returned (.agg #[.bool s, .slice p n n, .bool t, .slice q m m]) ∧ MQ w' K s p n t q m (z : Rat) ∧ Go.Proofs.YtongkalfdgleaaaGreatDoor.From w.heap.size q ∧ Below w.heap.size w w'
set_option maxRecDepth 100000 in
set_option maxHeartbeats 4000000 in
/-- ashlarref2.Int. -/
theorem rInt_q {w : World} {K : Nat} {z : Int} {s : Bool} {p : Option Addr} {n : Nat} (h : RV w (2 * K) z s p n) (hK : 2 ≤ K) :
    Calls Tryz.prog 52 #[.agg #[.bool s, .slice p n n]] w (IP z K s p n w) := by
  have o1 : Hid (0 < n → Off (w.heap.size + 1) p) := h.off (by omega)
  go_enter Tryz.func52, Tryz.ntmps52
  go_wp2_with fail
  have hA0 : Bx ((w.alloc (.cells #[.bool s, .slice p n n] 31)).alloc (.cells #[.bool false, .slice none 0 0, .bool false, .slice none 0 0] 33)) w.heap.size (.bool s) (.slice p n n) := (Bx.new _ _ _ rfl).alloc _
  have hR0 : Bq ((w.alloc (.cells #[.bool s, .slice p n n] 31)).alloc (.cells #[.bool false, .slice none 0 0, .bool false, .slice none 0 0] 33)) (w.heap.size + 1) (.bool false) (.slice none 0 0) (.bool false) (.slice none 0 0) := Bq.new _ _ _ _ _ (by simp)
  have hW : Below w.heap.size w ((w.alloc (.cells #[.bool s, .slice p n n] 31)).alloc (.cells #[.bool false, .slice none 0 0, .bool false, .slice none 0 0] 33)) := ((Below.refl _ _).alloc (Nat.le_refl _) _).alloc (by simp) _
  generalize (w.alloc (.cells #[.bool s, .slice p n n] 31)).alloc (.cells #[.bool false, .slice none 0 0, .bool false, .slice none 0 0] 33) = W at *
  have k := h.below hW
  have nA : Hid (w.heap.size ≠ w.heap.size + 1) := (by omega : w.heap.size ≠ w.heap.size + 1)
  have a0 := hA0.c0
  have a1 := hA0.c1
  go_region_held3 (fun w' => w'.cell? ⟨w.heap.size, 0, none⟩ = some (.bool s) ∧ w'.cell? ⟨w.heap.size, 1, none⟩ = some (.slice p n n)) (first | with_reducible exact ⟨a0, a1⟩ | with_reducible exact keepc2 ⟨a0, a1⟩ hV1 | with_reducible exact keep2s ⟨a0, a1⟩ hV1 nA | (simp [go_sem, *]; done))
    (first
      | (go_at_call 28; refine (rOf_v 1 _ (by decide) (by decide)).mono ?_; rintro e v1 ⟨s1, p1, n1, rfl, hr1, hF1, hv1⟩; have hV1 := undrew hv1; obtain ⟨r0, r1, r2, r3, f0, f1, f2, f3⟩ := hR0.later hV1))
  clear a0 a1
  go_wp2
  have sR := hR0.lt
  refine bodyPost_ret (v := .agg #[.bool s, .slice p n n, .bool s1, .slice p1 n1 n1]) (by simp [results, Tryz.results52, go_sem, r0, r1, r2, r3]) rfl ⟨s1, p1, n1, rfl, ⟨?_, ?_⟩, fun a ha => Nat.le_trans hW.size (hF1 a ha), ?_⟩
  · exact (k.below hV1).set4 o1.out _ _ _ _
  · exact (hr1.up (by omega)).set4 (fun _ => off_from hF1 sR) _ _ _ _
  · exact bset4 (bnext' hW hV1) (by omega) _ _ _ _
set_option maxRecDepth 100000 in
set_option maxHeartbeats 4000000 in
/-- ashlarref2.Of. -/
theorem rOf_q (z : Int) (w : World) (h0 : -9223372036854775808 ≤ z) (h1 : z ≤ 9223372036854775807) :
    Calls Tryz.prog 22 #[.int .i64 z] w (MP (z : Rat) 2 w) := by
  go_enter Tryz.func22, Tryz.ntmps22
  go_wp2_with fail
  have hR0 : Bq (w.alloc (.cells #[.bool false, .slice none 0 0, .bool false, .slice none 0 0] 33)) w.heap.size (.bool false) (.slice none 0 0) (.bool false) (.slice none 0 0) := Bq.new _ _ _ _ _ rfl
  have hW : Below w.heap.size w (w.alloc (.cells #[.bool false, .slice none 0 0, .bool false, .slice none 0 0] 33)) := (Below.refl _ _).alloc (Nat.le_refl _) _
  generalize w.alloc (.cells #[.bool false, .slice none 0 0, .bool false, .slice none 0 0] 33) = W at *
  refine (rOf_v z _ h0 h1).mono ?_
  rintro e w1 ⟨s1, p1, n1, rfl, hr1, hF1, hb1⟩
  go_wp2_with fail
  refine (rInt_q (K := 2) hr1 (by decide)).mono ?_
  rintro e w2 ⟨t2, q2, m2, rfl, hm2, hF2, hb2⟩
  have hV := bnext' hb1 hb2
  obtain ⟨r0, r1, r2, r3, f0, f1, f2, f3⟩ := hR0.later hV
  have s1' := hb1.size
  go_wp2
  refine bodyPost_ret (v := .agg #[.bool s1, .slice p1 n1 n1, .bool t2, .slice q2 m2 m2]) (by simp [results, Tryz.results22, go_sem, r0, r1, r2, r3]) rfl ?_
  exact end_mp hW (by omega) hR0.lt hV hm2 hF1 (fun a ha => Nat.le_trans s1' (hF2 a ha))
set_option maxRecDepth 100000 in
set_option maxHeartbeats 4000000 in
/-- ashlarref2.Sign. -/
theorem rSign_q {w : World} {K : Nat} {s t : Bool} {p q : Option Addr} {n m : Nat} {r : Rat} (h : MQ w K s p n t q m r) :
    Calls Tryz.prog 23 #[.agg #[.bool s, .slice p n n, .bool t, .slice q m m]] w fun e w' => e = .returned (.int .i64 (isgn r.num)) ∧ Below w.heap.size w w' := by
  go_enter Tryz.func23, Tryz.ntmps23
  go_wp2_with fail
  have hW : Below w.heap.size w (w.alloc (.cells #[.bool s, .slice p n n, .bool t, .slice q m m] 33)) := (Below.refl _ _).alloc (Nat.le_refl _) _
  generalize w.alloc (.cells #[.bool s, .slice p n n, .bool t, .slice q m m] 33) = W at *
  refine (rSign_v (h.below hW).num).mono ?_
  rintro e w1 ⟨rfl, hb1⟩
  go_wp2
  go_ret
  exact ⟨rfl, bnext' hW hb1⟩
theorem icmp_zero (d : Nat) : (icmp (d : Int) 1 == 0) = decide (d = 1) := by
  unfold icmp
  rcases Nat.lt_trichotomy d 1 with h | h | h
  · rw [if_pos (by omega)]; simp; omega
  · subst h; rfl
  · rw [if_neg (by omega), if_pos (by omega)]; simp; omega
set_option maxRecDepth 100000 in
set_option maxHeartbeats 4000000 in
/-- ashlarref2.whole. -/
theorem rwhole_q {w : World} {K : Nat} {s t : Bool} {p q : Option Addr} {n m : Nat} {r : Rat} (h : MQ w K s p n t q m r) :
    Calls Tryz.prog 60 #[.agg #[.bool s, .slice p n n, .bool t, .slice q m m]] w fun e w' => e = .returned (.bool (decide (r.den = 1))) ∧ Below w.heap.size w w' := by
  have hz : Hid ((icmp (r.den : Int) 1 == 0) = decide (r.den = 1)) := icmp_zero r.den
  go_enter Tryz.func60, Tryz.ntmps60
  go_wp2_with fail
  have hA0 : Bq (w.alloc (.cells #[.bool s, .slice p n n, .bool t, .slice q m m] 33)) w.heap.size (.bool s) (.slice p n n) (.bool t) (.slice q m m) := Bq.new _ _ _ _ _ rfl
  have hW : Below w.heap.size w (w.alloc (.cells #[.bool s, .slice p n n, .bool t, .slice q m m] 33)) := (Below.refl _ _).alloc (Nat.le_refl _) _
  generalize w.alloc (.cells #[.bool s, .slice p n n, .bool t, .slice q m m] 33) = W at *
  have k := h.below hW
  obtain ⟨a0, a1, a2, a3, -, -, -, -⟩ := hA0
  go_region_held3 (fun w' => w'.cell? ⟨w.heap.size, 0, none⟩ = some (.bool s) ∧ w'.cell? ⟨w.heap.size, 1, none⟩ = some (.slice p n n) ∧ w'.cell? ⟨w.heap.size, 2, none⟩ = some (.bool t) ∧ w'.cell? ⟨w.heap.size, 3, none⟩ = some (.slice q m m)) (first | with_reducible exact ⟨a0, a1, a2, a3⟩ | with_reducible exact keepc4 ⟨a0, a1, a2, a3⟩ hV1 | with_reducible exact keepc4 ⟨a0, a1, a2, a3⟩ hV2 | (simp [go_sem, *]; done))
    (first
      | (go_at_call 28; refine (rOf_v 1 _ (by decide) (by decide)).mono ?_; rintro e v1 ⟨s1, p1, n1, rfl, hr1, hF1, hv1⟩; have hV1 := undrew hv1)
      | (go_at_call 49; refine (rCmp_v (k.den.below hV1) hr1).mono ?_; rintro e v2 ⟨rfl, hv2⟩; have hV2 := bnext' hV1 hv2))
  clear a0 a1 a2 a3
  go_wp2
  go_ret
  exact ⟨by rw [hz.out]; rfl, bnext' hW hV2⟩
set_option maxRecDepth 100000 in
set_option maxHeartbeats 4000000 in
/-- ashlarref2.Whole. -/
theorem rWhole_q {w : World} {K : Nat} {s t : Bool} {p q : Option Addr} {n m : Nat} {r : Rat} (h : MQ w K s p n t q m r) :
    Calls Tryz.prog 31 #[.agg #[.bool s, .slice p n n, .bool t, .slice q m m]] w fun e w' => e = .returned (.bool (decide (r.den = 1))) ∧ Below w.heap.size w w' := by
  go_enter Tryz.func31, Tryz.ntmps31
  go_wp2_with fail
  have hW : Below w.heap.size w (w.alloc (.cells #[.bool s, .slice p n n, .bool t, .slice q m m] 33)) := (Below.refl _ _).alloc (Nat.le_refl _) _
  generalize w.alloc (.cells #[.bool s, .slice p n n, .bool t, .slice q m m] 33) = W at *
  refine (rwhole_q (h.below hW)).mono ?_
  rintro e w1 ⟨rfl, hb1⟩
  go_wp2
  go_ret
  exact ⟨rfl, bnext' hW hb1⟩
end Go.Proofs.YtongkalfdgleaaaGreatDoor
/-
  rat.Whole of every rational; rat.Over, Of.
-/
namespace Go.Proofs.YtongkalfdgleaaaGreatDoor
open Go.RowKit
set_option linter.unusedVariables false
set_option linter.unusedSimpArgs false

set_option maxRecDepth 100000 in
set_option maxHeartbeats 2000000 in
/-- rat.Whole of nothing below the line. -/
theorem Whole_zero (s t : Bool) (p q : Option Addr) (n nc m mc : Nat) (xs ys : List Int) (w : World) (hA : AI w p n nc xs) (hB : AI w q m mc ys) (hd : ival t ys = 0) :
    Calls Tryz.prog 30 #[.agg #[.bool s, .slice p n nc, .bool t, .slice q m mc]] w (WhPost 0 w) := by
  have hv0 : Hid (val ys = 0) := by
    show val ys = 0
    unfold ival at hd
    split at hd <;> omega
  clear hd
  go_enter Tryz.func30, Tryz.ntmps30
  go_wp2_with fail
  have hR : Bx ((w.alloc (.cells #[.bool s, .slice p n nc, .bool t, .slice q m mc] 26)).alloc (.cells #[.bool false, .slice none 0 0] 24)) (w.heap.size + 1) (.bool false) (.slice none 0 0) := Bx.new _ _ _ (by simp)
  have hW : Below w.heap.size w ((w.alloc (.cells #[.bool s, .slice p n nc, .bool t, .slice q m mc] 26)).alloc (.cells #[.bool false, .slice none 0 0] 24)) := ((Below.refl _ _).alloc (Nat.le_refl _) _).alloc (by simp) _
  generalize (w.alloc (.cells #[.bool s, .slice p n nc, .bool t, .slice q m mc] 26)).alloc (.cells #[.bool false, .slice none 0 0] 24) = W at *
  refine (Quo_zero s t p q n nc m mc xs ys _ (hA.below hW) (hB.below hW) hv0.out).mono ?_
  rintro e w6 ⟨rfl, hb6⟩
  have hal := bel_al (o := .cells #[.bool false, .slice none 0 0] 24) (bel_al (o := .cells #[.bool false, .slice none 0 0] 24) hb6)
  have hR8 := hR.later hal
  have hW8 := bnext' hW hal
  have hq8 : Bx ((w6.alloc (.cells #[.bool false, .slice none 0 0] 24)).alloc (.cells #[.bool false, .slice none 0 0] 24)) w6.heap.size (.bool false) (.slice none 0 0) := (Bx.new _ _ _ rfl).alloc _
  have sR : w.heap.size + 1 < W.heap.size := block_lt_of_cell hR.c0
  clear hal hR hb6
  go_wp2_with fail
  generalize (w6.alloc (.cells #[.bool false, .slice none 0 0] 24)).alloc (.cells #[.bool false, .slice none 0 0] 24) = W8 at *
  generalize w6.heap.size = g6 at *
  have hM8 := NI.nil W8.heap.size W8
  refine (Sign_any false none 0 0 [] _ (hM8.ai (by omega))).mono ?_
  rw [hM8.v, isgn_zero rfl]
  rintro e w9 ⟨rfl, hb9⟩
  obtain ⟨q0, q1, -, -⟩ := hq8.later hb9
  obtain ⟨r0, r1, f0, f1⟩ := hR8.later hb9
  have hW9 := bnext' hW8 hb9
  go_wp2
  refine bodyPost_ret (v := .tuple #[.agg #[.bool false, .slice none 0 0], .bool true]) (by simp [results, Tryz.results30, go_sem, r0, r1]) rfl ⟨false, none, 0, [], .inl ⟨rfl, rfl, NI.nil _ _⟩, ?_⟩
  exact bset2 hW9 (by omega) _ _
section
variable {w w' : World} {K L : Nat} {s t : Bool} {p q : Option Addr} {n nc m mc : Nat} {r : Rat}
theorem qWhole_q (h : AQ w K s p n nc t q m mc r) (hK : K < 80) :
    Calls Tryz.prog 30 #[.agg #[.bool s, .slice p n nc, .bool t, .slice q m mc]] w (WhPost r w) := by
  obtain ⟨xs, ys, h1, h2, h3, h4, rfl⟩ := h
  by_cases hd : ival t ys = 0
  · rw [hd, Rat.divInt_zero]
    exact Whole_zero s t p q n nc m mc xs ys w h1 h2 hd
  · exact Whole_any s t p q n nc m mc xs ys w h1 h2 (by omega) (by omega) hd
/-- The parts of a rational that is handed in, one by one. -/
theorem qOver_q (h : AQ w K s p n nc t q m mc r) (hK : 1 ≤ K) (hK' : K < 150) (c : Int) (hc : ∀ xs ys, AI w p n nc xs → AI w q m mc ys → Rat.divInt (ival s xs) (ival t ys) = r → (if ival t ys = 0 then (2 : Int) else 0) = c) :
    Calls Tryz.prog 26 #[.agg #[.bool s, .slice p n nc], .agg #[.bool t, .slice q m mc]] w (QcP r c K w) := by
  have hs := h.sz hK
  obtain ⟨xs, ys, h1, h2, h3, h4, rfl⟩ := h
  refine (Over_of s t p q n nc m mc xs ys w h1 h2 (by omega) (by omega) c (hc xs ys h1 h2 rfl)).mono ?_
  rintro e w' ⟨s, p, n, xs, t, q, m, ys, g1, g2, g3⟩
  exact ⟨s, p, n, t, q, m, g1, nr_nq g2 hs, g3⟩
theorem i64_sz {a b : Int} (ha : -9223372036854775808 ≤ a ∧ a ≤ 9223372036854775807) (hb : -9223372036854775808 ≤ b ∧ b ≤ 9223372036854775807) : Sz (Rat.divInt a b) 2 := by
  have e : pw 2 = 18446744073709551616 := by decide
  exact rat_bd (by omega) (by omega) (by decide)
theorem qOf_q (a b : Int) (w : World) (ha : -9223372036854775808 ≤ a ∧ a ≤ 9223372036854775807) (hb : -9223372036854775808 ≤ b ∧ b ≤ 9223372036854775807) (c : Int) (hc : (if b = 0 then (2 : Int) else 0) = c) :
    Calls Tryz.prog 25 #[.int .i64 a, .int .i64 b] w (QcP (Rat.divInt a b) c 2 w) := by
  refine (qOf_any a b w ha.1 ha.2 hb.1 hb.2 c hc).mono ?_
  rintro e w' ⟨s, p, n, xs, t, q, m, ys, g1, g2, g3⟩
  exact ⟨s, p, n, t, q, m, g1, nr_nq g2 (i64_sz ha hb), g3⟩
end
end Go.Proofs.YtongkalfdgleaaaGreatDoor
