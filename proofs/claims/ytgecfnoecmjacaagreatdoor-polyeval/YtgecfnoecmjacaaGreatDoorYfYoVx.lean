/-
  ashlarref2.Add.
-/
import Derived.Test.YtgecfnoecmjacaaGreatDoorYdYe
import Derived.Test.YtgecfnoecmjacaaGreatDoorRkUgUi
import Derived.Test.YtgecfnoecmjacaaGreatDoorRoUcVbVcCx
import Derived.Test.YtgecfnoecmjacaaGreatDoorZdZsHr
import Derived.Test.YtgecfnoecmjacaaGreatDoorRbCyVi
import Derived.Test.YtgecfnoecmjacaaGreatDoorRfRhCqRr
import Derived.Deep.DeepFit
namespace Go.Proofs.YtgecfnoecmjacaaGreatDoor
open Go.RowKit
set_option linter.unusedVariables false
set_option linter.unusedSimpArgs false

theorem rAdd_v {w : World} {N M : Nat} {x y : Int} {s t : Bool} {p q : Option Addr} {n m : Nat} (h : RV w N x s p n) (k : RV w M y t q m) (hN : N ≤ 1000) (hM : M ≤ 1000) :
    Calls Tryz.prog 59 #[.agg #[.bool s, .slice p n n], .agg #[.bool t, .slice q m m]] w (RVP (N + M + 1) (x + y) w) := by
  obtain ⟨ds, h1, rfl, h3⟩ := h
  obtain ⟨es, k1, rfl, k3⟩ := k
  refine (rAdd_rn h1 k1 (by omega) (by omega)).mono ?_
  rintro e w' ⟨s', p', n', ds', g1, g2, g3, g4, g5, g6⟩
  exact ⟨s', p', n', g1, ⟨ds', g2, g3, by omega⟩, g5, g6⟩
theorem keepAdd {w1 w2 : World} {a b c d e f g h i j k l : Addr} {u v x y z t r s o p m n : Value} (H : w1.cell? a = some u ∧ w1.cell? b = some v ∧ w1.cell? c = some x ∧ w1.cell? d = some y ∧ w1.cell? e = some z ∧ w1.cell? f = some t ∧ w1.cell? g = some r ∧ w1.cell? h = some s ∧ w1.cell? i = some o ∧ w1.cell? j = some p ∧ w1.cell? k = some m ∧ w1.cell? l = some n) (hb : Below w1.heap.size w1 w2) :
    w2.cell? a = some u ∧ w2.cell? b = some v ∧ w2.cell? c = some x ∧ w2.cell? d = some y ∧ w2.cell? e = some z ∧ w2.cell? f = some t ∧ w2.cell? g = some r ∧ w2.cell? h = some s ∧ w2.cell? i = some o ∧ w2.cell? j = some p ∧ w2.cell? k = some m ∧ w2.cell? l = some n := by
  obtain ⟨h0, h1, h2, h3, h4, h5, h6, h7, h8, h9, h10, h11⟩ := H
  exact ⟨cell_later hb h0, cell_later hb h1, cell_later hb h2, cell_later hb h3, cell_later hb h4, cell_later hb h5, cell_later hb h6, cell_later hb h7, cell_later hb h8, cell_later hb h9, cell_later hb h10, cell_later hb h11⟩
set_option maxRecDepth 100000 in
set_option maxHeartbeats 4000000 in
/-- ashlarref2.Add. -/
theorem rAdd_q {w : World} {Ka Kb : Nat} {sa ta sb tb : Bool} {pa qa pb qb : Option Addr} {na ma nb mb : Nat} {ra rb : Rat} (ha : MQ w Ka sa pa na ta qa ma ra) (hb : MQ w Kb sb pb nb tb qb mb rb) (hKa : 1 ≤ Ka) (hKb : 1 ≤ Kb) (hK : Ka + Kb ≤ 240) :
    Calls Tryz.prog 89 #[.agg #[.bool sa, .slice pa na na, .bool ta, .slice qa ma ma], .agg #[.bool sb, .slice pb nb nb, .bool tb, .slice qb mb mb]] w (MP (ra + rb) (Ka + Kb + 1) w) := by
  have hs : Hid (Sz (ra + rb) (Ka + Kb + 1)) := add_sz ha.sz hb.sz
  have hval : Hid (Rat.divInt (ra.num * rb.den + rb.num * ra.den) (ra.den * rb.den) = ra + rb) := add_mk ra rb
  go_enter Tryz.func89, Tryz.ntmps89
  go_wp2_with fail
  have hA0 : Bq ((((w).alloc (.cells #[.bool sa, .slice pa na na, .bool ta, .slice qa ma ma] 60)).alloc (.cells #[.bool sb, .slice pb nb nb, .bool tb, .slice qb mb mb] 60)).alloc (.cells #[.bool false, .slice none 0 0, .bool false, .slice none 0 0] 60)) w.heap.size (.bool sa) (.slice pa na na) (.bool ta) (.slice qa ma ma) := ((Bq.new _ _ _ _ _ rfl).alloc _).alloc _
  have hB0 : Bq ((((w).alloc (.cells #[.bool sa, .slice pa na na, .bool ta, .slice qa ma ma] 60)).alloc (.cells #[.bool sb, .slice pb nb nb, .bool tb, .slice qb mb mb] 60)).alloc (.cells #[.bool false, .slice none 0 0, .bool false, .slice none 0 0] 60)) (w.heap.size + 1) (.bool sb) (.slice pb nb nb) (.bool tb) (.slice qb mb mb) := (Bq.new _ _ _ _ _ (by simp)).alloc _
  have hR0 : Bq ((((w).alloc (.cells #[.bool sa, .slice pa na na, .bool ta, .slice qa ma ma] 60)).alloc (.cells #[.bool sb, .slice pb nb nb, .bool tb, .slice qb mb mb] 60)).alloc (.cells #[.bool false, .slice none 0 0, .bool false, .slice none 0 0] 60)) (w.heap.size + 1 + 1) (.bool false) (.slice none 0 0) (.bool false) (.slice none 0 0) := Bq.new _ _ _ _ _ (by simp)
  have hW : Below w.heap.size w ((((w).alloc (.cells #[.bool sa, .slice pa na na, .bool ta, .slice qa ma ma] 60)).alloc (.cells #[.bool sb, .slice pb nb nb, .bool tb, .slice qb mb mb] 60)).alloc (.cells #[.bool false, .slice none 0 0, .bool false, .slice none 0 0] 60)) := (((Below.refl _ _).alloc (Nat.le_refl _) _).alloc (by simp) _).alloc (by simp; omega) _
  generalize (((w).alloc (.cells #[.bool sa, .slice pa na na, .bool ta, .slice qa ma ma] 60)).alloc (.cells #[.bool sb, .slice pb nb nb, .bool tb, .slice qb mb mb] 60)).alloc (.cells #[.bool false, .slice none 0 0, .bool false, .slice none 0 0] 60) = W at *
  have hqa := ha.below hW
  have hqb := hb.below hW
  have nA : Hid (w.heap.size ≠ w.heap.size + 1 + 1) := (by omega : w.heap.size ≠ w.heap.size + 1 + 1)
  have nB : Hid (w.heap.size + 1 ≠ w.heap.size + 1 + 1) := (by omega : w.heap.size + 1 ≠ w.heap.size + 1 + 1)
  have a0 := hA0.c0
  have a1 := hA0.c1
  have a2 := hA0.c2
  have a3 := hA0.c3
  have b0 := hB0.c0
  have b1 := hB0.c1
  have b2 := hB0.c2
  have b3 := hB0.c3
  refine (rMul_v hqa.num hqb.den (by omega) (by omega)).mono ?_
  rintro e w1 ⟨s1, p1, n1, rfl, hr1, hF1, hb1⟩
  have hal := bel_al (o := .cells #[.bool s1, .slice p1 n1 n1] 35) hb1
  have hA1 := hA0.later hal
  have hB1 := hB0.later hal
  have hR1 := hR0.later hal
  have hW1 := bnext' hW hal
  have hqa1 := hqa.below hal
  have hqb1 := hqb.below hal
  have nX : Hid (w1.heap.size ≠ w.heap.size + 1 + 1) := (by have := hR0.lt; have := hb1.size; omega : w1.heap.size ≠ w.heap.size + 1 + 1)
  have hX1 : Bx (w1.alloc (.cells #[.bool s1, .slice p1 n1 n1] 35)) w1.heap.size (.bool s1) (.slice p1 n1 n1) := Bx.new _ _ _ rfl
  have hx1 := hr1.alloc (.cells #[.bool s1, .slice p1 n1 n1] 35)
  clear hal hA0 hB0 hR0 hW hqa hqb hr1 hb1 hF1 a0 a1 a2 a3 b0 b1 b2 b3
  have a2 := hA1.c2
  have a3 := hA1.c3
  have b0 := hB1.c0
  have b1 := hB1.c1
  go_wp2_with fail
  generalize w1.alloc (.cells #[.bool s1, .slice p1 n1 n1] 35) = W1 at *
  generalize w1.heap.size = gx at *
  refine (rMul_v hqb1.num hqa1.den (by omega) (by omega)).mono ?_
  rintro e w2 ⟨s2, p2, n2, rfl, hr2, hF2, hb2⟩
  have hal := bel_al (o := .cells #[.bool s2, .slice p2 n2 n2] 35) hb2
  have hA2 := hA1.later hal
  have hB2 := hB1.later hal
  have hR2 := hR1.later hal
  have hW2 := bnext' hW1 hal
  have hqa2 := hqa1.below hal
  have hqb2 := hqb1.below hal
  have hX2 := hX1.later hal
  have hx2 := hx1.below hal
  have nY : Hid (w2.heap.size ≠ w.heap.size + 1 + 1) := (by have := hR1.lt; have := hb2.size; omega : w2.heap.size ≠ w.heap.size + 1 + 1)
  have hY2 : Bx (w2.alloc (.cells #[.bool s2, .slice p2 n2 n2] 35)) w2.heap.size (.bool s2) (.slice p2 n2 n2) := Bx.new _ _ _ rfl
  have hy2 := hr2.alloc (.cells #[.bool s2, .slice p2 n2 n2] 35)
  clear hal hA1 hB1 hR1 hW1 hqa1 hqb1 hX1 hx1 hr2 hb2 hF2 a2 a3 b0 b1
  go_upto_region 2 with fail
  generalize w2.alloc (.cells #[.bool s2, .slice p2 n2 n2] 35) = W2 at *
  generalize w2.heap.size = gy at *
  have a0 := hA2.c0
  have a1 := hA2.c1
  have a2 := hA2.c2
  have a3 := hA2.c3
  have b0 := hB2.c0
  have b1 := hB2.c1
  have b2 := hB2.c2
  have b3 := hB2.c3
  have x0 := hX2.c0
  have x1 := hX2.c1
  have y0 := hY2.c0
  have y1 := hY2.c1
  go_region_held3 (fun w' => w'.cell? ⟨w.heap.size, 0, none⟩ = some (.bool sa) ∧ w'.cell? ⟨w.heap.size, 1, none⟩ = some (.slice pa na na) ∧ w'.cell? ⟨w.heap.size, 2, none⟩ = some (.bool ta) ∧ w'.cell? ⟨w.heap.size, 3, none⟩ = some (.slice qa ma ma) ∧ w'.cell? ⟨w.heap.size + 1, 0, none⟩ = some (.bool sb) ∧ w'.cell? ⟨w.heap.size + 1, 1, none⟩ = some (.slice pb nb nb) ∧ w'.cell? ⟨w.heap.size + 1, 2, none⟩ = some (.bool tb) ∧ w'.cell? ⟨w.heap.size + 1, 3, none⟩ = some (.slice qb mb mb) ∧ w'.cell? ⟨gx, 0, none⟩ = some (.bool s1) ∧ w'.cell? ⟨gx, 1, none⟩ = some (.slice p1 n1 n1) ∧ w'.cell? ⟨gy, 0, none⟩ = some (.bool s2) ∧ w'.cell? ⟨gy, 1, none⟩ = some (.slice p2 n2 n2)) (first | with_reducible exact ⟨a0, a1, a2, a3, b0, b1, b2, b3, x0, x1, y0, y1⟩ | with_reducible exact keepAdd ⟨a0, a1, a2, a3, b0, b1, b2, b3, x0, x1, y0, y1⟩ hV3 | with_reducible exact keepAdd ⟨a0, a1, a2, a3, b0, b1, b2, b3, x0, x1, y0, y1⟩ hV4 | with_reducible exact keepAdd ⟨a0, a1, a2, a3, b0, b1, b2, b3, x0, x1, y0, y1⟩ hV5 | with_reducible exact keep12s ⟨a0, a1, a2, a3, b0, b1, b2, b3, x0, x1, y0, y1⟩ hV5 nA nB nX nY | (simp [go_sem, *]; done))
    (first
      | (go_at_call 59; refine (rAdd_v hx2.drew hy2.drew (by omega) (by omega)).mono ?_; rintro e v3 ⟨s3, p3, n3, rfl, hr3, hF3, hv3⟩; have hV3 := undrew hv3)
      | (go_at_call 51; refine (rMul_v (hqa2.den.below hV3) (hqb2.den.below hV3) (by omega) (by omega)).mono ?_; rintro e v4 ⟨s4, p4, n4, rfl, hr4, hF4, hv4⟩; have hV4 := bnext' hV3 hv4)
      | (go_at_call 92; refine (Make_v (K := Ka + Kb + 1) (hr3.below hv4) hr4 (by omega) (by omega) (by rw [hval.out]; exact hs.out)).mono ?_; rintro e v5 ⟨s5, p5, n5, t5, q5, m5, rfl, hm, hF5, hF5', hv5⟩; have hV5 := bnext' hV4 hv5; rw [hval.out] at hm; obtain ⟨r0, r1, r2, r3, f0, f1, f2, f3⟩ := hR2.later hV5))
  clear a0 a1 a2 a3 b0 b1 b2 b3 x0 x1 y0 y1
  go_wp2
  refine bodyPost_ret (v := .agg #[.bool s5, .slice p5 n5 n5, .bool t5, .slice q5 m5 m5]) (by simp [results, Tryz.results89, go_sem, r0, r1, r2, r3]) rfl ?_
  have sV := hV4.size
  exact end_mp hW2 (by omega) hR2.lt hV5 hm (fun a ha => Nat.le_trans sV (hF5 a ha)) (fun a ha => Nat.le_trans sV (hF5' a ha))
end Go.Proofs.YtgecfnoecmjacaaGreatDoor
/-
  ashlarref2.Int, Of.
-/
namespace Go.Proofs.YtgecfnoecmjacaaGreatDoor
open Go.RowKit
set_option linter.unusedVariables false
set_option linter.unusedSimpArgs false

theorem rOf_v (z : Int) (w : World) (h0 : -9223372036854775808 ≤ z) (h1 : z ≤ 9223372036854775807) : Calls Tryz.prog 62 #[.int .i64 z] w (RVP 4 z w) := (rOf_any z w h0 h1).mono fun e w' h => RVP.of h
theorem keep2s {w1 w2 : World} {a g : Nat} {a0 a1 u v x y : Value} (k : w1.cell? ⟨a, 0, none⟩ = some a0 ∧ w1.cell? ⟨a, 1, none⟩ = some a1) (hb : Below w1.heap.size w1 w2) (na : Hid (a ≠ g)) :
    ((((w2.setCell ⟨g, 0, none⟩ u).setCell ⟨g, 1, none⟩ v).setCell ⟨g, 2, none⟩ x).setCell ⟨g, 3, none⟩ y).cell? ⟨a, 0, none⟩ = some a0 ∧ ((((w2.setCell ⟨g, 0, none⟩ u).setCell ⟨g, 1, none⟩ v).setCell ⟨g, 2, none⟩ x).setCell ⟨g, 3, none⟩ y).cell? ⟨a, 1, none⟩ = some a1 :=
  ⟨cell_s4 (cell_later hb k.1) na, cell_s4 (cell_later hb k.2) na⟩
/-- What Int answers: its first part is in memory that was there. -/
def IP (z : Int) (K : Nat) (s : Bool) (p : Option Addr) (n : Nat) (w : World) (e : Ending) (w' : World) : Prop :=
  ∃ t q m, e = .returned (.agg #[.bool s, .slice p n n, .bool t, .slice q m m]) ∧ MQ w' K s p n t q m (z : Rat) ∧ Go.Proofs.YtgecfnoecmjacaaGreatDoor.From w.heap.size q ∧ Below w.heap.size w w'
set_option maxRecDepth 100000 in
set_option maxHeartbeats 4000000 in
/-- ashlarref2.Int. -/
theorem rInt_q {w : World} {K : Nat} {z : Int} {s : Bool} {p : Option Addr} {n : Nat} (h : RV w (2 * K) z s p n) (hK : 2 ≤ K) :
    Calls Tryz.prog 91 #[.agg #[.bool s, .slice p n n]] w (IP z K s p n w) := by
  have o1 : Hid (0 < n → Off (w.heap.size + 1) p) := h.off (by omega)
  go_enter Tryz.func91, Tryz.ntmps91
  go_wp2_with fail
  have hA0 : Bx ((w.alloc (.cells #[.bool s, .slice p n n] 35)).alloc (.cells #[.bool false, .slice none 0 0, .bool false, .slice none 0 0] 60)) w.heap.size (.bool s) (.slice p n n) := (Bx.new _ _ _ rfl).alloc _
  have hR0 : Bq ((w.alloc (.cells #[.bool s, .slice p n n] 35)).alloc (.cells #[.bool false, .slice none 0 0, .bool false, .slice none 0 0] 60)) (w.heap.size + 1) (.bool false) (.slice none 0 0) (.bool false) (.slice none 0 0) := Bq.new _ _ _ _ _ (by simp)
  have hW : Below w.heap.size w ((w.alloc (.cells #[.bool s, .slice p n n] 35)).alloc (.cells #[.bool false, .slice none 0 0, .bool false, .slice none 0 0] 60)) := ((Below.refl _ _).alloc (Nat.le_refl _) _).alloc (by simp) _
  generalize (w.alloc (.cells #[.bool s, .slice p n n] 35)).alloc (.cells #[.bool false, .slice none 0 0, .bool false, .slice none 0 0] 60) = W at *
  have k := h.below hW
  have nA : Hid (w.heap.size ≠ w.heap.size + 1) := (by omega : w.heap.size ≠ w.heap.size + 1)
  have a0 := hA0.c0
  have a1 := hA0.c1
  go_region_held3 (fun w' => w'.cell? ⟨w.heap.size, 0, none⟩ = some (.bool s) ∧ w'.cell? ⟨w.heap.size, 1, none⟩ = some (.slice p n n)) (first | with_reducible exact ⟨a0, a1⟩ | with_reducible exact keepc2 ⟨a0, a1⟩ hV1 | with_reducible exact keep2s ⟨a0, a1⟩ hV1 nA | (simp [go_sem, *]; done))
    (first
      | (go_at_call 62; refine (rOf_v 1 _ (by decide) (by decide)).mono ?_; rintro e v1 ⟨s1, p1, n1, rfl, hr1, hF1, hv1⟩; have hV1 := undrew hv1; obtain ⟨r0, r1, r2, r3, f0, f1, f2, f3⟩ := hR0.later hV1))
  clear a0 a1
  go_wp2
  have sR := hR0.lt
  refine bodyPost_ret (v := .agg #[.bool s, .slice p n n, .bool s1, .slice p1 n1 n1]) (by simp [results, Tryz.results91, go_sem, r0, r1, r2, r3]) rfl ⟨s1, p1, n1, rfl, ⟨?_, ?_⟩, fun a ha => Nat.le_trans hW.size (hF1 a ha), ?_⟩
  · exact (k.below hV1).set4 o1.out _ _ _ _
  · exact (hr1.up (by omega)).set4 (fun _ => off_from hF1 sR) _ _ _ _
  · exact bset4 (bnext' hW hV1) (by omega) _ _ _ _
set_option maxRecDepth 100000 in
set_option maxHeartbeats 4000000 in
/-- ashlarref2.Of. -/
theorem rOf_q (z : Int) (w : World) (h0 : -9223372036854775808 ≤ z) (h1 : z ≤ 9223372036854775807) :
    Calls Tryz.prog 88 #[.int .i64 z] w (MP (z : Rat) 2 w) := by
  go_enter Tryz.func88, Tryz.ntmps88
  go_wp2_with fail
  have hR0 : Bq (w.alloc (.cells #[.bool false, .slice none 0 0, .bool false, .slice none 0 0] 60)) w.heap.size (.bool false) (.slice none 0 0) (.bool false) (.slice none 0 0) := Bq.new _ _ _ _ _ rfl
  have hW : Below w.heap.size w (w.alloc (.cells #[.bool false, .slice none 0 0, .bool false, .slice none 0 0] 60)) := (Below.refl _ _).alloc (Nat.le_refl _) _
  generalize w.alloc (.cells #[.bool false, .slice none 0 0, .bool false, .slice none 0 0] 60) = W at *
  refine (rOf_v z _ h0 h1).mono ?_
  rintro e w1 ⟨s1, p1, n1, rfl, hr1, hF1, hb1⟩
  go_wp2_with fail
  refine (rInt_q (K := 2) hr1 (by decide)).mono ?_
  rintro e w2 ⟨t2, q2, m2, rfl, hm2, hF2, hb2⟩
  have hV := bnext' hb1 hb2
  obtain ⟨r0, r1, r2, r3, f0, f1, f2, f3⟩ := hR0.later hV
  have s1' := hb1.size
  go_wp2
  refine bodyPost_ret (v := .agg #[.bool s1, .slice p1 n1 n1, .bool t2, .slice q2 m2 m2]) (by simp [results, Tryz.results88, go_sem, r0, r1, r2, r3]) rfl ?_
  exact end_mp hW (by omega) hR0.lt hV hm2 hF1 (fun a ha => Nat.le_trans s1' (hF2 a ha))
end Go.Proofs.YtgecfnoecmjacaaGreatDoor
/-
  ashlarref3.EvalRat.
-/
namespace Go.Proofs.YtgecfnoecmjacaaGreatDoor
open Go.RowKit
set_option linter.unusedVariables false
set_option linter.unusedSimpArgs false

theorem MQ.st4 {w : World} {K : Nat} {s t : Bool} {p q : Option Addr} {n m : Nat} {r : Rat} {g : Nat} (h : MQ w K s p n t q m r) (hp : 0 < n → Off g p) (hq : 0 < m → Off g q) (a b c d : Value) : MQ ((((w.setCell ⟨g, 0, none⟩ a).setCell ⟨g, 1, none⟩ b).setCell ⟨g, 2, none⟩ c).setCell ⟨g, 3, none⟩ d) K s p n t q m r := ⟨h.num.set4 hp _ _ _ _, h.den.set4 hq _ _ _ _⟩
theorem MQ.up {w : World} {K L : Nat} {s t : Bool} {p q : Option Addr} {n m : Nat} {r : Rat} (h : MQ w K s p n t q m r) (k : K ≤ L) : MQ w L s p n t q m r := ⟨h.num.up (by omega), h.den.up (by omega)⟩
/-- A reference rational as two entries. -/
def MR (w : World) (K : Nat) (r : Rat) (u v : Ent) : Prop := MQ w K u.s u.p u.n v.s v.p v.n r ∧ u.c = u.n ∧ v.c = v.n
theorem MR.below {w w' : World} {K : Nat} {r : Rat} {u v : Ent} (h : MR w K r u v) (hb : Below w.heap.size w w') : MR w' K r u v := ⟨h.1.below hb, h.2⟩
theorem rMul_m {w : World} {Ka Kb : Nat} {ra rb : Rat} {e f g h : Ent} (ha : MR w Ka ra e f) (hb : MR w Kb rb g h) (hKa : 1 ≤ Ka) (hKb : 1 ≤ Kb) (hK : Ka + Kb ≤ 240) :
    Calls Tryz.prog 90 #[.agg #[.bool e.s, .slice e.p e.n e.c, .bool f.s, .slice f.p f.n f.c], .agg #[.bool g.s, .slice g.p g.n g.c, .bool h.s, .slice h.p h.n h.c]] w fun r w' => ∃ u v : Ent, r = .returned (.agg #[.bool u.s, .slice u.p u.n u.c, .bool v.s, .slice v.p v.n v.c]) ∧ MR w' (Ka + Kb) (ra * rb) u v ∧ Go.Proofs.YtgecfnoecmjacaaGreatDoor.From w.heap.size u.p ∧ Go.Proofs.YtgecfnoecmjacaaGreatDoor.From w.heap.size v.p ∧ Below w.heap.size w w' := by
  obtain ⟨a1, a2, a3⟩ := ha
  obtain ⟨b1, b2, b3⟩ := hb
  rw [a2, a3, b2, b3]
  refine (rMul_q a1 b1 hKa hKb hK).mono ?_
  rintro r w1 ⟨s, p, n, t, q, m, rfl, h1, h2, h3, h4⟩
  exact ⟨⟨s, p, n, n⟩, ⟨t, q, m, m⟩, rfl, ⟨h1, rfl, rfl⟩, h2, h3, h4⟩
theorem rAdd_m {w : World} {Ka Kb : Nat} {ra rb : Rat} {e f g h : Ent} (ha : MR w Ka ra e f) (hb : MR w Kb rb g h) (hKa : 1 ≤ Ka) (hKb : 1 ≤ Kb) (hK : Ka + Kb ≤ 240) :
    Calls Tryz.prog 89 #[.agg #[.bool e.s, .slice e.p e.n e.c, .bool f.s, .slice f.p f.n f.c], .agg #[.bool g.s, .slice g.p g.n g.c, .bool h.s, .slice h.p h.n h.c]] w fun r w' => ∃ u v : Ent, r = .returned (.agg #[.bool u.s, .slice u.p u.n u.c, .bool v.s, .slice v.p v.n v.c]) ∧ MR w' (Ka + Kb + 1) (ra + rb) u v ∧ Go.Proofs.YtgecfnoecmjacaaGreatDoor.From w.heap.size u.p ∧ Go.Proofs.YtgecfnoecmjacaaGreatDoor.From w.heap.size v.p ∧ Below w.heap.size w w' := by
  obtain ⟨a1, a2, a3⟩ := ha
  obtain ⟨b1, b2, b3⟩ := hb
  rw [a2, a3, b2, b3]
  refine (rAdd_q a1 b1 hKa hKb hK).mono ?_
  rintro r w1 ⟨s, p, n, t, q, m, rfl, h1, h2, h3, h4⟩
  exact ⟨⟨s, p, n, n⟩, ⟨t, q, m, m⟩, rfl, ⟨h1, rfl, rfl⟩, h2, h3, h4⟩
theorem rInt_m {w : World} {K : Nat} {z : Int} {e : Ent} (h : RE w (2 * K) z e) (hK : 2 ≤ K) :
    Calls Tryz.prog 91 #[.agg #[.bool e.s, .slice e.p e.n e.c]] w fun r w' => ∃ u v : Ent, r = .returned (.agg #[.bool u.s, .slice u.p u.n u.c, .bool v.s, .slice v.p v.n v.c]) ∧ MR w' K (z : Rat) u v ∧ Below w.heap.size w w' := by
  obtain ⟨h1, h2⟩ := h
  rw [h2]
  refine (rInt_q h1 hK).mono ?_
  rintro r w1 ⟨t, q, m, rfl, h3, h4, h5⟩
  exact ⟨⟨e.s, e.p, e.n, e.n⟩, ⟨t, q, m, m⟩, rfl, ⟨h3, rfl, rfl⟩, h5⟩
/-- EvalRat's variable behind some rounds. -/
structure EV3 (w wr : World) (g T : Nat) (z : Rat) (u v e f : Ent) : Prop where
  b : Bq wr g (.bool u.s) (.slice u.p u.n u.c) (.bool v.s) (.slice v.p v.n v.c)
  r : MR wr T z u v
  ou : 0 < u.n → Off (w.heap.size + 1) u.p
  ov : 0 < v.n → Off (w.heap.size + 1) v.p
  rb : Bq wr (w.heap.size + 1) (.bool false) (.slice none 0 0) (.bool false) (.slice none 0 0)
  xb : Bq wr w.heap.size (.bool e.s) (.slice e.p e.n e.c) (.bool f.s) (.slice f.p f.n f.c)
  bw : Below w.heap.size w wr
  lt : w.heap.size + 1 < g
set_option maxHeartbeats 4000000 in
set_option maxRecDepth 100000 in
/-- ashlarref3.EvalRat. -/
theorem rpEvalRat_any {w : World} {K L : Nat} {p : Option Addr} {n nc : Nat} {es : List Ent} {zs : List Int} {x : Rat} {e f : Ent} (h : PR w (2 * K) p n nc es zs) (hf : MR w L x e f) (hn : n ≤ 1000) (hK2 : 2 ≤ K) (hL1 : 1 ≤ L) (hK : 2 + n * (L + K + 1) ≤ 120) :
    Calls Tryz.prog 41 #[.slice p n nc, .agg #[.bool e.s, .slice e.p e.n e.c, .bool f.s, .slice f.p f.n f.c]] w fun r w' => ∃ u v : Ent, r = .returned (.agg #[.bool u.s, .slice u.p u.n u.c, .bool v.s, .slice v.p v.n v.c]) ∧ MR w' (2 + n * (L + K + 1)) (evq x zs) u v ∧ Below w.heap.size w w' := by
  have HX : Hid (PR w (2 * K) p n nc es zs ∧ MR w L x e f) := ⟨h, hf⟩
  have hel := h.el
  have hzl := h.zl
  have HK : Hid (2 + n * (L + K + 1) ≤ 120) := hK
  clear h hf hK
  go_enter Tryz.func41, Tryz.ntmps41
  go_wp2_with fail
  have hal0 := bel_al (o := .cells #[.bool false, .slice none 0 0, .bool false, .slice none 0 0] 60) (bel_al (o := .cells #[.bool e.s, .slice e.p e.n e.c, .bool f.s, .slice f.p f.n f.c] 60) (Below.refl w.heap.size w))
  have hr0 : Bq ((w.alloc (.cells #[.bool e.s, .slice e.p e.n e.c, .bool f.s, .slice f.p f.n f.c] 60)).alloc (.cells #[.bool false, .slice none 0 0, .bool false, .slice none 0 0] 60)) (w.heap.size + 1) (.bool false) (.slice none 0 0) (.bool false) (.slice none 0 0) := Bq.new _ _ _ _ _ (by simp)
  have hx0 : Bq ((w.alloc (.cells #[.bool e.s, .slice e.p e.n e.c, .bool f.s, .slice f.p f.n f.c] 60)).alloc (.cells #[.bool false, .slice none 0 0, .bool false, .slice none 0 0] 60)) w.heap.size (.bool e.s) (.slice e.p e.n e.c) (.bool f.s) (.slice f.p f.n f.c) := (Bq.new _ _ _ _ _ rfl).later (bel_al (Below.refl _ _))
  generalize (w.alloc (.cells #[.bool e.s, .slice e.p e.n e.c, .bool f.s, .slice f.p f.n f.c] 60)).alloc (.cells #[.bool false, .slice none 0 0, .bool false, .slice none 0 0] 60) = W0 at *
  refine (rOf_q 0 W0 (by decide) (by decide)).mono ?_
  rintro r w1 ⟨s1, p1, n1, t1, q1, m1, rfl, hR1, hF1, hG1, hb1⟩
  have hal := bel_al (o := .cells #[.bool s1, .slice p1 n1 n1, .bool t1, .slice q1 m1 m1] 60) (Below.refl w1.heap.size w1)
  have hB1 : Bq (w1.alloc (.cells #[.bool s1, .slice p1 n1 n1, .bool t1, .slice q1 m1 m1] 60)) w1.heap.size (.bool s1) (.slice p1 n1 n1) (.bool t1) (.slice q1 m1 m1) := Bq.new _ _ _ _ _ rfl
  have hw0 : w.heap.size + 1 < W0.heap.size := block_lt_of_cell hr0.c0
  have hlt : w.heap.size + 1 < w1.heap.size := Nat.lt_of_lt_of_le hw0 hb1.size
  have HC : Hid (EV3 w (w1.alloc (.cells #[.bool s1, .slice p1 n1 n1, .bool t1, .slice q1 m1 m1] 60)) w1.heap.size (2 + (n - n) * (L + K + 1)) (evq x (zs.drop n)) ⟨s1, p1, n1, n1⟩ ⟨t1, q1, m1, m1⟩ e f) := by
    rw [List.drop_eq_nil_of_le (by omega), Nat.sub_self, Nat.zero_mul]
    exact ⟨hB1, ⟨hR1.below hal, rfl, rfl⟩, fun h0 a ha e => by have := hF1 a ha; omega, fun h0 a ha e => by have := hG1 a ha; omega, (hr0.later hb1).later hal, (hx0.later hb1).later hal, bnext' (bnext' hal0 hb1) hal, hlt⟩
  clear hr0 hal0 hR1 hF1 hb1 hal hB1 hw0 hx0 hG1
  go_wp2_with fail
  generalize w1.alloc (.cells #[.bool s1, .slice p1 n1 n1, .bool t1, .slice q1 m1 m1] 60) = W1 at *
  generalize w1.heap.size = g at *
  go_loopw [6] (fun iv wr => ∃ (k : Nat) (u v : Ent), k ≤ n ∧ iv = .int .i64 ((k : Int) - 1) ∧ Hid (EV3 w wr g (2 + (n - k) * (L + K + 1)) (evq x (zs.drop k)) u v e f)) (fun iv _ => (intOf iv + 1).toNat)
  case atStart => exact ⟨n, ⟨s1, p1, n1, n1⟩, ⟨t1, q1, m1, m1⟩, Nat.le_refl _, by go_num, HC.out⟩
  case round =>
    clear HC
    obtain ⟨k, u, v, hk, rfl, H⟩ := hrel
    have hcs : Hid (k = 0 ∨ ∃ j, k = j + 1) := by cases k with | zero => exact .inl rfl | succ j => exact .inr ⟨j, rfl⟩
    rcases hcs.out with rfl | ⟨j, rfl⟩
    · have hV := H.out
      rw [List.drop_zero, Nat.sub_zero] at hV
      obtain ⟨q0, q1', q2, q3, -, -, -, -⟩ := id hV.b
      obtain ⟨r0, r1, r2, r3, f0, f1, f2, f3⟩ := id hV.rb
      have HV : Hid (EV3 w wr g (2 + n * (L + K + 1)) (evq x zs) u v e f) := hV
      clear H hV hcs
      go_wp2
      refine bodyPost_ret (v := .agg #[.bool u.s, .slice u.p u.n u.c, .bool v.s, .slice v.p v.n v.c]) (by simp [results, Tryz.results41, go_sem, r0, r1, r2, r3]) rfl ⟨u, v, rfl, ?_, ?_⟩
      · exact ⟨HV.out.r.1.st4 HV.out.ou HV.out.ov _ _ _ _, HV.out.r.2⟩
      · exact bset4 HV.out.bw (by omega) _ _ _ _
    · have hV := H.out
      have hP := HX.out.1.below hV.bw
      obtain ⟨c, o, hp, hc⟩ := hP.pl (by omega)
      subst hp
      obtain ⟨c0, c1⟩ := hc j (by omega)
      have he := hP.ev j (by omega)
      have hxe := HX.out.2.below hV.bw
      obtain ⟨q0, q1', q2, q3, -, -, -, -⟩ := id hV.b
      obtain ⟨x0, x1, x2, x3, -, -, -, -⟩ := id hV.xb
      have i0 : ((j + 1 : Nat) : Int) - 1 = (j : Int) := by omega
      have i1 : (j : Int) < (n : Int) := by omega
      have i2 : (0 : Int) ≤ (j : Int) := by omega
      have HA : Hid (2 + (n - (j + 1)) * (L + K + 1) + L + K + 1 = 2 + (n - j) * (L + K + 1) ∧ 2 + (n - j) * (L + K + 1) ≤ 120 ∧ 1 ≤ 2 + (n - (j + 1)) * (L + K + 1)) := by
        have e1 : n - j = n - (j + 1) + 1 := by omega
        have e2 := Nat.mul_le_mul_right (L + K + 1) (show n - j ≤ n by omega)
        refine ⟨?_, by have := HK.out; omega, by omega⟩
        rw [e1, Nat.succ_mul]
        omega
      have HV : Hid (EV3 w wr g (2 + (n - (j + 1)) * (L + K + 1)) (evq x (zs.drop (j + 1))) u v e f) := hV
      generalize 2 + (n - (j + 1)) * (L + K + 1) = A at *
      have hltg : g < wr.heap.size := block_lt_of_cell q0
      have hwg := hV.lt
      rw [i0]
      clear hV hP hc hcs H
      go_upto_region 5 with fail
      go_region_with (first
        | (go_at_call 90; go_fit (rMul_m (HV.out.r.below (Below.refl _ _).drew) (hxe.below (Below.refl _ _).drew) HA.out.2.2 hL1 (by have := HA.out; omega)); rintro r v1 ⟨u1, y1, rfl, hN1, hF1, hG1, hb1⟩; have hB1 := undrew hb1; have d0 := cell_later hB1 c0; have d1 := cell_later hB1 c1)
        | (go_at_call 91; go_fit (rInt_m (he.below hB1) hK2); rintro r v2 ⟨u2, y2, rfl, hN2, hb2⟩; have hB2 := bnext' hB1 hb2; have hN1b := hN1.below hb2)
        | (go_at_call 89; go_fit (rAdd_m hN1b hN2 (by omega) (by omega) (by have := HA.out; omega)); rintro r v3 ⟨u3, y3, rfl, hN3, hF3, hG3, hb3⟩; have hB3 := bnext' hB2 hb3; obtain ⟨z0, z1, z2, z3, f0, f1, f2, f3⟩ := HV.out.b.later hB3))
      all_goals
        have hnx : EV3 w ((((v3.setCell ⟨g, 0, none⟩ (.bool u3.s)).setCell ⟨g, 1, none⟩ (.slice u3.p u3.n u3.c)).setCell ⟨g, 2, none⟩ (.bool y3.s)).setCell ⟨g, 3, none⟩ (.slice y3.p y3.n y3.c)) g (2 + (n - j) * (L + K + 1)) (evq x (zs.drop j)) u3 y3 e f := by
          rw [← evq_drop x zs j (by omega)] at hN3
          have hs := hB2.size
          have fu : ∀ y, y < wr.heap.size → Off y u3.p := fun y hy a ha e => by have h9 := hF3 a ha; omega
          have fv : ∀ y, y < wr.heap.size → Off y y3.p := fun y hy a ha e => by have h9 := hG3 a ha; omega
          exact ⟨Bq_set (HV.out.b.later hB3), ⟨(hN3.1.up (by have := HA.out; omega)).st4 (fun _ => fu _ hltg) (fun _ => fv _ hltg) _ _ _ _, hN3.2⟩, fun _ => fu _ (by omega), fun _ => fv _ (by omega), Bq_oth (HV.out.rb.later hB3) (by omega), Bq_oth (HV.out.xb.later hB3) (by omega), bset4 (bnext' HV.out.bw hB3) (by omega) _ _ _ _, hwg⟩
        have HN := (show Hid _ from hnx)
        clear hnx hN1 hN2 hN3 c0 c1 q0 q1' q2 q3 z0 z1 z2 z3 f0 f1 f2 f3 HV d0 d1 he hxe x0 x1 x2 x3
        go_wp2
        refine ⟨⟨j, u3, y3, by omega, by go_num, HN.out⟩, by simp [intOf]⟩
end Go.Proofs.YtgecfnoecmjacaaGreatDoor
