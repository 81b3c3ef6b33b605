/-
  ashlarref2.Mul, Quo.
-/
import Derived.Test.YtongkalfdgleaaaGreatDoorYd
import Derived.Test.YtongkalfdgleaaaGreatDoorRjRk
namespace Go.Proofs.YtongkalfdgleaaaGreatDoor
open Go.RowKit
set_option linter.unusedVariables false
set_option linter.unusedSimpArgs false

theorem mul_mk (a b : Rat) : Rat.divInt (a.num * b.num) (a.den * b.den) = a * b := by
  have := Rat.divInt_mul_divInt a.num b.num (d₁ := a.den) (d₂ := b.den)
  rw [← this, Rat.num_divInt_den, Rat.num_divInt_den]
theorem quo_mk (a b : Rat) : Rat.divInt (a.num * b.den) (a.den * b.num) = a / b := by
  rcases Classical.em (b = 0) with h | h
  · subst h
    rw [Rat.div_def, Rat.inv_zero, Rat.mul_zero]
    simp
  · have := Rat.divInt_mul_divInt a.num (b.den : Int) (d₁ := a.den) (d₂ := b.num)
    rw [← this, Rat.num_divInt_den, Rat.div_def]
    congr 1
    rw [← Rat.inv_divInt, Rat.num_divInt_den]
theorem add_mk (a b : Rat) : Rat.divInt (a.num * b.den + b.num * a.den) (a.den * b.den) = a + b := by
  have := Rat.divInt_add_divInt a.num b.num (d₁ := a.den) (d₂ := b.den) (by have := a.den_nz; omega) (by have := b.den_nz; omega)
  rw [← this, Rat.num_divInt_den, Rat.num_divInt_den]
set_option maxRecDepth 100000 in
set_option maxHeartbeats 4000000 in
/-- ashlarref2.Mul. -/
theorem rMul_q {w : World} {Ka Kb : Nat} {sa ta sb tb : Bool} {pa qa pb qb : Option Addr} {na ma nb mb : Nat} {ra rb : Rat} (ha : MQ w Ka sa pa na ta qa ma ra) (hb : MQ w Kb sb pb nb tb qb mb rb) (hKa : 1 ≤ Ka) (hKb : 1 ≤ Kb) (hK : Ka + Kb ≤ 240) :
    Calls Tryz.prog 15 #[.agg #[.bool sa, .slice pa na na, .bool ta, .slice qa ma ma], .agg #[.bool sb, .slice pb nb nb, .bool tb, .slice qb mb mb]] w (MP (ra * rb) (Ka + Kb) w) := by
  have hs : Hid (Sz (ra * rb) (Ka + Kb)) := mul_sz ha.sz hb.sz hKa
  have hval : Hid (Rat.divInt (ra.num * rb.num) (ra.den * rb.den) = ra * rb) := mul_mk ra rb
  have la := ha.num.le
  go_enter Tryz.func15, Tryz.ntmps15
  go_wp2_with fail
  have hA0 : Bq ((((w).alloc (.cells #[.bool sa, .slice pa na na, .bool ta, .slice qa ma ma] 33)).alloc (.cells #[.bool sb, .slice pb nb nb, .bool tb, .slice qb mb mb] 33)).alloc (.cells #[.bool false, .slice none 0 0, .bool false, .slice none 0 0] 33)) w.heap.size (.bool sa) (.slice pa na na) (.bool ta) (.slice qa ma ma) := ((Bq.new _ _ _ _ _ rfl).alloc _).alloc _
  have hB0 : Bq ((((w).alloc (.cells #[.bool sa, .slice pa na na, .bool ta, .slice qa ma ma] 33)).alloc (.cells #[.bool sb, .slice pb nb nb, .bool tb, .slice qb mb mb] 33)).alloc (.cells #[.bool false, .slice none 0 0, .bool false, .slice none 0 0] 33)) (w.heap.size + 1) (.bool sb) (.slice pb nb nb) (.bool tb) (.slice qb mb mb) := (Bq.new _ _ _ _ _ (by simp)).alloc _
  have hR0 : Bq ((((w).alloc (.cells #[.bool sa, .slice pa na na, .bool ta, .slice qa ma ma] 33)).alloc (.cells #[.bool sb, .slice pb nb nb, .bool tb, .slice qb mb mb] 33)).alloc (.cells #[.bool false, .slice none 0 0, .bool false, .slice none 0 0] 33)) (w.heap.size + 1 + 1) (.bool false) (.slice none 0 0) (.bool false) (.slice none 0 0) := Bq.new _ _ _ _ _ (by simp)
  have hW : Below w.heap.size w ((((w).alloc (.cells #[.bool sa, .slice pa na na, .bool ta, .slice qa ma ma] 33)).alloc (.cells #[.bool sb, .slice pb nb nb, .bool tb, .slice qb mb mb] 33)).alloc (.cells #[.bool false, .slice none 0 0, .bool false, .slice none 0 0] 33)) := (((Below.refl _ _).alloc (Nat.le_refl _) _).alloc (by simp) _).alloc (by simp; omega) _
  generalize (((w).alloc (.cells #[.bool sa, .slice pa na na, .bool ta, .slice qa ma ma] 33)).alloc (.cells #[.bool sb, .slice pb nb nb, .bool tb, .slice qb mb mb] 33)).alloc (.cells #[.bool false, .slice none 0 0, .bool false, .slice none 0 0] 33) = W at *
  have hqa := ha.below hW
  have hqb := hb.below hW
  have nA : Hid (w.heap.size ≠ w.heap.size + 1 + 1) := (by omega : w.heap.size ≠ w.heap.size + 1 + 1)
  have nB : Hid (w.heap.size + 1 ≠ w.heap.size + 1 + 1) := (by omega : w.heap.size + 1 ≠ w.heap.size + 1 + 1)
  have a0 := hA0.c0
  have a1 := hA0.c1
  have a2 := hA0.c2
  have a3 := hA0.c3
  have b0 := hB0.c0
  have b1 := hB0.c1
  have b2 := hB0.c2
  have b3 := hB0.c3
  go_region_held3 (fun w' => w'.cell? ⟨w.heap.size, 0, none⟩ = some (.bool sa) ∧ w'.cell? ⟨w.heap.size, 1, none⟩ = some (.slice pa na na) ∧ w'.cell? ⟨w.heap.size, 2, none⟩ = some (.bool ta) ∧ w'.cell? ⟨w.heap.size, 3, none⟩ = some (.slice qa ma ma) ∧ w'.cell? ⟨w.heap.size + 1, 0, none⟩ = some (.bool sb) ∧ w'.cell? ⟨w.heap.size + 1, 1, none⟩ = some (.slice pb nb nb) ∧ w'.cell? ⟨w.heap.size + 1, 2, none⟩ = some (.bool tb) ∧ w'.cell? ⟨w.heap.size + 1, 3, none⟩ = some (.slice qb mb mb)) (first | with_reducible exact ⟨a0, a1, a2, a3, b0, b1, b2, b3⟩ | with_reducible exact keepq ⟨a0, a1, a2, a3, b0, b1, b2, b3⟩ hV1 | with_reducible exact keepq ⟨a0, a1, a2, a3, b0, b1, b2, b3⟩ hV2 | with_reducible exact keepq ⟨a0, a1, a2, a3, b0, b1, b2, b3⟩ hV3 | with_reducible exact keep8s ⟨a0, a1, a2, a3, b0, b1, b2, b3⟩ hV3 nA nB | (simp [go_sem, *]; done))
    (first
      | (go_at_call_of 41 (Value.agg #[.bool sa, .slice pa na na]); go_at_call_of 41 (Value.agg #[.bool sb, .slice pb nb nb]); refine (rMul_v hqa.num.drew hqb.num.drew (by omega) (by omega)).mono ?_; rintro e v1 ⟨s1, p1, n1, rfl, hr1, hF1, hv1⟩; have hV1 := undrew hv1)
      | (go_at_call_of 41 (Value.agg #[.bool ta, .slice qa ma ma]); go_at_call_of 41 (Value.agg #[.bool tb, .slice qb mb mb]); refine (rMul_v (hqa.den.below hV1) (hqb.den.below hV1) (by omega) (by omega)).mono ?_; rintro e v2 ⟨s2, p2, n2, rfl, hr2, hF2, hv2⟩; have hV2 := bnext' hV1 hv2)
      | (go_at_call 27; refine (Make_v (K := Ka + Kb) (hr1.below hv2) hr2 (by omega) (by omega) (by rw [hval.out]; exact hs.out)).mono ?_; rintro e v3 ⟨s3, p3, n3, t3, q3, m3, rfl, hm, hF3, hF3', hv3⟩; have hV3 := bnext' hV2 hv3; rw [hval.out] at hm; obtain ⟨r0, r1, r2, r3, f0, f1, f2, f3⟩ := hR0.later hV3))
  clear a0 a1 a2 a3 b0 b1 b2 b3
  go_wp2
  refine bodyPost_ret (v := .agg #[.bool s3, .slice p3 n3 n3, .bool t3, .slice q3 m3 m3]) (by simp [results, Tryz.results15, go_sem, r0, r1, r2, r3]) rfl ?_
  have sV := hV2.size
  exact end_mp hW (by omega) hR0.lt hV3 hm (fun a ha => Nat.le_trans sV (hF3 a ha)) (fun a ha => Nat.le_trans sV (hF3' a ha))
set_option maxRecDepth 100000 in
set_option maxHeartbeats 4000000 in
/-- ashlarref2.Quo. -/
theorem rQuo_q {w : World} {Ka Kb : Nat} {sa ta sb tb : Bool} {pa qa pb qb : Option Addr} {na ma nb mb : Nat} {ra rb : Rat} (ha : MQ w Ka sa pa na ta qa ma ra) (hb : MQ w Kb sb pb nb tb qb mb rb) (hKa : 1 ≤ Ka) (hKb : 1 ≤ Kb) (hK : Ka + Kb ≤ 240) :
    Calls Tryz.prog 24 #[.agg #[.bool sa, .slice pa na na, .bool ta, .slice qa ma ma], .agg #[.bool sb, .slice pb nb nb, .bool tb, .slice qb mb mb]] w (MP (ra / rb) (Ka + Kb) w) := by
  have hs : Hid (Sz (ra / rb) (Ka + Kb)) := quo_sz ha.sz hb.sz hKa
  have hval : Hid (Rat.divInt (ra.num * rb.den) (ra.den * rb.num) = ra / rb) := quo_mk ra rb
  have la := ha.num.le
  go_enter Tryz.func24, Tryz.ntmps24
  go_wp2_with fail
  have hA0 : Bq ((((w).alloc (.cells #[.bool sa, .slice pa na na, .bool ta, .slice qa ma ma] 33)).alloc (.cells #[.bool sb, .slice pb nb nb, .bool tb, .slice qb mb mb] 33)).alloc (.cells #[.bool false, .slice none 0 0, .bool false, .slice none 0 0] 33)) w.heap.size (.bool sa) (.slice pa na na) (.bool ta) (.slice qa ma ma) := ((Bq.new _ _ _ _ _ rfl).alloc _).alloc _
  have hB0 : Bq ((((w).alloc (.cells #[.bool sa, .slice pa na na, .bool ta, .slice qa ma ma] 33)).alloc (.cells #[.bool sb, .slice pb nb nb, .bool tb, .slice qb mb mb] 33)).alloc (.cells #[.bool false, .slice none 0 0, .bool false, .slice none 0 0] 33)) (w.heap.size + 1) (.bool sb) (.slice pb nb nb) (.bool tb) (.slice qb mb mb) := (Bq.new _ _ _ _ _ (by simp)).alloc _
  have hR0 : Bq ((((w).alloc (.cells #[.bool sa, .slice pa na na, .bool ta, .slice qa ma ma] 33)).alloc (.cells #[.bool sb, .slice pb nb nb, .bool tb, .slice qb mb mb] 33)).alloc (.cells #[.bool false, .slice none 0 0, .bool false, .slice none 0 0] 33)) (w.heap.size + 1 + 1) (.bool false) (.slice none 0 0) (.bool false) (.slice none 0 0) := Bq.new _ _ _ _ _ (by simp)
  have hW : Below w.heap.size w ((((w).alloc (.cells #[.bool sa, .slice pa na na, .bool ta, .slice qa ma ma] 33)).alloc (.cells #[.bool sb, .slice pb nb nb, .bool tb, .slice qb mb mb] 33)).alloc (.cells #[.bool false, .slice none 0 0, .bool false, .slice none 0 0] 33)) := (((Below.refl _ _).alloc (Nat.le_refl _) _).alloc (by simp) _).alloc (by simp; omega) _
  generalize (((w).alloc (.cells #[.bool sa, .slice pa na na, .bool ta, .slice qa ma ma] 33)).alloc (.cells #[.bool sb, .slice pb nb nb, .bool tb, .slice qb mb mb] 33)).alloc (.cells #[.bool false, .slice none 0 0, .bool false, .slice none 0 0] 33) = W at *
  have hqa := ha.below hW
  have hqb := hb.below hW
  have nA : Hid (w.heap.size ≠ w.heap.size + 1 + 1) := (by omega : w.heap.size ≠ w.heap.size + 1 + 1)
  have nB : Hid (w.heap.size + 1 ≠ w.heap.size + 1 + 1) := (by omega : w.heap.size + 1 ≠ w.heap.size + 1 + 1)
  have a0 := hA0.c0
  have a1 := hA0.c1
  have a2 := hA0.c2
  have a3 := hA0.c3
  have b0 := hB0.c0
  have b1 := hB0.c1
  have b2 := hB0.c2
  have b3 := hB0.c3
  go_region_held3 (fun w' => w'.cell? ⟨w.heap.size, 0, none⟩ = some (.bool sa) ∧ w'.cell? ⟨w.heap.size, 1, none⟩ = some (.slice pa na na) ∧ w'.cell? ⟨w.heap.size, 2, none⟩ = some (.bool ta) ∧ w'.cell? ⟨w.heap.size, 3, none⟩ = some (.slice qa ma ma) ∧ w'.cell? ⟨w.heap.size + 1, 0, none⟩ = some (.bool sb) ∧ w'.cell? ⟨w.heap.size + 1, 1, none⟩ = some (.slice pb nb nb) ∧ w'.cell? ⟨w.heap.size + 1, 2, none⟩ = some (.bool tb) ∧ w'.cell? ⟨w.heap.size + 1, 3, none⟩ = some (.slice qb mb mb)) (first | with_reducible exact ⟨a0, a1, a2, a3, b0, b1, b2, b3⟩ | with_reducible exact keepq ⟨a0, a1, a2, a3, b0, b1, b2, b3⟩ hV1 | with_reducible exact keepq ⟨a0, a1, a2, a3, b0, b1, b2, b3⟩ hV2 | with_reducible exact keepq ⟨a0, a1, a2, a3, b0, b1, b2, b3⟩ hV3 | with_reducible exact keep8s ⟨a0, a1, a2, a3, b0, b1, b2, b3⟩ hV3 nA nB | (simp [go_sem, *]; done))
    (first
      | (go_at_call_of 41 (Value.agg #[.bool sa, .slice pa na na]); go_at_call_of 41 (Value.agg #[.bool tb, .slice qb mb mb]); refine (rMul_v hqa.num.drew hqb.den.drew (by omega) (by omega)).mono ?_; rintro e v1 ⟨s1, p1, n1, rfl, hr1, hF1, hv1⟩; have hV1 := undrew hv1)
      | (go_at_call_of 41 (Value.agg #[.bool ta, .slice qa ma ma]); go_at_call_of 41 (Value.agg #[.bool sb, .slice pb nb nb]); refine (rMul_v (hqa.den.below hV1) (hqb.num.below hV1) (by omega) (by omega)).mono ?_; rintro e v2 ⟨s2, p2, n2, rfl, hr2, hF2, hv2⟩; have hV2 := bnext' hV1 hv2)
      | (go_at_call 27; refine (Make_v (K := Ka + Kb) (hr1.below hv2) hr2 (by omega) (by omega) (by rw [hval.out]; exact hs.out)).mono ?_; rintro e v3 ⟨s3, p3, n3, t3, q3, m3, rfl, hm, hF3, hF3', hv3⟩; have hV3 := bnext' hV2 hv3; rw [hval.out] at hm; obtain ⟨r0, r1, r2, r3, f0, f1, f2, f3⟩ := hR0.later hV3))
  clear a0 a1 a2 a3 b0 b1 b2 b3
  go_wp2
  refine bodyPost_ret (v := .agg #[.bool s3, .slice p3 n3 n3, .bool t3, .slice q3 m3 m3]) (by simp [results, Tryz.results24, go_sem, r0, r1, r2, r3]) rfl ?_
  have sV := hV2.size
  exact end_mp hW (by omega) hR0.lt hV3 hm (fun a ha => Nat.le_trans sV (hF3 a ha)) (fun a ha => Nat.le_trans sV (hF3' a ha))
end Go.Proofs.YtongkalfdgleaaaGreatDoor
/-
  ashlarref2.Add.
-/
namespace Go.Proofs.YtongkalfdgleaaaGreatDoor
open Go.RowKit
set_option linter.unusedVariables false
set_option linter.unusedSimpArgs false

theorem rAdd_v {w : World} {N M : Nat} {x y : Int} {s t : Bool} {p q : Option Addr} {n m : Nat} (h : RV w N x s p n) (k : RV w M y t q m) (hN : N ≤ 1000) (hM : M ≤ 1000) :
    Calls Tryz.prog 42 #[.agg #[.bool s, .slice p n n], .agg #[.bool t, .slice q m m]] w (RVP (N + M + 1) (x + y) w) := by
  obtain ⟨ds, h1, rfl, h3⟩ := h
  obtain ⟨es, k1, rfl, k3⟩ := k
  refine (rAdd_rn h1 k1 (by omega) (by omega)).mono ?_
  rintro e w' ⟨s', p', n', ds', g1, g2, g3, g4, g5, g6⟩
  exact ⟨s', p', n', g1, ⟨ds', g2, g3, by omega⟩, g5, g6⟩
theorem keepAdd {w1 w2 : World} {a b c d e f g h i j k l : Addr} {u v x y z t r s o p m n : Value} (H : w1.cell? a = some u ∧ w1.cell? b = some v ∧ w1.cell? c = some x ∧ w1.cell? d = some y ∧ w1.cell? e = some z ∧ w1.cell? f = some t ∧ w1.cell? g = some r ∧ w1.cell? h = some s ∧ w1.cell? i = some o ∧ w1.cell? j = some p ∧ w1.cell? k = some m ∧ w1.cell? l = some n) (hb : Below w1.heap.size w1 w2) :
    w2.cell? a = some u ∧ w2.cell? b = some v ∧ w2.cell? c = some x ∧ w2.cell? d = some y ∧ w2.cell? e = some z ∧ w2.cell? f = some t ∧ w2.cell? g = some r ∧ w2.cell? h = some s ∧ w2.cell? i = some o ∧ w2.cell? j = some p ∧ w2.cell? k = some m ∧ w2.cell? l = some n := by
  obtain ⟨h0, h1, h2, h3, h4, h5, h6, h7, h8, h9, h10, h11⟩ := H
  exact ⟨cell_later hb h0, cell_later hb h1, cell_later hb h2, cell_later hb h3, cell_later hb h4, cell_later hb h5, cell_later hb h6, cell_later hb h7, cell_later hb h8, cell_later hb h9, cell_later hb h10, cell_later hb h11⟩
set_option maxRecDepth 100000 in
set_option maxHeartbeats 4000000 in
/-- ashlarref2.Add. -/
theorem rAdd_q {w : World} {Ka Kb : Nat} {sa ta sb tb : Bool} {pa qa pb qb : Option Addr} {na ma nb mb : Nat} {ra rb : Rat} (ha : MQ w Ka sa pa na ta qa ma ra) (hb : MQ w Kb sb pb nb tb qb mb rb) (hKa : 1 ≤ Ka) (hKb : 1 ≤ Kb) (hK : Ka + Kb ≤ 240) :
    Calls Tryz.prog 11 #[.agg #[.bool sa, .slice pa na na, .bool ta, .slice qa ma ma], .agg #[.bool sb, .slice pb nb nb, .bool tb, .slice qb mb mb]] w (MP (ra + rb) (Ka + Kb + 1) w) := by
  have hs : Hid (Sz (ra + rb) (Ka + Kb + 1)) := add_sz ha.sz hb.sz
  have hval : Hid (Rat.divInt (ra.num * rb.den + rb.num * ra.den) (ra.den * rb.den) = ra + rb) := add_mk ra rb
  go_enter Tryz.func11, Tryz.ntmps11
  go_wp2_with fail
  have hA0 : Bq ((((w).alloc (.cells #[.bool sa, .slice pa na na, .bool ta, .slice qa ma ma] 33)).alloc (.cells #[.bool sb, .slice pb nb nb, .bool tb, .slice qb mb mb] 33)).alloc (.cells #[.bool false, .slice none 0 0, .bool false, .slice none 0 0] 33)) w.heap.size (.bool sa) (.slice pa na na) (.bool ta) (.slice qa ma ma) := ((Bq.new _ _ _ _ _ rfl).alloc _).alloc _
  have hB0 : Bq ((((w).alloc (.cells #[.bool sa, .slice pa na na, .bool ta, .slice qa ma ma] 33)).alloc (.cells #[.bool sb, .slice pb nb nb, .bool tb, .slice qb mb mb] 33)).alloc (.cells #[.bool false, .slice none 0 0, .bool false, .slice none 0 0] 33)) (w.heap.size + 1) (.bool sb) (.slice pb nb nb) (.bool tb) (.slice qb mb mb) := (Bq.new _ _ _ _ _ (by simp)).alloc _
  have hR0 : Bq ((((w).alloc (.cells #[.bool sa, .slice pa na na, .bool ta, .slice qa ma ma] 33)).alloc (.cells #[.bool sb, .slice pb nb nb, .bool tb, .slice qb mb mb] 33)).alloc (.cells #[.bool false, .slice none 0 0, .bool false, .slice none 0 0] 33)) (w.heap.size + 1 + 1) (.bool false) (.slice none 0 0) (.bool false) (.slice none 0 0) := Bq.new _ _ _ _ _ (by simp)
  have hW : Below w.heap.size w ((((w).alloc (.cells #[.bool sa, .slice pa na na, .bool ta, .slice qa ma ma] 33)).alloc (.cells #[.bool sb, .slice pb nb nb, .bool tb, .slice qb mb mb] 33)).alloc (.cells #[.bool false, .slice none 0 0, .bool false, .slice none 0 0] 33)) := (((Below.refl _ _).alloc (Nat.le_refl _) _).alloc (by simp) _).alloc (by simp; omega) _
  generalize (((w).alloc (.cells #[.bool sa, .slice pa na na, .bool ta, .slice qa ma ma] 33)).alloc (.cells #[.bool sb, .slice pb nb nb, .bool tb, .slice qb mb mb] 33)).alloc (.cells #[.bool false, .slice none 0 0, .bool false, .slice none 0 0] 33) = W at *
  have hqa := ha.below hW
  have hqb := hb.below hW
  have nA : Hid (w.heap.size ≠ w.heap.size + 1 + 1) := (by omega : w.heap.size ≠ w.heap.size + 1 + 1)
  have nB : Hid (w.heap.size + 1 ≠ w.heap.size + 1 + 1) := (by omega : w.heap.size + 1 ≠ w.heap.size + 1 + 1)
  have a0 := hA0.c0
  have a1 := hA0.c1
  have a2 := hA0.c2
  have a3 := hA0.c3
  have b0 := hB0.c0
  have b1 := hB0.c1
  have b2 := hB0.c2
  have b3 := hB0.c3
  refine (rMul_v hqa.num hqb.den (by omega) (by omega)).mono ?_
  rintro e w1 ⟨s1, p1, n1, rfl, hr1, hF1, hb1⟩
  have hal := bel_al (o := .cells #[.bool s1, .slice p1 n1 n1] 31) hb1
  have hA1 := hA0.later hal
  have hB1 := hB0.later hal
  have hR1 := hR0.later hal
  have hW1 := bnext' hW hal
  have hqa1 := hqa.below hal
  have hqb1 := hqb.below hal
  have nX : Hid (w1.heap.size ≠ w.heap.size + 1 + 1) := (by have := hR0.lt; have := hb1.size; omega : w1.heap.size ≠ w.heap.size + 1 + 1)
  have hX1 : Bx (w1.alloc (.cells #[.bool s1, .slice p1 n1 n1] 31)) w1.heap.size (.bool s1) (.slice p1 n1 n1) := Bx.new _ _ _ rfl
  have hx1 := hr1.alloc (.cells #[.bool s1, .slice p1 n1 n1] 31)
  clear hal hA0 hB0 hR0 hW hqa hqb hr1 hb1 hF1 a0 a1 a2 a3 b0 b1 b2 b3
  have a2 := hA1.c2
  have a3 := hA1.c3
  have b0 := hB1.c0
  have b1 := hB1.c1
  go_wp2_with fail
  generalize w1.alloc (.cells #[.bool s1, .slice p1 n1 n1] 31) = W1 at *
  generalize w1.heap.size = gx at *
  refine (rMul_v hqb1.num hqa1.den (by omega) (by omega)).mono ?_
  rintro e w2 ⟨s2, p2, n2, rfl, hr2, hF2, hb2⟩
  have hal := bel_al (o := .cells #[.bool s2, .slice p2 n2 n2] 31) hb2
  have hA2 := hA1.later hal
  have hB2 := hB1.later hal
  have hR2 := hR1.later hal
  have hW2 := bnext' hW1 hal
  have hqa2 := hqa1.below hal
  have hqb2 := hqb1.below hal
  have hX2 := hX1.later hal
  have hx2 := hx1.below hal
  have nY : Hid (w2.heap.size ≠ w.heap.size + 1 + 1) := (by have := hR1.lt; have := hb2.size; omega : w2.heap.size ≠ w.heap.size + 1 + 1)
  have hY2 : Bx (w2.alloc (.cells #[.bool s2, .slice p2 n2 n2] 31)) w2.heap.size (.bool s2) (.slice p2 n2 n2) := Bx.new _ _ _ rfl
  have hy2 := hr2.alloc (.cells #[.bool s2, .slice p2 n2 n2] 31)
  clear hal hA1 hB1 hR1 hW1 hqa1 hqb1 hX1 hx1 hr2 hb2 hF2 a2 a3 b0 b1
  go_upto_region 2 with fail
  generalize w2.alloc (.cells #[.bool s2, .slice p2 n2 n2] 31) = W2 at *
  generalize w2.heap.size = gy at *
  have a0 := hA2.c0
  have a1 := hA2.c1
  have a2 := hA2.c2
  have a3 := hA2.c3
  have b0 := hB2.c0
  have b1 := hB2.c1
  have b2 := hB2.c2
  have b3 := hB2.c3
  have x0 := hX2.c0
  have x1 := hX2.c1
  have y0 := hY2.c0
  have y1 := hY2.c1
  go_region_held3 (fun w' => w'.cell? ⟨w.heap.size, 0, none⟩ = some (.bool sa) ∧ w'.cell? ⟨w.heap.size, 1, none⟩ = some (.slice pa na na) ∧ w'.cell? ⟨w.heap.size, 2, none⟩ = some (.bool ta) ∧ w'.cell? ⟨w.heap.size, 3, none⟩ = some (.slice qa ma ma) ∧ w'.cell? ⟨w.heap.size + 1, 0, none⟩ = some (.bool sb) ∧ w'.cell? ⟨w.heap.size + 1, 1, none⟩ = some (.slice pb nb nb) ∧ w'.cell? ⟨w.heap.size + 1, 2, none⟩ = some (.bool tb) ∧ w'.cell? ⟨w.heap.size + 1, 3, none⟩ = some (.slice qb mb mb) ∧ w'.cell? ⟨gx, 0, none⟩ = some (.bool s1) ∧ w'.cell? ⟨gx, 1, none⟩ = some (.slice p1 n1 n1) ∧ w'.cell? ⟨gy, 0, none⟩ = some (.bool s2) ∧ w'.cell? ⟨gy, 1, none⟩ = some (.slice p2 n2 n2)) (first | with_reducible exact ⟨a0, a1, a2, a3, b0, b1, b2, b3, x0, x1, y0, y1⟩ | with_reducible exact keepAdd ⟨a0, a1, a2, a3, b0, b1, b2, b3, x0, x1, y0, y1⟩ hV3 | with_reducible exact keepAdd ⟨a0, a1, a2, a3, b0, b1, b2, b3, x0, x1, y0, y1⟩ hV4 | with_reducible exact keepAdd ⟨a0, a1, a2, a3, b0, b1, b2, b3, x0, x1, y0, y1⟩ hV5 | with_reducible exact keep12s ⟨a0, a1, a2, a3, b0, b1, b2, b3, x0, x1, y0, y1⟩ hV5 nA nB nX nY | (simp [go_sem, *]; done))
    (first
      | (go_at_call 42; refine (rAdd_v hx2.drew hy2.drew (by omega) (by omega)).mono ?_; rintro e v3 ⟨s3, p3, n3, rfl, hr3, hF3, hv3⟩; have hV3 := undrew hv3)
      | (go_at_call 41; refine (rMul_v (hqa2.den.below hV3) (hqb2.den.below hV3) (by omega) (by omega)).mono ?_; rintro e v4 ⟨s4, p4, n4, rfl, hr4, hF4, hv4⟩; have hV4 := bnext' hV3 hv4)
      | (go_at_call 27; refine (Make_v (K := Ka + Kb + 1) (hr3.below hv4) hr4 (by omega) (by omega) (by rw [hval.out]; exact hs.out)).mono ?_; rintro e v5 ⟨s5, p5, n5, t5, q5, m5, rfl, hm, hF5, hF5', hv5⟩; have hV5 := bnext' hV4 hv5; rw [hval.out] at hm; obtain ⟨r0, r1, r2, r3, f0, f1, f2, f3⟩ := hR2.later hV5))
  clear a0 a1 a2 a3 b0 b1 b2 b3 x0 x1 y0 y1
  go_wp2
  refine bodyPost_ret (v := .agg #[.bool s5, .slice p5 n5 n5, .bool t5, .slice q5 m5 m5]) (by simp [results, Tryz.results11, go_sem, r0, r1, r2, r3]) rfl ?_
  have sV := hV4.size
  exact end_mp hW2 (by omega) hR2.lt hV5 hm (fun a ha => Nat.le_trans sV (hF5 a ha)) (fun a ha => Nat.le_trans sV (hF5' a ha))
end Go.Proofs.YtongkalfdgleaaaGreatDoor
