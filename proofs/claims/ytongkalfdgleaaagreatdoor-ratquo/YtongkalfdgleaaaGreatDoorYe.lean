/-
  ashlarref2.Mul, Quo.
-/
import Derived.Test.YtongkalfdgleaaaGreatDoorYd
namespace Go.Proofs.YtongkalfdgleaaaGreatDoor
open Go.RowKit
set_option linter.unusedVariables false
set_option linter.unusedSimpArgs false

theorem mul_mk (a b : Rat) : Rat.divInt (a.num * b.num) (a.den * b.den) = a * b := by
  have := Rat.divInt_mul_divInt a.num b.num (d₁ := a.den) (d₂ := b.den)
  rw [← this, Rat.num_divInt_den, Rat.num_divInt_den]
theorem quo_mk (a b : Rat) : Rat.divInt (a.num * b.den) (a.den * b.num) = a / b := by
  rcases Classical.em (b = 0) with h | h
  · subst h
    rw [Rat.div_def, Rat.inv_zero, Rat.mul_zero]
    simp
  · have := Rat.divInt_mul_divInt a.num (b.den : Int) (d₁ := a.den) (d₂ := b.num)
    rw [← this, Rat.num_divInt_den, Rat.div_def]
    congr 1
    rw [← Rat.inv_divInt, Rat.num_divInt_den]
theorem add_mk (a b : Rat) : Rat.divInt (a.num * b.den + b.num * a.den) (a.den * b.den) = a + b := by
  have := Rat.divInt_add_divInt a.num b.num (d₁ := a.den) (d₂ := b.den) (by have := a.den_nz; omega) (by have := b.den_nz; omega)
  rw [← this, Rat.num_divInt_den, Rat.num_divInt_den]
set_option maxRecDepth 100000 in
set_option maxHeartbeats 4000000 in
/-- ashlarref2.Mul. -/
theorem rMul_q {w : World} {Ka Kb : Nat} {sa ta sb tb : Bool} {pa qa pb qb : Option Addr} {na ma nb mb : Nat} {ra rb : Rat} (ha : MQ w Ka sa pa na ta qa ma ra) (hb : MQ w Kb sb pb nb tb qb mb rb) (hKa : 1 ≤ Ka) (hKb : 1 ≤ Kb) (hK : Ka + Kb ≤ 240) :
    Calls Tryz.prog 15 #[.agg #[.bool sa, .slice pa na na, .bool ta, .slice qa ma ma], .agg #[.bool sb, .slice pb nb nb, .bool tb, .slice qb mb mb]] w (MP (ra * rb) (Ka + Kb) w) := by
  have hs : Hid (Sz (ra * rb) (Ka + Kb)) := mul_sz ha.sz hb.sz hKa
  have hval : Hid (Rat.divInt (ra.num * rb.num) (ra.den * rb.den) = ra * rb) := mul_mk ra rb
  have la := ha.num.le
  go_enter Tryz.func15, Tryz.ntmps15
  go_wp2_with fail
  have hA0 : Bq ((((w).alloc (.cells #[.bool sa, .slice pa na na, .bool ta, .slice qa ma ma] 33)).alloc (.cells #[.bool sb, .slice pb nb nb, .bool tb, .slice qb mb mb] 33)).alloc (.cells #[.bool false, .slice none 0 0, .bool false, .slice none 0 0] 33)) w.heap.size (.bool sa) (.slice pa na na) (.bool ta) (.slice qa ma ma) := ((Bq.new _ _ _ _ _ rfl).alloc _).alloc _
  have hB0 : Bq ((((w).alloc (.cells #[.bool sa, .slice pa na na, .bool ta, .slice qa ma ma] 33)).alloc (.cells #[.bool sb, .slice pb nb nb, .bool tb, .slice qb mb mb] 33)).alloc (.cells #[.bool false, .slice none 0 0, .bool false, .slice none 0 0] 33)) (w.heap.size + 1) (.bool sb) (.slice pb nb nb) (.bool tb) (.slice qb mb mb) := (Bq.new _ _ _ _ _ (by simp)).alloc _
  have hR0 : Bq ((((w).alloc (.cells #[.bool sa, .slice pa na na, .bool ta, .slice qa ma ma] 33)).alloc (.cells #[.bool sb, .slice pb nb nb, .bool tb, .slice qb mb mb] 33)).alloc (.cells #[.bool false, .slice none 0 0, .bool false, .slice none 0 0] 33)) (w.heap.size + 1 + 1) (.bool false) (.slice none 0 0) (.bool false) (.slice none 0 0) := Bq.new _ _ _ _ _ (by simp)
  have hW : Below w.heap.size w ((((w).alloc (.cells #[.bool sa, .slice pa na na, .bool ta, .slice qa ma ma] 33)).alloc (.cells #[.bool sb, .slice pb nb nb, .bool tb, .slice qb mb mb] 33)).alloc (.cells #[.bool false, .slice none 0 0, .bool false, .slice none 0 0] 33)) := (((Below.refl _ _).alloc (Nat.le_refl _) _).alloc (by simp) _).alloc (by simp; omega) _
  generalize (((w).alloc (.cells #[.bool sa, .slice pa na na, .bool ta, .slice qa ma ma] 33)).alloc (.cells #[.bool sb, .slice pb nb nb, .bool tb, .slice qb mb mb] 33)).alloc (.cells #[.bool false, .slice none 0 0, .bool false, .slice none 0 0] 33) = W at *
  have hqa := ha.below hW
  have hqb := hb.below hW
  have nA : Hid (w.heap.size ≠ w.heap.size + 1 + 1) := (by omega : w.heap.size ≠ w.heap.size + 1 + 1)
  have nB : Hid (w.heap.size + 1 ≠ w.heap.size + 1 + 1) := (by omega : w.heap.size + 1 ≠ w.heap.size + 1 + 1)
  have a0 := hA0.c0
  have a1 := hA0.c1
  have a2 := hA0.c2
  have a3 := hA0.c3
  have b0 := hB0.c0
  have b1 := hB0.c1
  have b2 := hB0.c2
  have b3 := hB0.c3
  go_region_held3 (fun w' => w'.cell? ⟨w.heap.size, 0, none⟩ = some (.bool sa) ∧ w'.cell? ⟨w.heap.size, 1, none⟩ = some (.slice pa na na) ∧ w'.cell? ⟨w.heap.size, 2, none⟩ = some (.bool ta) ∧ w'.cell? ⟨w.heap.size, 3, none⟩ = some (.slice qa ma ma) ∧ w'.cell? ⟨w.heap.size + 1, 0, none⟩ = some (.bool sb) ∧ w'.cell? ⟨w.heap.size + 1, 1, none⟩ = some (.slice pb nb nb) ∧ w'.cell? ⟨w.heap.size + 1, 2, none⟩ = some (.bool tb) ∧ w'.cell? ⟨w.heap.size + 1, 3, none⟩ = some (.slice qb mb mb)) (first | with_reducible exact ⟨a0, a1, a2, a3, b0, b1, b2, b3⟩ | with_reducible exact keepq ⟨a0, a1, a2, a3, b0, b1, b2, b3⟩ hV1 | with_reducible exact keepq ⟨a0, a1, a2, a3, b0, b1, b2, b3⟩ hV2 | with_reducible exact keepq ⟨a0, a1, a2, a3, b0, b1, b2, b3⟩ hV3 | with_reducible exact keep8s ⟨a0, a1, a2, a3, b0, b1, b2, b3⟩ hV3 nA nB | (simp [go_sem, *]; done))
    (first
      | (go_at_call_of 41 (Value.agg #[.bool sa, .slice pa na na]); go_at_call_of 41 (Value.agg #[.bool sb, .slice pb nb nb]); refine (rMul_v hqa.num.drew hqb.num.drew (by omega) (by omega)).mono ?_; rintro e v1 ⟨s1, p1, n1, rfl, hr1, hF1, hv1⟩; have hV1 := undrew hv1)
      | (go_at_call_of 41 (Value.agg #[.bool ta, .slice qa ma ma]); go_at_call_of 41 (Value.agg #[.bool tb, .slice qb mb mb]); refine (rMul_v (hqa.den.below hV1) (hqb.den.below hV1) (by omega) (by omega)).mono ?_; rintro e v2 ⟨s2, p2, n2, rfl, hr2, hF2, hv2⟩; have hV2 := bnext' hV1 hv2)
      | (go_at_call 27; refine (Make_v (K := Ka + Kb) (hr1.below hv2) hr2 (by omega) (by omega) (by rw [hval.out]; exact hs.out)).mono ?_; rintro e v3 ⟨s3, p3, n3, t3, q3, m3, rfl, hm, hF3, hF3', hv3⟩; have hV3 := bnext' hV2 hv3; rw [hval.out] at hm; obtain ⟨r0, r1, r2, r3, f0, f1, f2, f3⟩ := hR0.later hV3))
  clear a0 a1 a2 a3 b0 b1 b2 b3
  go_wp2
  refine bodyPost_ret (v := .agg #[.bool s3, .slice p3 n3 n3, .bool t3, .slice q3 m3 m3]) (by simp [results, Tryz.results15, go_sem, r0, r1, r2, r3]) rfl ?_
  have sV := hV2.size
  exact end_mp hW (by omega) hR0.lt hV3 hm (fun a ha => Nat.le_trans sV (hF3 a ha)) (fun a ha => Nat.le_trans sV (hF3' a ha))
set_option maxRecDepth 100000 in
set_option maxHeartbeats 4000000 in
/-- ashlarref2.Quo. -/
theorem rQuo_q {w : World} {Ka Kb : Nat} {sa ta sb tb : Bool} {pa qa pb qb : Option Addr} {na ma nb mb : Nat} {ra rb : Rat} (ha : MQ w Ka sa pa na ta qa ma ra) (hb : MQ w Kb sb pb nb tb qb mb rb) (hKa : 1 ≤ Ka) (hKb : 1 ≤ Kb) (hK : Ka + Kb ≤ 240) :
    Calls Tryz.prog 24 #[.agg #[.bool sa, .slice pa na na, .bool ta, .slice qa ma ma], .agg #[.bool sb, .slice pb nb nb, .bool tb, .slice qb mb mb]] w (MP (ra / rb) (Ka + Kb) w) := by
  have hs : Hid (Sz (ra / rb) (Ka + Kb)) := quo_sz ha.sz hb.sz hKa
  have hval : Hid (Rat.divInt (ra.num * rb.den) (ra.den * rb.num) = ra / rb) := quo_mk ra rb
  have la := ha.num.le
  go_enter Tryz.func24, Tryz.ntmps24
  go_wp2_with fail
  have hA0 : Bq ((((w).alloc (.cells #[.bool sa, .slice pa na na, .bool ta, .slice qa ma ma] 33)).alloc (.cells #[.bool sb, .slice pb nb nb, .bool tb, .slice qb mb mb] 33)).alloc (.cells #[.bool false, .slice none 0 0, .bool false, .slice none 0 0] 33)) w.heap.size (.bool sa) (.slice pa na na) (.bool ta) (.slice qa ma ma) := ((Bq.new _ _ _ _ _ rfl).alloc _).alloc _
  have hB0 : Bq ((((w).alloc (.cells #[.bool sa, .slice pa na na, .bool ta, .slice qa ma ma] 33)).alloc (.cells #[.bool sb, .slice pb nb nb, .bool tb, .slice qb mb mb] 33)).alloc (.cells #[.bool false, .slice none 0 0, .bool false, .slice none 0 0] 33)) (w.heap.size + 1) (.bool sb) (.slice pb nb nb) (.bool tb) (.slice qb mb mb) := (Bq.new _ _ _ _ _ (by simp)).alloc _
  have hR0 : Bq ((((w).alloc (.cells #[.bool sa, .slice pa na na, .bool ta, .slice qa ma ma] 33)).alloc (.cells #[.bool sb, .slice pb nb nb, .bool tb, .slice qb mb mb] 33)).alloc (.cells #[.bool false, .slice none 0 0, .bool false, .slice none 0 0] 33)) (w.heap.size + 1 + 1) (.bool false) (.slice none 0 0) (.bool false) (.slice none 0 0) := Bq.new _ _ _ _ _ (by simp)
  have hW : Below w.heap.size w ((((w).alloc (.cells #[.bool sa, .slice pa na na, .bool ta, .slice qa ma ma] 33)).alloc (.cells #[.bool sb, .slice pb nb nb, .bool tb, .slice qb mb mb] 33)).alloc (.cells #[.bool false, .slice none 0 0, .bool false, .slice none 0 0] 33)) := (((Below.refl _ _).alloc (Nat.le_refl _) _).alloc (by simp) _).alloc (by simp; omega) _
  generalize (((w).alloc (.cells #[.bool sa, .slice pa na na, .bool ta, .slice qa ma ma] 33)).alloc (.cells #[.bool sb, .slice pb nb nb, .bool tb, .slice qb mb mb] 33)).alloc (.cells #[.bool false, .slice none 0 0, .bool false, .slice none 0 0] 33) = W at *
  have hqa := ha.below hW
  have hqb := hb.below hW
  have nA : Hid (w.heap.size ≠ w.heap.size + 1 + 1) := (by omega : w.heap.size ≠ w.heap.size + 1 + 1)
  have nB : Hid (w.heap.size + 1 ≠ w.heap.size + 1 + 1) := (by omega : w.heap.size + 1 ≠ w.heap.size + 1 + 1)
  have a0 := hA0.c0
  have a1 := hA0.c1
  have a2 := hA0.c2
  have a3 := hA0.c3
  have b0 := hB0.c0
  have b1 := hB0.c1
  have b2 := hB0.c2
  have b3 := hB0.c3
  go_region_held3 (fun w' => w'.cell? ⟨w.heap.size, 0, none⟩ = some (.bool sa) ∧ w'.cell? ⟨w.heap.size, 1, none⟩ = some (.slice pa na na) ∧ w'.cell? ⟨w.heap.size, 2, none⟩ = some (.bool ta) ∧ w'.cell? ⟨w.heap.size, 3, none⟩ = some (.slice qa ma ma) ∧ w'.cell? ⟨w.heap.size + 1, 0, none⟩ = some (.bool sb) ∧ w'.cell? ⟨w.heap.size + 1, 1, none⟩ = some (.slice pb nb nb) ∧ w'.cell? ⟨w.heap.size + 1, 2, none⟩ = some (.bool tb) ∧ w'.cell? ⟨w.heap.size + 1, 3, none⟩ = some (.slice qb mb mb)) (first | with_reducible exact ⟨a0, a1, a2, a3, b0, b1, b2, b3⟩ | with_reducible exact keepq ⟨a0, a1, a2, a3, b0, b1, b2, b3⟩ hV1 | with_reducible exact keepq ⟨a0, a1, a2, a3, b0, b1, b2, b3⟩ hV2 | with_reducible exact keepq ⟨a0, a1, a2, a3, b0, b1, b2, b3⟩ hV3 | with_reducible exact keep8s ⟨a0, a1, a2, a3, b0, b1, b2, b3⟩ hV3 nA nB | (simp [go_sem, *]; done))
    (first
      | (go_at_call_of 41 (Value.agg #[.bool sa, .slice pa na na]); go_at_call_of 41 (Value.agg #[.bool tb, .slice qb mb mb]); refine (rMul_v hqa.num.drew hqb.den.drew (by omega) (by omega)).mono ?_; rintro e v1 ⟨s1, p1, n1, rfl, hr1, hF1, hv1⟩; have hV1 := undrew hv1)
      | (go_at_call_of 41 (Value.agg #[.bool ta, .slice qa ma ma]); go_at_call_of 41 (Value.agg #[.bool sb, .slice pb nb nb]); refine (rMul_v (hqa.den.below hV1) (hqb.num.below hV1) (by omega) (by omega)).mono ?_; rintro e v2 ⟨s2, p2, n2, rfl, hr2, hF2, hv2⟩; have hV2 := bnext' hV1 hv2)
      | (go_at_call 27; refine (Make_v (K := Ka + Kb) (hr1.below hv2) hr2 (by omega) (by omega) (by rw [hval.out]; exact hs.out)).mono ?_; rintro e v3 ⟨s3, p3, n3, t3, q3, m3, rfl, hm, hF3, hF3', hv3⟩; have hV3 := bnext' hV2 hv3; rw [hval.out] at hm; obtain ⟨r0, r1, r2, r3, f0, f1, f2, f3⟩ := hR0.later hV3))
  clear a0 a1 a2 a3 b0 b1 b2 b3
  go_wp2
  refine bodyPost_ret (v := .agg #[.bool s3, .slice p3 n3 n3, .bool t3, .slice q3 m3 m3]) (by simp [results, Tryz.results24, go_sem, r0, r1, r2, r3]) rfl ?_
  have sV := hV2.size
  exact end_mp hW (by omega) hR0.lt hV3 hm (fun a ha => Nat.le_trans sV (hF3 a ha)) (fun a ha => Nat.le_trans sV (hF3' a ha))
end Go.Proofs.YtongkalfdgleaaaGreatDoor
