/-
  ashlarref1.Sign, Cmp.
-/
import Derived.Test.YtongkalfdgleaaaGreatDoorXeTbTcRg
import Derived.Test.YtongkalfdgleaaaGreatDoorRvRwTe
import Derived.Test.YtongkalfdgleaaaGreatDoorRmYd
import Derived.Test.YtongkalfdgleaaaGreatDoorRoRi
import Derived.Test.YtongkalfdgleaaaGreatDoorZnXcXb
namespace Go.Proofs.YtongkalfdgleaaaGreatDoor
open Go.RowKit
set_option linter.unusedVariables false
set_option linter.unusedSimpArgs false

theorem icmp_same16 {s t : Bool} {xs ys : List Int} (hX : U16 xs) (hY : U16 ys) (h : isgn (rval s xs) = isgn (rval t ys)) : isgn (rval s xs) * icmp (vd xs) (vd ys) = icmp (rval s xs) (rval t ys) := by
  have h1 := vd_nonneg hX
  have h2 := vd_nonneg hY
  rcases isgn_cases (rval s xs) with ⟨a1, a2⟩ | ⟨a1, a2⟩ | ⟨a1, a2⟩ <;> rcases isgn_cases (rval t ys) with ⟨b1, b2⟩ | ⟨b1, b2⟩ | ⟨b1, b2⟩ <;> rw [a2, b2] at h <;> (try (exact absurd h (by decide))) <;> rw [a2]
  · rw [a1, b1, icmp_eq, Int.zero_mul]
  · have e1 : s = true := by cases s <;> simp_all [rval] <;> omega
    have e2 : t = true := by cases t <;> simp_all [rval] <;> omega
    subst e1 e2
    simp only [rval, if_true]
    rcases Int.lt_trichotomy (vd xs) (vd ys) with g | g | g
    · rw [icmp_lt g, icmp_gt (by omega)]; rfl
    · rw [g, icmp_eq, icmp_eq]; rfl
    · rw [icmp_gt g, icmp_lt (by omega)]; rfl
  · have e1 : s = false := by cases s <;> simp_all [rval] <;> omega
    have e2 : t = false := by cases t <;> simp_all [rval] <;> omega
    subst e1 e2
    simp only [rval, Bool.false_eq_true, if_false, Int.one_mul]

set_option maxHeartbeats 1000000 in
/-- ashlarref1.Cmp. -/
theorem rCmp_any (s t : Bool) (p q : Option Addr) (n nc m mc : Nat) (xs ys : List Int) (w : World) (hn : xs.length = n) (hm : ys.length = m) (hnb : n ≤ 1000000000) (hmb : m ≤ 1000000000) (tx : tlen xs = n) (ty : tlen ys = m)
    (hX : Rd w p .i64 xs) (hXu : U16 xs) (hY : Rd w q .i64 ys) (hYu : U16 ys) :
    Calls Tryz.prog 49 #[.agg #[.bool s, .slice p n nc], .agg #[.bool t, .slice q m mc]] w fun e w' => e = .returned (.int .i64 (icmp (rval s xs) (rval t ys))) ∧ Below w.heap.size w w' := by
  have hd : Hid (isgn (rval s xs) = isgn (rval t ys) ∨ isgn (rval s xs) ≠ isgn (rval t ys)) := Classical.em _
  have q1 : -1 ≤ isgn (rval s xs) ∧ isgn (rval s xs) ≤ 1 := by rcases isgn_cases (rval s xs) with h | h | h <;> omega
  have q2 : -1 ≤ icmp (vd xs) (vd ys) ∧ icmp (vd xs) (vd ys) ≤ 1 := by unfold icmp; split <;> (try split) <;> decide
  obtain ⟨q1, q1'⟩ := q1
  obtain ⟨q2, q2'⟩ := q2
  have HT : Hid (xs.length = n ∧ ys.length = m ∧ tlen xs = n ∧ tlen ys = m) := ⟨hn, hm, tx, ty⟩
  clear hn hm tx ty
  go_enter Tryz.func49, Tryz.ntmps49
  go_wp2_with fail
  have hX0 := boxes2 w (.bool s) (.slice p n nc) (.bool t) (.slice q m mc) 31 31
  generalize ((w.alloc (Obj.cells #[Value.bool s, Value.slice p n nc] 31)).alloc (Obj.cells #[Value.bool t, Value.slice q m mc] 31)) = W0 at *
  refine (rSign_any s p n nc xs _ hXu HT.out.2.2.1).mono ?_
  rintro e W1 ⟨rfl, hb0⟩
  have hX1 := hX0.later hb0
  clear hX0 hb0 W0
  have k0 := hX1.ca0
  have k1 := hX1.ca1
  have k2 := hX1.cb0
  have k3 := hX1.cb1
  go_wp2_with fail
  refine (rSign_any t q m mc ys _ hYu HT.out.2.2.2).mono ?_
  rintro e W ⟨rfl, hb0⟩
  have hX2 := hX1.later hb0
  clear hX1 hb0 k0 k1 k2 k3 W1
  have k0 := hX2.ca0
  have k1 := hX2.ca1
  have k2 := hX2.cb0
  have k3 := hX2.cb1
  rcases hd.out with h | h
  · have hne : (isgn (rval s xs) != isgn (rval t ys)) = false := by rw [h]; simp
    have H : Hid (isgn (rval s xs) = isgn (rval t ys)) := h
    clear h hd
    go_wp2_with fail
    obtain ⟨t1, t2, t3, t4⟩ := HT.out
    refine (rcmp_any p q n nc m mc xs ys _ t1 t2 hnb hmb t3 t4 (hX.below hX2.below) hXu (hY.below hX2.below) hYu).mono ?_
    rintro e w1 ⟨rfl, hb1⟩
    have hw : wrap64 (isgn (rval s xs) * icmp (vd xs) (vd ys)) = icmp (rval s xs) (rval t ys) := by
      rw [icmp_same16 hXu hYu H.out]
      unfold icmp; split <;> (try split) <;> simp [wrap64, IntKind.wrap, IntKind.bits, IntKind.signed]
    clear t1 t2 t3 t4
    go_wp2
    go_ret
    refine ⟨?_, hX2.below.trans (hb1.mono hX2.below.size)⟩
    first
      | exact ret_int hw
      | exact ret_int (icmp_same16 hXu hYu H.out)
      | rfl
  · have hne : (isgn (rval s xs) != isgn (rval t ys)) = true := by rw [bne_iff_ne]; exact h
    clear hd
    rcases Int.lt_or_lt_of_ne h with h1 | h1
    · have hi := icmp_lt h1
      rw [icmp_isgn h] at hi
      have HI : Hid (icmp (rval s xs) (rval t ys) = -1) := hi
      clear hi h
      go_wp2
      go_ret
      exact ⟨ret_int HI.out.symm, hX2.below⟩
    · have hi := icmp_gt h1
      rw [icmp_isgn h] at hi
      have HI : Hid (icmp (rval s xs) (rval t ys) = 1) := hi
      have h2 : ¬ isgn (rval s xs) < isgn (rval t ys) := by omega
      clear hi h
      go_wp2
      go_ret
      exact ⟨ret_int HI.out.symm, hX2.below⟩
/-- ashlarref1.Cmp of two that are known. -/
theorem rCmp_rn {w : World} {s t : Bool} {p q : Option Addr} {n m : Nat} {xs ys : List Int} (h : RN w s p n xs) (k : RN w t q m ys) :
    Calls Tryz.prog 49 #[.agg #[.bool s, .slice p n n], .agg #[.bool t, .slice q m m]] w fun e w' => e = .returned (.int .i64 (icmp (rval s xs) (rval t ys))) ∧ Below w.heap.size w w' :=
  rCmp_any s t p q n n m m xs ys w h.len k.len h.sml k.sml h.nrm k.nrm h.rd h.u k.rd k.u
end Go.Proofs.YtongkalfdgleaaaGreatDoor
/-
  ashlarref2.Cmp.
-/
namespace Go.Proofs.YtongkalfdgleaaaGreatDoor
open Go.RowKit
set_option linter.unusedVariables false
set_option linter.unusedSimpArgs false

theorem rCmp_v {w : World} {N M : Nat} {x y : Int} {s t : Bool} {p q : Option Addr} {n m : Nat} (h : RV w N x s p n) (k : RV w M y t q m) :
    Calls Tryz.prog 49 #[.agg #[.bool s, .slice p n n], .agg #[.bool t, .slice q m m]] w fun e w' => e = .returned (.int .i64 (icmp x y)) ∧ Below w.heap.size w w' := by
  obtain ⟨ds, h1, rfl, h3⟩ := h
  obtain ⟨es, k1, rfl, k3⟩ := k
  exact rCmp_rn h1 k1
set_option maxRecDepth 100000 in
set_option maxHeartbeats 4000000 in
/-- ashlarref2.Cmp. -/
theorem rCmp_q {w : World} {Ka Kb : Nat} {sa ta sb tb : Bool} {pa qa pb qb : Option Addr} {na ma nb mb : Nat} {ra rb : Rat} (ha : MQ w Ka sa pa na ta qa ma ra) (hb : MQ w Kb sb pb nb tb qb mb rb) (hKa : 1 ≤ Ka) (hKb : 1 ≤ Kb) (hK : Ka + Kb ≤ 240) :
    Calls Tryz.prog 18 #[.agg #[.bool sa, .slice pa na na, .bool ta, .slice qa ma ma], .agg #[.bool sb, .slice pb nb nb, .bool tb, .slice qb mb mb]] w fun e w' => e = .returned (.int .i64 (icmp (ra.num * rb.den) (rb.num * ra.den))) ∧ Below w.heap.size w w' := by
  go_enter Tryz.func18, Tryz.ntmps18
  go_wp2_with fail
  have hA0 : Bq (((w).alloc (.cells #[.bool sa, .slice pa na na, .bool ta, .slice qa ma ma] 33)).alloc (.cells #[.bool sb, .slice pb nb nb, .bool tb, .slice qb mb mb] 33)) w.heap.size (.bool sa) (.slice pa na na) (.bool ta) (.slice qa ma ma) := (Bq.new _ _ _ _ _ rfl).alloc _
  have hB0 : Bq (((w).alloc (.cells #[.bool sa, .slice pa na na, .bool ta, .slice qa ma ma] 33)).alloc (.cells #[.bool sb, .slice pb nb nb, .bool tb, .slice qb mb mb] 33)) (w.heap.size + 1) (.bool sb) (.slice pb nb nb) (.bool tb) (.slice qb mb mb) := Bq.new _ _ _ _ _ (by simp)
  have hW : Below w.heap.size w (((w).alloc (.cells #[.bool sa, .slice pa na na, .bool ta, .slice qa ma ma] 33)).alloc (.cells #[.bool sb, .slice pb nb nb, .bool tb, .slice qb mb mb] 33)) := ((Below.refl _ _).alloc (Nat.le_refl _) _).alloc (by simp) _
  generalize ((w).alloc (.cells #[.bool sa, .slice pa na na, .bool ta, .slice qa ma ma] 33)).alloc (.cells #[.bool sb, .slice pb nb nb, .bool tb, .slice qb mb mb] 33) = W at *
  have hqa := ha.below hW
  have hqb := hb.below hW
  have nA : Hid (w.heap.size ≠ w.heap.size + 1 + 1) := (by omega : w.heap.size ≠ w.heap.size + 1 + 1)
  have nB : Hid (w.heap.size + 1 ≠ w.heap.size + 1 + 1) := (by omega : w.heap.size + 1 ≠ w.heap.size + 1 + 1)
  have a0 := hA0.c0
  have a1 := hA0.c1
  have a2 := hA0.c2
  have a3 := hA0.c3
  have b0 := hB0.c0
  have b1 := hB0.c1
  have b2 := hB0.c2
  have b3 := hB0.c3
  go_region_held3 (fun w' => w'.cell? ⟨w.heap.size, 0, none⟩ = some (.bool sa) ∧ w'.cell? ⟨w.heap.size, 1, none⟩ = some (.slice pa na na) ∧ w'.cell? ⟨w.heap.size, 2, none⟩ = some (.bool ta) ∧ w'.cell? ⟨w.heap.size, 3, none⟩ = some (.slice qa ma ma) ∧ w'.cell? ⟨w.heap.size + 1, 0, none⟩ = some (.bool sb) ∧ w'.cell? ⟨w.heap.size + 1, 1, none⟩ = some (.slice pb nb nb) ∧ w'.cell? ⟨w.heap.size + 1, 2, none⟩ = some (.bool tb) ∧ w'.cell? ⟨w.heap.size + 1, 3, none⟩ = some (.slice qb mb mb)) (first | with_reducible exact ⟨a0, a1, a2, a3, b0, b1, b2, b3⟩ | with_reducible exact keepq ⟨a0, a1, a2, a3, b0, b1, b2, b3⟩ hV1 | with_reducible exact keepq ⟨a0, a1, a2, a3, b0, b1, b2, b3⟩ hV2 | with_reducible exact keepq ⟨a0, a1, a2, a3, b0, b1, b2, b3⟩ hV3 | with_reducible exact keep8s ⟨a0, a1, a2, a3, b0, b1, b2, b3⟩ hV3 nA nB | (simp [go_sem, *]; done))
    (first
      | (go_at_call_of 41 (Value.agg #[.bool sa, .slice pa na na]); go_at_call_of 41 (Value.agg #[.bool tb, .slice qb mb mb]); refine (rMul_v hqa.num.drew hqb.den.drew (by omega) (by omega)).mono ?_; rintro e v1 ⟨s1, p1, n1, rfl, hr1, hF1, hv1⟩; have hV1 := undrew hv1)
      | (go_at_call_of 41 (Value.agg #[.bool sb, .slice pb nb nb]); go_at_call_of 41 (Value.agg #[.bool ta, .slice qa ma ma]); refine (rMul_v (hqb.num.below hV1) (hqa.den.below hV1) (by omega) (by omega)).mono ?_; rintro e v2 ⟨s2, p2, n2, rfl, hr2, hF2, hv2⟩; have hV2 := bnext' hV1 hv2)
      | (go_at_call 49; refine (rCmp_v (hr1.below hv2) hr2).mono ?_; rintro e v3 ⟨rfl, hv3⟩; have hV3 := bnext' hV2 hv3))
  clear a0 a1 a2 a3 b0 b1 b2 b3
  go_wp2
  go_ret
  exact ⟨rfl, bnext' hW hV3⟩
end Go.Proofs.YtongkalfdgleaaaGreatDoor
/-
  ashlarref2.Int, Of, Sign, whole, Whole.
-/
namespace Go.Proofs.YtongkalfdgleaaaGreatDoor
open Go.RowKit
set_option linter.unusedVariables false
set_option linter.unusedSimpArgs false

theorem rOf_v (z : Int) (w : World) (h0 : -9223372036854775808 ≤ z) (h1 : z ≤ 9223372036854775807) : Calls Tryz.prog 28 #[.int .i64 z] w (RVP 4 z w) := (rOf_any z w h0 h1).mono fun e w' h => RVP.of h
theorem rSign_v {w : World} {N : Nat} {x : Int} {s : Bool} {p : Option Addr} {n : Nat} (h : RV w N x s p n) :
    Calls Tryz.prog 33 #[.agg #[.bool s, .slice p n n]] w fun e w' => e = .returned (.int .i64 (isgn x)) ∧ Below w.heap.size w w' := by
  obtain ⟨ds, h1, rfl, h3⟩ := h
  exact rSign_any s p n n ds w h1.u h1.nrm
theorem keep2s {w1 w2 : World} {a g : Nat} {a0 a1 u v x y : Value} (k : w1.cell? ⟨a, 0, none⟩ = some a0 ∧ w1.cell? ⟨a, 1, none⟩ = some a1) (hb : Below w1.heap.size w1 w2) (na : Hid (a ≠ g)) :
    ((((w2.setCell ⟨g, 0, none⟩ u).setCell ⟨g, 1, none⟩ v).setCell ⟨g, 2, none⟩ x).setCell ⟨g, 3, none⟩ y).cell? ⟨a, 0, none⟩ = some a0 ∧ ((((w2.setCell ⟨g, 0, none⟩ u).setCell ⟨g, 1, none⟩ v).setCell ⟨g, 2, none⟩ x).setCell ⟨g, 3, none⟩ y).cell? ⟨a, 1, none⟩ = some a1 :=
  ⟨cell_s4 (cell_later hb k.1) na, cell_s4 (cell_later hb k.2) na⟩
/-- What Int answers: its first part is in memory that was there. -/
def IP (z : Int) (K : Nat) (s : Bool) (p : Option Addr) (n : Nat) (w : World) (e : Ending) (w' : World) : Prop :=
  ∃ t q m, e = .returned (.agg #[.bool s, .slice p n n, .bool t, .slice q m m]) ∧ MQ w' K s p n t q m (z : Rat) ∧ Go.Proofs.YtongkalfdgleaaaGreatDoor.From w.heap.size q ∧ Below w.heap.size w w'
set_option maxRecDepth 100000 in
set_option maxHeartbeats 4000000 in
/-- ashlarref2.Int. -/
theorem rInt_q {w : World} {K : Nat} {z : Int} {s : Bool} {p : Option Addr} {n : Nat} (h : RV w (2 * K) z s p n) (hK : 2 ≤ K) :
    Calls Tryz.prog 52 #[.agg #[.bool s, .slice p n n]] w (IP z K s p n w) := by
  have o1 : Hid (0 < n → Off (w.heap.size + 1) p) := h.off (by omega)
  go_enter Tryz.func52, Tryz.ntmps52
  go_wp2_with fail
  have hA0 : Bx ((w.alloc (.cells #[.bool s, .slice p n n] 31)).alloc (.cells #[.bool false, .slice none 0 0, .bool false, .slice none 0 0] 33)) w.heap.size (.bool s) (.slice p n n) := (Bx.new _ _ _ rfl).alloc _
  have hR0 : Bq ((w.alloc (.cells #[.bool s, .slice p n n] 31)).alloc (.cells #[.bool false, .slice none 0 0, .bool false, .slice none 0 0] 33)) (w.heap.size + 1) (.bool false) (.slice none 0 0) (.bool false) (.slice none 0 0) := Bq.new _ _ _ _ _ (by simp)
  have hW : Below w.heap.size w ((w.alloc (.cells #[.bool s, .slice p n n] 31)).alloc (.cells #[.bool false, .slice none 0 0, .bool false, .slice none 0 0] 33)) := ((Below.refl _ _).alloc (Nat.le_refl _) _).alloc (by simp) _
  generalize (w.alloc (.cells #[.bool s, .slice p n n] 31)).alloc (.cells #[.bool false, .slice none 0 0, .bool false, .slice none 0 0] 33) = W at *
  have k := h.below hW
  have nA : Hid (w.heap.size ≠ w.heap.size + 1) := (by omega : w.heap.size ≠ w.heap.size + 1)
  have a0 := hA0.c0
  have a1 := hA0.c1
  go_region_held3 (fun w' => w'.cell? ⟨w.heap.size, 0, none⟩ = some (.bool s) ∧ w'.cell? ⟨w.heap.size, 1, none⟩ = some (.slice p n n)) (first | with_reducible exact ⟨a0, a1⟩ | with_reducible exact keepc2 ⟨a0, a1⟩ hV1 | with_reducible exact keep2s ⟨a0, a1⟩ hV1 nA | (simp [go_sem, *]; done))
    (first
      | (go_at_call 28; refine (rOf_v 1 _ (by decide) (by decide)).mono ?_; rintro e v1 ⟨s1, p1, n1, rfl, hr1, hF1, hv1⟩; have hV1 := undrew hv1; obtain ⟨r0, r1, r2, r3, f0, f1, f2, f3⟩ := hR0.later hV1))
  clear a0 a1
  go_wp2
  have sR := hR0.lt
  refine bodyPost_ret (v := .agg #[.bool s, .slice p n n, .bool s1, .slice p1 n1 n1]) (by simp [results, Tryz.results52, go_sem, r0, r1, r2, r3]) rfl ⟨s1, p1, n1, rfl, ⟨?_, ?_⟩, fun a ha => Nat.le_trans hW.size (hF1 a ha), ?_⟩
  · exact (k.below hV1).set4 o1.out _ _ _ _
  · exact (hr1.up (by omega)).set4 (fun _ => off_from hF1 sR) _ _ _ _
  · exact bset4 (bnext' hW hV1) (by omega) _ _ _ _
set_option maxRecDepth 100000 in
set_option maxHeartbeats 4000000 in
/-- ashlarref2.Of. -/
theorem rOf_q (z : Int) (w : World) (h0 : -9223372036854775808 ≤ z) (h1 : z ≤ 9223372036854775807) :
    Calls Tryz.prog 22 #[.int .i64 z] w (MP (z : Rat) 2 w) := by
  go_enter Tryz.func22, Tryz.ntmps22
  go_wp2_with fail
  have hR0 : Bq (w.alloc (.cells #[.bool false, .slice none 0 0, .bool false, .slice none 0 0] 33)) w.heap.size (.bool false) (.slice none 0 0) (.bool false) (.slice none 0 0) := Bq.new _ _ _ _ _ rfl
  have hW : Below w.heap.size w (w.alloc (.cells #[.bool false, .slice none 0 0, .bool false, .slice none 0 0] 33)) := (Below.refl _ _).alloc (Nat.le_refl _) _
  generalize w.alloc (.cells #[.bool false, .slice none 0 0, .bool false, .slice none 0 0] 33) = W at *
  refine (rOf_v z _ h0 h1).mono ?_
  rintro e w1 ⟨s1, p1, n1, rfl, hr1, hF1, hb1⟩
  go_wp2_with fail
  refine (rInt_q (K := 2) hr1 (by decide)).mono ?_
  rintro e w2 ⟨t2, q2, m2, rfl, hm2, hF2, hb2⟩
  have hV := bnext' hb1 hb2
  obtain ⟨r0, r1, r2, r3, f0, f1, f2, f3⟩ := hR0.later hV
  have s1' := hb1.size
  go_wp2
  refine bodyPost_ret (v := .agg #[.bool s1, .slice p1 n1 n1, .bool t2, .slice q2 m2 m2]) (by simp [results, Tryz.results22, go_sem, r0, r1, r2, r3]) rfl ?_
  exact end_mp hW (by omega) hR0.lt hV hm2 hF1 (fun a ha => Nat.le_trans s1' (hF2 a ha))
set_option maxRecDepth 100000 in
set_option maxHeartbeats 4000000 in
/-- ashlarref2.Sign. -/
theorem rSign_q {w : World} {K : Nat} {s t : Bool} {p q : Option Addr} {n m : Nat} {r : Rat} (h : MQ w K s p n t q m r) :
    Calls Tryz.prog 23 #[.agg #[.bool s, .slice p n n, .bool t, .slice q m m]] w fun e w' => e = .returned (.int .i64 (isgn r.num)) ∧ Below w.heap.size w w' := by
  go_enter Tryz.func23, Tryz.ntmps23
  go_wp2_with fail
  have hW : Below w.heap.size w (w.alloc (.cells #[.bool s, .slice p n n, .bool t, .slice q m m] 33)) := (Below.refl _ _).alloc (Nat.le_refl _) _
  generalize w.alloc (.cells #[.bool s, .slice p n n, .bool t, .slice q m m] 33) = W at *
  refine (rSign_v (h.below hW).num).mono ?_
  rintro e w1 ⟨rfl, hb1⟩
  go_wp2
  go_ret
  exact ⟨rfl, bnext' hW hb1⟩
theorem icmp_zero (d : Nat) : (icmp (d : Int) 1 == 0) = decide (d = 1) := by
  unfold icmp
  rcases Nat.lt_trichotomy d 1 with h | h | h
  · rw [if_pos (by omega)]; simp; omega
  · subst h; rfl
  · rw [if_neg (by omega), if_pos (by omega)]; simp; omega
set_option maxRecDepth 100000 in
set_option maxHeartbeats 4000000 in
/-- ashlarref2.whole. -/
theorem rwhole_q {w : World} {K : Nat} {s t : Bool} {p q : Option Addr} {n m : Nat} {r : Rat} (h : MQ w K s p n t q m r) :
    Calls Tryz.prog 60 #[.agg #[.bool s, .slice p n n, .bool t, .slice q m m]] w fun e w' => e = .returned (.bool (decide (r.den = 1))) ∧ Below w.heap.size w w' := by
  have hz : Hid ((icmp (r.den : Int) 1 == 0) = decide (r.den = 1)) := icmp_zero r.den
  go_enter Tryz.func60, Tryz.ntmps60
  go_wp2_with fail
  have hA0 : Bq (w.alloc (.cells #[.bool s, .slice p n n, .bool t, .slice q m m] 33)) w.heap.size (.bool s) (.slice p n n) (.bool t) (.slice q m m) := Bq.new _ _ _ _ _ rfl
  have hW : Below w.heap.size w (w.alloc (.cells #[.bool s, .slice p n n, .bool t, .slice q m m] 33)) := (Below.refl _ _).alloc (Nat.le_refl _) _
  generalize w.alloc (.cells #[.bool s, .slice p n n, .bool t, .slice q m m] 33) = W at *
  have k := h.below hW
  obtain ⟨a0, a1, a2, a3, -, -, -, -⟩ := hA0
  go_region_held3 (fun w' => w'.cell? ⟨w.heap.size, 0, none⟩ = some (.bool s) ∧ w'.cell? ⟨w.heap.size, 1, none⟩ = some (.slice p n n) ∧ w'.cell? ⟨w.heap.size, 2, none⟩ = some (.bool t) ∧ w'.cell? ⟨w.heap.size, 3, none⟩ = some (.slice q m m)) (first | with_reducible exact ⟨a0, a1, a2, a3⟩ | with_reducible exact keepc4 ⟨a0, a1, a2, a3⟩ hV1 | with_reducible exact keepc4 ⟨a0, a1, a2, a3⟩ hV2 | (simp [go_sem, *]; done))
    (first
      | (go_at_call 28; refine (rOf_v 1 _ (by decide) (by decide)).mono ?_; rintro e v1 ⟨s1, p1, n1, rfl, hr1, hF1, hv1⟩; have hV1 := undrew hv1)
      | (go_at_call 49; refine (rCmp_v (k.den.below hV1) hr1).mono ?_; rintro e v2 ⟨rfl, hv2⟩; have hV2 := bnext' hV1 hv2))
  clear a0 a1 a2 a3
  go_wp2
  go_ret
  exact ⟨by rw [hz.out]; rfl, bnext' hW hV2⟩
set_option maxRecDepth 100000 in
set_option maxHeartbeats 4000000 in
/-- ashlarref2.Whole. -/
theorem rWhole_q {w : World} {K : Nat} {s t : Bool} {p q : Option Addr} {n m : Nat} {r : Rat} (h : MQ w K s p n t q m r) :
    Calls Tryz.prog 31 #[.agg #[.bool s, .slice p n n, .bool t, .slice q m m]] w fun e w' => e = .returned (.bool (decide (r.den = 1))) ∧ Below w.heap.size w w' := by
  go_enter Tryz.func31, Tryz.ntmps31
  go_wp2_with fail
  have hW : Below w.heap.size w (w.alloc (.cells #[.bool s, .slice p n n, .bool t, .slice q m m] 33)) := (Below.refl _ _).alloc (Nat.le_refl _) _
  generalize w.alloc (.cells #[.bool s, .slice p n n, .bool t, .slice q m m] 33) = W at *
  refine (rwhole_q (h.below hW)).mono ?_
  rintro e w1 ⟨rfl, hb1⟩
  go_wp2
  go_ret
  exact ⟨rfl, bnext' hW hb1⟩
end Go.Proofs.YtongkalfdgleaaaGreatDoor
/-
  ashlarref2.Text.
-/
namespace Go.Proofs.YtongkalfdgleaaaGreatDoor
open Go.RowKit
set_option linter.unusedVariables false
set_option linter.unusedSimpArgs false

theorem rn_tx {w : World} {s : Bool} {p : Option Addr} {n : Nat} {ds : List Int} {l : List UInt8} (h : RN w s p n ds) (ht : Tx s (vd ds) l) : l = itx (rval s ds) := by
  have h0 := vd_nonneg h.u
  refine itx_of ?_
  have e : ((rval s ds).natAbs : Int) = vd ds := by unfold rval; split <;> omega
  unfold ITx
  rw [e]
  rcases ht with ⟨h1, h2⟩ | ⟨h1, h2⟩
  · exact .inl ⟨h1, h2⟩
  · have e2 : decide (rval s ds < 0) = s := by
      unfold rval
      cases s <;> simp <;> omega
    rw [e2]
    exact .inr ⟨h1, h2⟩
theorem rText_v {w : World} {N : Nat} {z : Int} {s : Bool} {p : Option Addr} {n : Nat} (h : RV w N z s p n) (hN : N ≤ 1000) :
    Calls Tryz.prog 66 #[.agg #[.bool s, .slice p n n]] w fun e w' => e = .returned (.string ⟨(itx z).toArray⟩) ∧ Below w.heap.size w w' := by
  obtain ⟨ds, h1, rfl, h3⟩ := h
  refine (rText_any s p n ds w h1 (by omega)).mono ?_
  rintro e w' ⟨l, rfl, ht, hb⟩
  rw [rn_tx h1 ht]
  exact ⟨rfl, hb⟩
set_option maxRecDepth 100000 in
set_option maxHeartbeats 4000000 in
/-- ashlarref2.Text. -/
theorem rText_q {w : World} {K : Nat} {s t : Bool} {p q : Option Addr} {n m : Nat} {r : Rat} (h : MQ w K s p n t q m r) (hK : K ≤ 400) :
    Calls Tryz.prog 37 #[.agg #[.bool s, .slice p n n, .bool t, .slice q m m]] w fun e w' => e = .returned (.string ⟨(rtx r).toArray⟩) ∧ Below w.heap.size w w' := by
  have l1 := itx_len h.sz.1
  have l2 := itx_len h.sz.2
  have HT : Hid (tjoin r.den ⟨(itx r.num).toArray⟩ ⟨(itx r.den).toArray⟩ = ⟨(rtx r).toArray⟩) := tjoin_rtx r
  generalize hx : itx r.num = x at *
  generalize hy : itx r.den = y at *
  have HX := (show Hid _ from hx)
  have HY := (show Hid _ from hy)
  have hxI : (x.length : Int) ≤ 4002 := by omega
  have hyI : (y.length : Int) ≤ 4002 := by omega
  clear hx hy
  go_enter Tryz.func37, Tryz.ntmps37
  go_wp2_with fail
  have hA0 : Bq (w.alloc (.cells #[.bool s, .slice p n n, .bool t, .slice q m m] 33)) w.heap.size (.bool s) (.slice p n n) (.bool t) (.slice q m m) := Bq.new _ _ _ _ _ rfl
  have hW : Below w.heap.size w (w.alloc (.cells #[.bool s, .slice p n n, .bool t, .slice q m m] 33)) := (Below.refl _ _).alloc (Nat.le_refl _) _
  generalize w.alloc (.cells #[.bool s, .slice p n n, .bool t, .slice q m m] 33) = W at *
  have k := h.below hW
  have ht := rText_v k.num (by omega)
  rw [HX.out] at ht
  refine ht.mono ?_
  rintro e w1 ⟨rfl, hb1⟩
  have hA1 := hA0.later hb1
  have k1 := k.below hb1
  have hW1 := bnext' hW hb1
  clear ht hA0 k hW hb1
  have a0 := hA1.c0
  have a1 := hA1.c1
  have a2 := hA1.c2
  have a3 := hA1.c3
  go_wp2_with fail
  have hc : Hid (r.den = 1 ∨ ¬ r.den = 1) := Classical.em _
  have hwh := rwhole_q k1
  rcases hc.out with hd | hd
  · rw [decide_eq_true hd] at hwh
    have HD := (show Hid _ from hd)
    clear hd hc
    refine hwh.mono ?_
    rintro e w2 ⟨rfl, hb2⟩
    clear hwh
    go_wp2
    go_ret
    refine ⟨?_, bnext' hW1 hb2⟩
    have := HT.out
    rw [tjoin, if_pos HD.out] at this
    rw [← this]
    rfl
  · rw [decide_eq_false hd] at hwh
    have HD := (show Hid _ from hd)
    clear hd hc
    refine hwh.mono ?_
    rintro e w2 ⟨rfl, hb2⟩
    have k2 := k1.below hb2
    have hA2 := hA1.later hb2
    clear hwh a0 a1 a2 a3
    obtain ⟨a0, a1, a2, a3, -, -, -, -⟩ := hA2
    go_wp2_with fail
    have ht := rText_v k2.den (by omega)
    rw [HY.out] at ht
    refine ht.mono ?_
    rintro e w3 ⟨rfl, hb3⟩
    clear ht a0 a1 a2 a3
    go_wp2
    go_ret
    refine ⟨?_, bnext' hW1 (bnext' hb2 hb3)⟩
    have := HT.out
    rw [tjoin, if_neg HD.out] at this
    rw [← this]
    rfl
end Go.Proofs.YtongkalfdgleaaaGreatDoor
