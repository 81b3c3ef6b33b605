/-
  ashlarref1.Is.
-/
import Derived.Test.YtongkalfdgleaaaGreatDoorRbRf
import Derived.Test.YtongkalfdgleaaaGreatDoorRhCyCz
import Derived.Test.YtongkalfdgleaaaGreatDoorYd
import Derived.Test.YtongkalfdgleaaaGreatDoorZpTaTbTcRg
import Derived.Test.YtongkalfdgleaaaGreatDoorRvRwTe
namespace Go.Proofs.YtongkalfdgleaaaGreatDoor
open Go.RowKit
set_option linter.unusedVariables false
set_option linter.unusedSimpArgs false

set_option maxRecDepth 100000 in
set_option maxHeartbeats 1000000 in
/-- ashlarref1.Is: an answer is this number. -/
theorem rIs_any {B : Nat} {w : World} {s t : Bool} {p q : Option Addr} {n m mc : Nat} {xs ds : List Int} {z : Int} (h : NI B w s p n xs z) (hn : n ≤ 1000) (hl : ds.length = m) (hm : m ≤ 1000) (hX : Rd w q .i64 ds) (hU : U16 ds) (hnr : tlen ds = m) (hs : m = 0 → t = false) (hv : rval t ds = z) :
    Calls Tryz.prog 32 #[.agg #[.bool s, .slice p n n], .agg #[.bool t, .slice q m mc]] w fun e w' => e = .returned (.bool true) ∧ Below w.heap.size w w' := by
  go_enter Tryz.func32, Tryz.ntmps32
  go_wp2_with fail
  have hX2 := boxes2 w (.bool s) (.slice p n n) (.bool t) (.slice q m mc) 24 31
  generalize ((w.alloc (Obj.cells #[Value.bool s, Value.slice p n n] 24)).alloc (Obj.cells #[Value.bool t, Value.slice q m mc] 31)) = W at *
  have k0 := hX2.ca0
  have k1 := hX2.ca1
  have k2 := hX2.cb0
  have k3 := hX2.cb1
  go_region_held3 (fun w' => w'.cell? ⟨w.heap.size, 0, none⟩ = some (.bool s) ∧ w'.cell? ⟨w.heap.size, 1, none⟩ = some (.slice p n n) ∧ w'.cell? ⟨w.heap.size + 1, 0, none⟩ = some (.bool t) ∧ w'.cell? ⟨w.heap.size + 1, 1, none⟩ = some (.slice q m mc)) (first | exact ⟨by assumption, by assumption, by assumption, by assumption⟩ | exact keepc4 (by assumption) (by assumption))
    (first
      | (go_at_call 62; refine (rTo_any t q m mc ds _ hl hm (hX.below hX2.below).drew hU).mono ?_; rintro e w1 ⟨p', m', cap, rfl, hA1, hm', hb1⟩)
      | (go_at_call 61; have h1 := h.below (bnext' hX2.below (undrew hb1)); have h2 : NN t (jn ds m') z := nn_jn hU (by omega) (fun e => hs (by omega)) hv (by have := hm'.out; omega); refine (rEq_nn h1 hA1 h2 hn).mono ?_; rintro e w2 ⟨rfl, hb2⟩))
  go_wp2
  go_ret
  exact ⟨rfl, bnext' (bnext' hX2.below (undrew hb1)) hb2⟩
end Go.Proofs.YtongkalfdgleaaaGreatDoor
/-
  ashlarref1.Is of what is known.
-/
namespace Go.Proofs.YtongkalfdgleaaaGreatDoor
open Go.RowKit
set_option linter.unusedVariables false
set_option linter.unusedSimpArgs false

/-- ashlarref1.Is of what is known. -/
theorem rIs_rn {B : Nat} {w : World} {s t : Bool} {p q : Option Addr} {n m : Nat} {xs ds : List Int} {z : Int} (h : NI B w s p n xs z) (hn : n ≤ 1000) (k : RN w t q m ds) (hm : m ≤ 1000) (hv : rval t ds = z) :
    Calls Tryz.prog 32 #[.agg #[.bool s, .slice p n n], .agg #[.bool t, .slice q m m]] w fun e w' => e = .returned (.bool true) ∧ Below w.heap.size w w' :=
  rIs_any h hn k.len hm k.rd k.u k.nrm k.sg hv
end Go.Proofs.YtongkalfdgleaaaGreatDoor
/-
  ashlarref2.From, Is.
-/
namespace Go.Proofs.YtongkalfdgleaaaGreatDoor
open Go.RowKit
set_option linter.unusedVariables false
set_option linter.unusedSimpArgs false

theorem rFrom_v {w : World} {K : Nat} {s : Bool} {p : Option Addr} {n nc : Nat} {xs : List Int} (h : AI w p n nc xs) (hn : n ≤ K) :
    Calls Tryz.prog 29 #[.agg #[.bool s, .slice p n nc]] w (RVP (2 * K) (ival s xs) w) := by
  refine (From_ansF s p n nc xs w h).mono ?_
  rintro e w' ⟨s', p', n', ds', g1, g2, g3, g4, g5, g6⟩
  exact ⟨s', p', n', g1, ⟨ds', g2, g3, by omega⟩, g5, g6⟩
theorem rIs_v {B N : Nat} {w : World} {s t : Bool} {p q : Option Addr} {n m : Nat} {xs : List Int} {z : Int} (h : NI B w s p n xs z) (hn : n ≤ 1000) (k : RV w N z t q m) (hm : N ≤ 1000) :
    Calls Tryz.prog 32 #[.agg #[.bool s, .slice p n n], .agg #[.bool t, .slice q m m]] w fun e w' => e = .returned (.bool true) ∧ Below w.heap.size w w' := by
  obtain ⟨es, k1, k2, k3⟩ := k
  exact rIs_rn h hn k1 (by omega) k2
set_option maxRecDepth 100000 in
set_option maxHeartbeats 4000000 in
/-- ashlarref2.From. -/
theorem rFrom_q {w : World} {K : Nat} {s t : Bool} {p q : Option Addr} {n nc m mc : Nat} {r : Rat} (h : AQ w K s p n nc t q m mc r) (hK : 1 ≤ K) (hK' : K ≤ 400) :
    Calls Tryz.prog 8 #[.agg #[.bool s, .slice p n nc, .bool t, .slice q m mc]] w (MP r K w) := by
  have hs : Hid (Sz r K) := h.sz hK
  obtain ⟨xs, ys, h1, h2, h3, h4, hr⟩ := h
  have hval : Hid (Rat.divInt (ival s xs) (ival t ys) = r) := hr
  clear hr
  go_enter Tryz.func8, Tryz.ntmps8
  go_wp2_with fail
  have hA0 : Bq ((w.alloc (.cells #[.bool s, .slice p n nc, .bool t, .slice q m mc] 26)).alloc (.cells #[.bool false, .slice none 0 0, .bool false, .slice none 0 0] 33)) w.heap.size (.bool s) (.slice p n nc) (.bool t) (.slice q m mc) := (Bq.new _ _ _ _ _ rfl).alloc _
  have hR0 : Bq ((w.alloc (.cells #[.bool s, .slice p n nc, .bool t, .slice q m mc] 26)).alloc (.cells #[.bool false, .slice none 0 0, .bool false, .slice none 0 0] 33)) (w.heap.size + 1) (.bool false) (.slice none 0 0) (.bool false) (.slice none 0 0) := Bq.new _ _ _ _ _ (by simp)
  have hW : Below w.heap.size w ((w.alloc (.cells #[.bool s, .slice p n nc, .bool t, .slice q m mc] 26)).alloc (.cells #[.bool false, .slice none 0 0, .bool false, .slice none 0 0] 33)) := ((Below.refl _ _).alloc (Nat.le_refl _) _).alloc (by simp) _
  generalize (w.alloc (.cells #[.bool s, .slice p n nc, .bool t, .slice q m mc] 26)).alloc (.cells #[.bool false, .slice none 0 0, .bool false, .slice none 0 0] 33) = W at *
  have k1 := h1.below hW
  have k2 := h2.below hW
  have nA : Hid (w.heap.size ≠ w.heap.size + 1) := (by omega : w.heap.size ≠ w.heap.size + 1)
  obtain ⟨a0, a1, a2, a3, -, -, -, -⟩ := hA0
  go_region_held3 (fun w' => w'.cell? ⟨w.heap.size, 0, none⟩ = some (.bool s) ∧ w'.cell? ⟨w.heap.size, 1, none⟩ = some (.slice p n nc) ∧ w'.cell? ⟨w.heap.size, 2, none⟩ = some (.bool t) ∧ w'.cell? ⟨w.heap.size, 3, none⟩ = some (.slice q m mc)) (first | with_reducible exact ⟨a0, a1, a2, a3⟩ | with_reducible exact keepc4 ⟨a0, a1, a2, a3⟩ hV1 | with_reducible exact keepc4 ⟨a0, a1, a2, a3⟩ hV2 | with_reducible exact keepc4 ⟨a0, a1, a2, a3⟩ hV3 | with_reducible exact keep4s ⟨a0, a1, a2, a3⟩ hV3 nA | (simp [go_sem, *]; done))
    (first
      | (go_at_call_of 29 (Value.agg #[.bool s, .slice p n nc]); refine (rFrom_v (K := K) k1.drew h3).mono ?_; rintro e v1 ⟨s1, p1, n1, rfl, hr1, hF1, hv1⟩; have hV1 := undrew hv1)
      | (go_at_call_of 29 (Value.agg #[.bool t, .slice q m mc]); refine (rFrom_v (K := K) (k2.below hV1) h4).mono ?_; rintro e v2 ⟨s2, p2, n2, rfl, hr2, hF2, hv2⟩; have hV2 := bnext' hV1 hv2)
      | (go_at_call 27; refine (Make_v (K := K) (hr1.below hv2) hr2 (by omega) (by omega) (by rw [hval.out]; exact hs.out)).mono ?_; rintro e v3 ⟨s3, p3, n3, t3, q3, m3, rfl, hm, hF3, hF3', hv3⟩; have hV3 := bnext' hV2 hv3; rw [hval.out] at hm; obtain ⟨r0, r1, r2, r3, f0, f1, f2, f3⟩ := hR0.later hV3))
  clear a0 a1 a2 a3
  go_wp2
  refine bodyPost_ret (v := .agg #[.bool s3, .slice p3 n3 n3, .bool t3, .slice q3 m3 m3]) (by simp [results, Tryz.results8, go_sem, r0, r1, r2, r3]) rfl ?_
  have sV := hV2.size
  exact end_mp hW (by omega) hR0.lt hV3 hm (fun a ha => Nat.le_trans sV (hF3 a ha)) (fun a ha => Nat.le_trans sV (hF3' a ha))
set_option maxRecDepth 100000 in
set_option maxHeartbeats 4000000 in
/-- ashlarref2.Is of an answer that is right. -/
theorem rIs_q {B : Nat} {w : World} {K L : Nat} {s t s' t' : Bool} {p q p' q' : Option Addr} {n m n' m' : Nat} {r : Rat} (h : NQ B w K s p n t q m r) (k : MQ w L s' p' n' t' q' m' r) (hK : K ≤ 1000) (hL : L ≤ 400) :
    Calls Tryz.prog 9 #[.agg #[.bool s, .slice p n n, .bool t, .slice q m m], .agg #[.bool s', .slice p' n' n', .bool t', .slice q' m' m']] w fun e w' => e = .returned (.bool true) ∧ Below w.heap.size w w' := by
  obtain ⟨xs, ys, h1, h2, h3⟩ := h
  go_enter Tryz.func9, Tryz.ntmps9
  go_wp2_with fail
  have hA0 : Bq ((w.alloc (.cells #[.bool s, .slice p n n, .bool t, .slice q m m] 26)).alloc (.cells #[.bool s', .slice p' n' n', .bool t', .slice q' m' m'] 33)) w.heap.size (.bool s) (.slice p n n) (.bool t) (.slice q m m) := (Bq.new _ _ _ _ _ rfl).alloc _
  have hR0 : Bq ((w.alloc (.cells #[.bool s, .slice p n n, .bool t, .slice q m m] 26)).alloc (.cells #[.bool s', .slice p' n' n', .bool t', .slice q' m' m'] 33)) (w.heap.size + 1) (.bool s') (.slice p' n' n') (.bool t') (.slice q' m' m') := Bq.new _ _ _ _ _ (by simp)
  have hW : Below w.heap.size w ((w.alloc (.cells #[.bool s, .slice p n n, .bool t, .slice q m m] 26)).alloc (.cells #[.bool s', .slice p' n' n', .bool t', .slice q' m' m'] 33)) := ((Below.refl _ _).alloc (Nat.le_refl _) _).alloc (by simp) _
  generalize (w.alloc (.cells #[.bool s, .slice p n n, .bool t, .slice q m m] 26)).alloc (.cells #[.bool s', .slice p' n' n', .bool t', .slice q' m' m'] 33) = W at *
  have k1 := h1.below hW
  have k2 := k.below hW
  refine (rIs_v k1.num (by omega) k2.num (by omega)).mono ?_
  rintro e w1 ⟨rfl, hb1⟩
  have hA1 := hA0.later hb1
  have hR1 := hR0.later hb1
  have a2 := hA1.c2
  have a3 := hA1.c3
  have r2 := hR1.c2
  have r3 := hR1.c3
  go_wp2_with fail
  refine (rIs_v (k1.below hb1).den (by omega) (k2.below hb1).den (by omega)).mono ?_
  rintro e w2 ⟨rfl, hb2⟩
  clear a2 a3 r2 r3
  go_wp2
  go_ret
  exact ⟨rfl, bnext' hW (bnext' hb1 hb2)⟩
end Go.Proofs.YtongkalfdgleaaaGreatDoor
/-
  ashlarref1.Sign, Cmp.
-/
namespace Go.Proofs.YtongkalfdgleaaaGreatDoor
open Go.RowKit
set_option linter.unusedVariables false
set_option linter.unusedSimpArgs false

theorem icmp_same16 {s t : Bool} {xs ys : List Int} (hX : U16 xs) (hY : U16 ys) (h : isgn (rval s xs) = isgn (rval t ys)) : isgn (rval s xs) * icmp (vd xs) (vd ys) = icmp (rval s xs) (rval t ys) := by
  have h1 := vd_nonneg hX
  have h2 := vd_nonneg hY
  rcases isgn_cases (rval s xs) with ⟨a1, a2⟩ | ⟨a1, a2⟩ | ⟨a1, a2⟩ <;> rcases isgn_cases (rval t ys) with ⟨b1, b2⟩ | ⟨b1, b2⟩ | ⟨b1, b2⟩ <;> rw [a2, b2] at h <;> (try (exact absurd h (by decide))) <;> rw [a2]
  · rw [a1, b1, icmp_eq, Int.zero_mul]
  · have e1 : s = true := by cases s <;> simp_all [rval] <;> omega
    have e2 : t = true := by cases t <;> simp_all [rval] <;> omega
    subst e1 e2
    simp only [rval, if_true]
    rcases Int.lt_trichotomy (vd xs) (vd ys) with g | g | g
    · rw [icmp_lt g, icmp_gt (by omega)]; rfl
    · rw [g, icmp_eq, icmp_eq]; rfl
    · rw [icmp_gt g, icmp_lt (by omega)]; rfl
  · have e1 : s = false := by cases s <;> simp_all [rval] <;> omega
    have e2 : t = false := by cases t <;> simp_all [rval] <;> omega
    subst e1 e2
    simp only [rval, Bool.false_eq_true, if_false, Int.one_mul]

set_option maxHeartbeats 1000000 in
/-- ashlarref1.Cmp. -/
theorem rCmp_any (s t : Bool) (p q : Option Addr) (n nc m mc : Nat) (xs ys : List Int) (w : World) (hn : xs.length = n) (hm : ys.length = m) (hnb : n ≤ 1000000000) (hmb : m ≤ 1000000000) (tx : tlen xs = n) (ty : tlen ys = m)
    (hX : Rd w p .i64 xs) (hXu : U16 xs) (hY : Rd w q .i64 ys) (hYu : U16 ys) :
    Calls Tryz.prog 49 #[.agg #[.bool s, .slice p n nc], .agg #[.bool t, .slice q m mc]] w fun e w' => e = .returned (.int .i64 (icmp (rval s xs) (rval t ys))) ∧ Below w.heap.size w w' := by
  have hd : Hid (isgn (rval s xs) = isgn (rval t ys) ∨ isgn (rval s xs) ≠ isgn (rval t ys)) := Classical.em _
  have q1 : -1 ≤ isgn (rval s xs) ∧ isgn (rval s xs) ≤ 1 := by rcases isgn_cases (rval s xs) with h | h | h <;> omega
  have q2 : -1 ≤ icmp (vd xs) (vd ys) ∧ icmp (vd xs) (vd ys) ≤ 1 := by unfold icmp; split <;> (try split) <;> decide
  obtain ⟨q1, q1'⟩ := q1
  obtain ⟨q2, q2'⟩ := q2
  have HT : Hid (xs.length = n ∧ ys.length = m ∧ tlen xs = n ∧ tlen ys = m) := ⟨hn, hm, tx, ty⟩
  clear hn hm tx ty
  go_enter Tryz.func49, Tryz.ntmps49
  go_wp2_with fail
  have hX0 := boxes2 w (.bool s) (.slice p n nc) (.bool t) (.slice q m mc) 31 31
  generalize ((w.alloc (Obj.cells #[Value.bool s, Value.slice p n nc] 31)).alloc (Obj.cells #[Value.bool t, Value.slice q m mc] 31)) = W0 at *
  refine (rSign_any s p n nc xs _ hXu HT.out.2.2.1).mono ?_
  rintro e W1 ⟨rfl, hb0⟩
  have hX1 := hX0.later hb0
  clear hX0 hb0 W0
  have k0 := hX1.ca0
  have k1 := hX1.ca1
  have k2 := hX1.cb0
  have k3 := hX1.cb1
  go_wp2_with fail
  refine (rSign_any t q m mc ys _ hYu HT.out.2.2.2).mono ?_
  rintro e W ⟨rfl, hb0⟩
  have hX2 := hX1.later hb0
  clear hX1 hb0 k0 k1 k2 k3 W1
  have k0 := hX2.ca0
  have k1 := hX2.ca1
  have k2 := hX2.cb0
  have k3 := hX2.cb1
  rcases hd.out with h | h
  · have hne : (isgn (rval s xs) != isgn (rval t ys)) = false := by rw [h]; simp
    have H : Hid (isgn (rval s xs) = isgn (rval t ys)) := h
    clear h hd
    go_wp2_with fail
    obtain ⟨t1, t2, t3, t4⟩ := HT.out
    refine (rcmp_any p q n nc m mc xs ys _ t1 t2 hnb hmb t3 t4 (hX.below hX2.below) hXu (hY.below hX2.below) hYu).mono ?_
    rintro e w1 ⟨rfl, hb1⟩
    have hw : wrap64 (isgn (rval s xs) * icmp (vd xs) (vd ys)) = icmp (rval s xs) (rval t ys) := by
      rw [icmp_same16 hXu hYu H.out]
      unfold icmp; split <;> (try split) <;> simp [wrap64, IntKind.wrap, IntKind.bits, IntKind.signed]
    clear t1 t2 t3 t4
    go_wp2
    go_ret
    refine ⟨?_, hX2.below.trans (hb1.mono hX2.below.size)⟩
    first
      | exact ret_int hw
      | exact ret_int (icmp_same16 hXu hYu H.out)
      | rfl
  · have hne : (isgn (rval s xs) != isgn (rval t ys)) = true := by rw [bne_iff_ne]; exact h
    clear hd
    rcases Int.lt_or_lt_of_ne h with h1 | h1
    · have hi := icmp_lt h1
      rw [icmp_isgn h] at hi
      have HI : Hid (icmp (rval s xs) (rval t ys) = -1) := hi
      clear hi h
      go_wp2
      go_ret
      exact ⟨ret_int HI.out.symm, hX2.below⟩
    · have hi := icmp_gt h1
      rw [icmp_isgn h] at hi
      have HI : Hid (icmp (rval s xs) (rval t ys) = 1) := hi
      have h2 : ¬ isgn (rval s xs) < isgn (rval t ys) := by omega
      clear hi h
      go_wp2
      go_ret
      exact ⟨ret_int HI.out.symm, hX2.below⟩
/-- ashlarref1.Cmp of two that are known. -/
theorem rCmp_rn {w : World} {s t : Bool} {p q : Option Addr} {n m : Nat} {xs ys : List Int} (h : RN w s p n xs) (k : RN w t q m ys) :
    Calls Tryz.prog 49 #[.agg #[.bool s, .slice p n n], .agg #[.bool t, .slice q m m]] w fun e w' => e = .returned (.int .i64 (icmp (rval s xs) (rval t ys))) ∧ Below w.heap.size w w' :=
  rCmp_any s t p q n n m m xs ys w h.len k.len h.sml k.sml h.nrm k.nrm h.rd h.u k.rd k.u
end Go.Proofs.YtongkalfdgleaaaGreatDoor
/-
  ashlarref2.Cmp.
-/
namespace Go.Proofs.YtongkalfdgleaaaGreatDoor
open Go.RowKit
set_option linter.unusedVariables false
set_option linter.unusedSimpArgs false

theorem rCmp_v {w : World} {N M : Nat} {x y : Int} {s t : Bool} {p q : Option Addr} {n m : Nat} (h : RV w N x s p n) (k : RV w M y t q m) :
    Calls Tryz.prog 49 #[.agg #[.bool s, .slice p n n], .agg #[.bool t, .slice q m m]] w fun e w' => e = .returned (.int .i64 (icmp x y)) ∧ Below w.heap.size w w' := by
  obtain ⟨ds, h1, rfl, h3⟩ := h
  obtain ⟨es, k1, rfl, k3⟩ := k
  exact rCmp_rn h1 k1
set_option maxRecDepth 100000 in
set_option maxHeartbeats 4000000 in
/-- ashlarref2.Cmp. -/
theorem rCmp_q {w : World} {Ka Kb : Nat} {sa ta sb tb : Bool} {pa qa pb qb : Option Addr} {na ma nb mb : Nat} {ra rb : Rat} (ha : MQ w Ka sa pa na ta qa ma ra) (hb : MQ w Kb sb pb nb tb qb mb rb) (hKa : 1 ≤ Ka) (hKb : 1 ≤ Kb) (hK : Ka + Kb ≤ 240) :
    Calls Tryz.prog 18 #[.agg #[.bool sa, .slice pa na na, .bool ta, .slice qa ma ma], .agg #[.bool sb, .slice pb nb nb, .bool tb, .slice qb mb mb]] w fun e w' => e = .returned (.int .i64 (icmp (ra.num * rb.den) (rb.num * ra.den))) ∧ Below w.heap.size w w' := by
  go_enter Tryz.func18, Tryz.ntmps18
  go_wp2_with fail
  have hA0 : Bq (((w).alloc (.cells #[.bool sa, .slice pa na na, .bool ta, .slice qa ma ma] 33)).alloc (.cells #[.bool sb, .slice pb nb nb, .bool tb, .slice qb mb mb] 33)) w.heap.size (.bool sa) (.slice pa na na) (.bool ta) (.slice qa ma ma) := (Bq.new _ _ _ _ _ rfl).alloc _
  have hB0 : Bq (((w).alloc (.cells #[.bool sa, .slice pa na na, .bool ta, .slice qa ma ma] 33)).alloc (.cells #[.bool sb, .slice pb nb nb, .bool tb, .slice qb mb mb] 33)) (w.heap.size + 1) (.bool sb) (.slice pb nb nb) (.bool tb) (.slice qb mb mb) := Bq.new _ _ _ _ _ (by simp)
  have hW : Below w.heap.size w (((w).alloc (.cells #[.bool sa, .slice pa na na, .bool ta, .slice qa ma ma] 33)).alloc (.cells #[.bool sb, .slice pb nb nb, .bool tb, .slice qb mb mb] 33)) := ((Below.refl _ _).alloc (Nat.le_refl _) _).alloc (by simp) _
  generalize ((w).alloc (.cells #[.bool sa, .slice pa na na, .bool ta, .slice qa ma ma] 33)).alloc (.cells #[.bool sb, .slice pb nb nb, .bool tb, .slice qb mb mb] 33) = W at *
  have hqa := ha.below hW
  have hqb := hb.below hW
  have nA : Hid (w.heap.size ≠ w.heap.size + 1 + 1) := (by omega : w.heap.size ≠ w.heap.size + 1 + 1)
  have nB : Hid (w.heap.size + 1 ≠ w.heap.size + 1 + 1) := (by omega : w.heap.size + 1 ≠ w.heap.size + 1 + 1)
  have a0 := hA0.c0
  have a1 := hA0.c1
  have a2 := hA0.c2
  have a3 := hA0.c3
  have b0 := hB0.c0
  have b1 := hB0.c1
  have b2 := hB0.c2
  have b3 := hB0.c3
  go_region_held3 (fun w' => w'.cell? ⟨w.heap.size, 0, none⟩ = some (.bool sa) ∧ w'.cell? ⟨w.heap.size, 1, none⟩ = some (.slice pa na na) ∧ w'.cell? ⟨w.heap.size, 2, none⟩ = some (.bool ta) ∧ w'.cell? ⟨w.heap.size, 3, none⟩ = some (.slice qa ma ma) ∧ w'.cell? ⟨w.heap.size + 1, 0, none⟩ = some (.bool sb) ∧ w'.cell? ⟨w.heap.size + 1, 1, none⟩ = some (.slice pb nb nb) ∧ w'.cell? ⟨w.heap.size + 1, 2, none⟩ = some (.bool tb) ∧ w'.cell? ⟨w.heap.size + 1, 3, none⟩ = some (.slice qb mb mb)) (first | with_reducible exact ⟨a0, a1, a2, a3, b0, b1, b2, b3⟩ | with_reducible exact keepq ⟨a0, a1, a2, a3, b0, b1, b2, b3⟩ hV1 | with_reducible exact keepq ⟨a0, a1, a2, a3, b0, b1, b2, b3⟩ hV2 | with_reducible exact keepq ⟨a0, a1, a2, a3, b0, b1, b2, b3⟩ hV3 | with_reducible exact keep8s ⟨a0, a1, a2, a3, b0, b1, b2, b3⟩ hV3 nA nB | (simp [go_sem, *]; done))
    (first
      | (go_at_call_of 41 (Value.agg #[.bool sa, .slice pa na na]); go_at_call_of 41 (Value.agg #[.bool tb, .slice qb mb mb]); refine (rMul_v hqa.num.drew hqb.den.drew (by omega) (by omega)).mono ?_; rintro e v1 ⟨s1, p1, n1, rfl, hr1, hF1, hv1⟩; have hV1 := undrew hv1)
      | (go_at_call_of 41 (Value.agg #[.bool sb, .slice pb nb nb]); go_at_call_of 41 (Value.agg #[.bool ta, .slice qa ma ma]); refine (rMul_v (hqb.num.below hV1) (hqa.den.below hV1) (by omega) (by omega)).mono ?_; rintro e v2 ⟨s2, p2, n2, rfl, hr2, hF2, hv2⟩; have hV2 := bnext' hV1 hv2)
      | (go_at_call 49; refine (rCmp_v (hr1.below hv2) hr2).mono ?_; rintro e v3 ⟨rfl, hv3⟩; have hV3 := bnext' hV2 hv3))
  clear a0 a1 a2 a3 b0 b1 b2 b3
  go_wp2
  go_ret
  exact ⟨rfl, bnext' hW hV3⟩
end Go.Proofs.YtongkalfdgleaaaGreatDoor
