/-
  ashlarref1.Add.
-/
import Derived.Test.YtinkkfkepjgahaaDoorRj
import Derived.Test.YtinkkfkepjgahaaDoorTbTcRg
namespace Go.Proofs.YtinkkfkepjgahaaDoor
open Go.RowKit
set_option linter.unusedVariables false
set_option linter.unusedSimpArgs false

/-- The end of a function that answers trim(neg, d), d what a callee has answered. -/
theorem end_rn2 {w W w1 w2 : World} {r N : Nat} {neg : Bool} {q : Option Addr} {D : List Int} {z : Int} {u v : Value} (hbw : Below w.heap.size w W) (hr : w.heap.size ≤ r) (hr' : r < W.heap.size) (hb1 : Below W.heap.size W w1) (hb2 : Below w1.heap.size w1 w2)
    (hq3 : Rd w1 q .i64 D) (hq4 : Go.Proofs.YtinkkfkepjgahaaDoor.From W.heap.size q) (hU : U16 D) (hl : D.length ≤ N) (hN : N ≤ 1000000000) (hv : rval neg D = z) :
    RAns N z w (.returned (.agg #[.bool (nsg neg D), .slice q (tlen D) (tlen D)])) ((w2.setCell ⟨r, 0, none⟩ u).setCell ⟨r, 1, none⟩ v) :=
  end_rn hbw hr hr' hb1 hb2 hq3 hq4 hU (by have := tlen_le D; omega) hv (by have := tlen_le D; omega)

theorem rval_not (s : Bool) (xs : List Int) : rval (!s) xs = - rval s xs := by cases s <;> simp [rval]

set_option maxRecDepth 100000 in
set_option maxHeartbeats 1000000 in
/-- ashlarref1.Add: the signs are the same. -/
theorem rAdd_same (s : Bool) (p q : Option Addr) (n nc m mc : Nat) (xs ys : List Int) (w : World) (hn : xs.length = n) (hm : ys.length = m) (hnb : n ≤ 1000000) (hmb : m ≤ 1000000) (hX : Rd w p .i64 xs) (hXu : U16 xs) (hY : Rd w q .i64 ys) (hYu : U16 ys) :
    Calls Tryd.prog 46 #[.agg #[.bool s, .slice p n nc], .agg #[.bool s, .slice q m mc]] w (RAns (n + m + 1) (rval s xs + rval s ys) w) := by
  have hss : (s == s) = true := by simp
  have HN : Hid (xs.length = n ∧ ys.length = m) := ⟨hn, hm⟩
  clear hn hm
  go_enter Tryd.func46, Tryd.ntmps46
  go_wp2_with fail
  have hX3 := boxes3' w (.bool s) (.slice p n nc) (.bool s) (.slice q m mc) (.bool false) (.slice none 0 0) 29 29 29
  generalize ((w.alloc (Obj.cells #[Value.bool s, Value.slice p n nc] 29)).alloc (Obj.cells #[Value.bool s, Value.slice q m mc] 29)).alloc (Obj.cells #[Value.bool false, Value.slice none 0 0] 29) = W at *
  have hXW := hX.below hX3.below
  have hYW := hY.below hX3.below
  have k0 := hX3.ca0
  have k1 := hX3.ca1
  have k2 := hX3.cb0
  have k3 := hX3.cb1
  go_region_held3 (fun w' => w'.cell? ⟨w.heap.size, 0, none⟩ = some (.bool s) ∧ w'.cell? ⟨w.heap.size, 1, none⟩ = some (.slice p n nc) ∧ w'.cell? ⟨w.heap.size + 1, 0, none⟩ = some (.bool s) ∧ w'.cell? ⟨w.heap.size + 1, 1, none⟩ = some (.slice q m mc)) (first | exact ⟨by assumption, by assumption, by assumption, by assumption⟩ | exact keepc4 (by assumption) (by assumption) | (simp [go_sem, *]; done))
    (first
      | (go_at_call 68; obtain ⟨hn, hm⟩ := HN.out; refine (radd_any p q n nc m mc xs ys _ hn hm hnb hmb hXW.drew hXu hYW.drew hYu).mono ?_; clear hn hm; rintro e w1 ⟨q1, n1, c1, D, rfl, hl1, hc1, hc2, hR1, hU1, hv1, hn1, hF1, hb1⟩; have HV1 : Hid (D.length = n1 ∧ vd D = vd xs + vd ys) := ⟨hl1, hv1⟩; clear hl1 hv1)
      | (go_at_call 20; refine (rtrim_any s q1 n1 c1 D _ HV1.out.1 hc1 hc2 hR1).mono ?_; rintro e w2 ⟨rfl, hb2⟩; obtain ⟨c0', c1', f0, f1⟩ := resbox (bnext' (undrew hb1) hb2) hX3.cr0 hX3.cr1 hX3.fr0 hX3.fr1))
  go_wp2
  have hsz := hX3.size
  refine bodyPost_ret (v := .agg #[.bool (nsg s D), .slice q1 (tlen D) (tlen D)]) (by simp [results, Tryd.results46, go_sem, c0', c1']) rfl ?_
  exact end_rn2 hX3.below (r := w.heap.size + 1 + 1) (by omega) (by omega) (undrew hb1) hb2 hR1 hF1 hU1 (by have := HV1.out.1; omega) (by omega) (by rw [rval, HV1.out.2, rval, rval]; cases s <;> simp <;> omega)

set_option maxRecDepth 100000 in
set_option maxHeartbeats 1000000 in
/-- ashlarref1.Add: the signs differ, the first is not below the second. -/
theorem rAdd_ge (s : Bool) (p q : Option Addr) (n nc m mc : Nat) (xs ys : List Int) (w : World) (hn : xs.length = n) (hm : ys.length = m) (hnb : n ≤ 1000000) (hmb : m ≤ 1000000) (tx : tlen xs = n) (ty : tlen ys = m) (hX : Rd w p .i64 xs) (hXu : U16 xs) (hY : Rd w q .i64 ys) (hYu : U16 ys) (hge : vd ys ≤ vd xs) :
    Calls Tryd.prog 46 #[.agg #[.bool s, .slice p n nc], .agg #[.bool (!s), .slice q m mc]] w (RAns (n + m + 1) (rval s xs + rval (!s) ys) w) := by
  have hss : (s == !s) = false := by cases s <;> rfl
  have hic : 0 ≤ icmp (vd xs) (vd ys) := by
    rw [icmp, if_neg (by omega)]; split <;> decide
  have hmn : m ≤ n := by
    rcases Nat.lt_or_ge n m with h | h
    · have := vd_lt_len hXu hYu (by omega); omega
    · exact h
  have HN : Hid ((xs.length = n ∧ ys.length = m) ∧ tlen xs = n ∧ tlen ys = m) := ⟨⟨hn, hm⟩, tx, ty⟩
  clear hn hm tx ty
  go_enter Tryd.func46, Tryd.ntmps46
  go_wp2_with fail
  have hX0 := boxes3' w (.bool s) (.slice p n nc) (.bool (!s)) (.slice q m mc) (.bool false) (.slice none 0 0) 29 29 29
  generalize ((w.alloc (Obj.cells #[Value.bool s, Value.slice p n nc] 29)).alloc (Obj.cells #[Value.bool !s, Value.slice q m mc] 29)).alloc (Obj.cells #[Value.bool false, Value.slice none 0 0] 29) = W0 at *
  refine (rcmp_any p q n nc m mc xs ys _ HN.out.1.1 HN.out.1.2 (by omega) (by omega) HN.out.2.1 HN.out.2.2 (hX.below hX0.below) hXu (hY.below hX0.below) hYu).mono ?_
  rintro e W ⟨rfl, hb0⟩
  have hX3 := hX0.later hb0
  clear hX0 hb0 W0
  have hXW := hX.below hX3.below
  have hYW := hY.below hX3.below
  have k0 := hX3.ca0
  have k1 := hX3.ca1
  have k2 := hX3.cb0
  have k3 := hX3.cb1
  go_wp2_with fail
  go_region_held3 (fun w' => w'.cell? ⟨w.heap.size, 0, none⟩ = some (.bool s) ∧ w'.cell? ⟨w.heap.size, 1, none⟩ = some (.slice p n nc) ∧ w'.cell? ⟨w.heap.size + 1, 0, none⟩ = some (.bool (!s)) ∧ w'.cell? ⟨w.heap.size + 1, 1, none⟩ = some (.slice q m mc)) (first | exact ⟨by assumption, by assumption, by assumption, by assumption⟩ | exact keepc4 (by assumption) (by assumption) | (simp [go_sem, *]; done))
    (first
      | (go_at_call 69; obtain ⟨⟨hn, hm⟩, tx, ty⟩ := HN.out; refine (rsub_any p q n nc m mc xs ys _ hn hm hnb hmn hge hXW.drew hXu hYW.drew hYu).mono ?_; clear hn hm tx ty; rintro e w1 ⟨q1, n1, c1, D, rfl, hl1, hc1, hc2, hR1, hU1, hv1, hn1, hF1, hb1⟩; have HV1 : Hid (D.length = n1 ∧ vd D = vd xs - vd ys) := ⟨hl1, hv1⟩; clear hl1 hv1)
      | (go_at_call 20; refine (rtrim_any s q1 n1 c1 D _ HV1.out.1 hc1 hc2 hR1).mono ?_; rintro e w2 ⟨rfl, hb2⟩; obtain ⟨c0', c1', f0, f1⟩ := resbox (bnext' (undrew hb1) hb2) hX3.cr0 hX3.cr1 hX3.fr0 hX3.fr1))
  go_wp2
  have hsz := hX3.size
  refine bodyPost_ret (v := .agg #[.bool (nsg s D), .slice q1 (tlen D) (tlen D)]) (by simp [results, Tryd.results46, go_sem, c0', c1']) rfl ?_
  exact end_rn2 hX3.below (r := w.heap.size + 1 + 1) (by omega) (by omega) (undrew hb1) hb2 hR1 hF1 hU1 (by have := HV1.out.1; omega) (by omega) (by rw [rval, HV1.out.2, rval, rval]; cases s <;> simp <;> omega)

set_option maxRecDepth 100000 in
set_option maxHeartbeats 1000000 in
/-- ashlarref1.Add: the signs differ, the first is below the second. -/
theorem rAdd_lt (s : Bool) (p q : Option Addr) (n nc m mc : Nat) (xs ys : List Int) (w : World) (hn : xs.length = n) (hm : ys.length = m) (hnb : n ≤ 1000000) (hmb : m ≤ 1000000) (tx : tlen xs = n) (ty : tlen ys = m) (hX : Rd w p .i64 xs) (hXu : U16 xs) (hY : Rd w q .i64 ys) (hYu : U16 ys) (hge : vd xs < vd ys) :
    Calls Tryd.prog 46 #[.agg #[.bool s, .slice p n nc], .agg #[.bool (!s), .slice q m mc]] w (RAns (n + m + 1) (rval s xs + rval (!s) ys) w) := by
  have hss : (s == !s) = false := by cases s <;> rfl
  have hic : ¬ 0 ≤ icmp (vd xs) (vd ys) := by
    rw [icmp_lt hge]; decide
  have hmn : n ≤ m := by
    rcases Nat.lt_or_ge m n with h | h
    · have := vd_lt_len hYu hXu (by omega); omega
    · exact h
  have HN : Hid ((xs.length = n ∧ ys.length = m) ∧ tlen xs = n ∧ tlen ys = m) := ⟨⟨hn, hm⟩, tx, ty⟩
  clear hn hm tx ty
  go_enter Tryd.func46, Tryd.ntmps46
  go_wp2_with fail
  have hX0 := boxes3' w (.bool s) (.slice p n nc) (.bool (!s)) (.slice q m mc) (.bool false) (.slice none 0 0) 29 29 29
  generalize ((w.alloc (Obj.cells #[Value.bool s, Value.slice p n nc] 29)).alloc (Obj.cells #[Value.bool !s, Value.slice q m mc] 29)).alloc (Obj.cells #[Value.bool false, Value.slice none 0 0] 29) = W0 at *
  refine (rcmp_any p q n nc m mc xs ys _ HN.out.1.1 HN.out.1.2 (by omega) (by omega) HN.out.2.1 HN.out.2.2 (hX.below hX0.below) hXu (hY.below hX0.below) hYu).mono ?_
  rintro e W ⟨rfl, hb0⟩
  have hX3 := hX0.later hb0
  clear hX0 hb0 W0
  have hXW := hX.below hX3.below
  have hYW := hY.below hX3.below
  have k0 := hX3.ca0
  have k1 := hX3.ca1
  have k2 := hX3.cb0
  have k3 := hX3.cb1
  go_wp2_with fail
  go_region_held3 (fun w' => w'.cell? ⟨w.heap.size, 0, none⟩ = some (.bool s) ∧ w'.cell? ⟨w.heap.size, 1, none⟩ = some (.slice p n nc) ∧ w'.cell? ⟨w.heap.size + 1, 0, none⟩ = some (.bool (!s)) ∧ w'.cell? ⟨w.heap.size + 1, 1, none⟩ = some (.slice q m mc)) (first | exact ⟨by assumption, by assumption, by assumption, by assumption⟩ | exact keepc4 (by assumption) (by assumption) | (simp [go_sem, *]; done))
    (first
      | (go_at_call 69; obtain ⟨⟨hn, hm⟩, tx, ty⟩ := HN.out; refine (rsub_any q p m mc n nc ys xs _ hm hn hmb hmn (by omega) hYW.drew hYu hXW.drew hXu).mono ?_; clear hn hm tx ty; rintro e w1 ⟨q1, n1, c1, D, rfl, hl1, hc1, hc2, hR1, hU1, hv1, hn1, hF1, hb1⟩; have HV1 : Hid (D.length = n1 ∧ vd D = vd ys - vd xs) := ⟨hl1, hv1⟩; clear hl1 hv1)
      | (go_at_call 20; refine (rtrim_any (!s) q1 n1 c1 D _ HV1.out.1 hc1 hc2 hR1).mono ?_; rintro e w2 ⟨rfl, hb2⟩; obtain ⟨c0', c1', f0, f1⟩ := resbox (bnext' (undrew hb1) hb2) hX3.cr0 hX3.cr1 hX3.fr0 hX3.fr1))
  go_wp2
  have hsz := hX3.size
  refine bodyPost_ret (v := .agg #[.bool (nsg (!s) D), .slice q1 (tlen D) (tlen D)]) (by simp [results, Tryd.results46, go_sem, c0', c1']) rfl ?_
  exact end_rn2 hX3.below (r := w.heap.size + 1 + 1) (by omega) (by omega) (undrew hb1) hb2 hR1 hF1 hU1 (by have := HV1.out.1; omega) (by omega) (by rw [rval, HV1.out.2, rval, rval]; cases s <;> simp <;> omega)

/-- ashlarref1.Add of two that are known. -/
theorem rAdd_rn {w : World} {s t : Bool} {p q : Option Addr} {n m : Nat} {xs ys : List Int} (h : RN w s p n xs) (k : RN w t q m ys) (hn : n ≤ 1000000) (hm : m ≤ 1000000) :
    Calls Tryd.prog 46 #[.agg #[.bool s, .slice p n n], .agg #[.bool t, .slice q m m]] w (RAns (n + m + 1) (rval s xs + rval t ys) w) := by
  by_cases e : s = t
  · subst e; exact rAdd_same s p q n n m m xs ys w h.len k.len hn hm h.rd h.u k.rd k.u
  · have : t = !s := by cases s <;> cases t <;> simp_all
    subst this
    rcases Int.lt_or_le (vd xs) (vd ys) with hv | hv
    · exact rAdd_lt s p q n n m m xs ys w h.len k.len hn hm h.nrm k.nrm h.rd h.u k.rd k.u hv
    · exact rAdd_ge s p q n n m m xs ys w h.len k.len hn hm h.nrm k.nrm h.rd h.u k.rd k.u hv
end Go.Proofs.YtinkkfkepjgahaaDoor
