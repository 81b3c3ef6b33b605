/-
  ashlarref1.Is.
-/
import Derived.Test.YtgecfnoecmjacaaGreatDoorRfRhCqRr
import Derived.Test.YtgecfnoecmjacaaGreatDoorRwNjUbVaVg
import Derived.Test.YtgecfnoecmjacaaGreatDoorVuVvUdLnWrIb
import Derived.Test.YtgecfnoecmjacaaGreatDoorRiRjRg
namespace Go.Proofs.YtgecfnoecmjacaaGreatDoor
open Go.RowKit
set_option linter.unusedVariables false
set_option linter.unusedSimpArgs false

set_option maxRecDepth 100000 in
set_option maxHeartbeats 1000000 in
/-- ashlarref1.Is: an answer is this number. -/
theorem rIs_any {B : Nat} {w : World} {s t : Bool} {p q : Option Addr} {n m mc : Nat} {xs ds : List Int} {z : Int} (h : NI B w s p n xs z) (hn : n ≤ 1000) (hl : ds.length = m) (hm : m ≤ 1000) (hX : Rd w q .i64 ds) (hU : U16 ds) (hnr : tlen ds = m) (hs : m = 0 → t = false) (hv : rval t ds = z) :
    Calls Tryz.prog 26 #[.agg #[.bool s, .slice p n n], .agg #[.bool t, .slice q m mc]] w fun e w' => e = .returned (.bool true) ∧ Below w.heap.size w w' := by
  go_enter Tryz.func26, Tryz.ntmps26
  go_wp2_with fail
  have hX2 := boxes2 w (.bool s) (.slice p n n) (.bool t) (.slice q m mc) 26 35
  generalize ((w.alloc (Obj.cells #[Value.bool s, Value.slice p n n] 26)).alloc (Obj.cells #[Value.bool t, Value.slice q m mc] 35)) = W at *
  have k0 := hX2.ca0
  have k1 := hX2.ca1
  have k2 := hX2.cb0
  have k3 := hX2.cb1
  go_region_held3 (fun w' => w'.cell? ⟨w.heap.size, 0, none⟩ = some (.bool s) ∧ w'.cell? ⟨w.heap.size, 1, none⟩ = some (.slice p n n) ∧ w'.cell? ⟨w.heap.size + 1, 0, none⟩ = some (.bool t) ∧ w'.cell? ⟨w.heap.size + 1, 1, none⟩ = some (.slice q m mc)) (first | exact ⟨by assumption, by assumption, by assumption, by assumption⟩ | exact keepc4 (by assumption) (by assumption))
    (first
      | (go_at_call 74; refine (rTo_any t q m mc ds _ hl hm (hX.below hX2.below).drew hU).mono ?_; rintro e w1 ⟨p', m', cap, rfl, hA1, hm', hb1⟩)
      | (go_at_call 73; have h1 := h.below (bnext' hX2.below (undrew hb1)); have h2 : NN t (jn ds m') z := nn_jn hU (by omega) (fun e => hs (by omega)) hv (by have := hm'.out; omega); refine (rEq_nn h1 hA1 h2 hn).mono ?_; rintro e w2 ⟨rfl, hb2⟩))
  go_wp2
  go_ret
  exact ⟨rfl, bnext' (bnext' hX2.below (undrew hb1)) hb2⟩
end Go.Proofs.YtgecfnoecmjacaaGreatDoor
/-
  ashlarref3.Is of an answer that is right.
-/
namespace Go.Proofs.YtgecfnoecmjacaaGreatDoor
open Go.RowKit
set_option linter.unusedVariables false
set_option linter.unusedSimpArgs false

theorem rIs_e {B : Nat} {w : World} {K N : Nat} {z : Int} {e f : Ent} (h : NV B w K z e) (hK : K ≤ 1000) (k : RE w N z f) (hN : N ≤ 1000) :
    Calls Tryz.prog 26 #[.agg #[.bool e.s, .slice e.p e.n e.c], .agg #[.bool f.s, .slice f.p f.n f.c]] w fun r w' => r = .returned (.bool true) ∧ Below w.heap.size w w' := by
  obtain ⟨xs, h1, h2, h3⟩ := h
  obtain ⟨⟨ds, k1, k2, k3⟩, k4⟩ := k
  rw [h2, k4]
  exact rIs_any h1 (by omega) k1.len (by omega) k1.rd k1.u k1.nrm k1.sg k2
theorem NV.drew {B : Nat} {w : World} {K : Nat} {z : Int} {e : Ent} (h : NV B w K z e) : NV B w.drew K z e := by
  obtain ⟨xs, h1, h2⟩ := h
  exact ⟨xs, h1.drew, h2⟩
set_option maxHeartbeats 2000000 in
set_option maxRecDepth 100000 in
/-- ashlarref3.Is. -/
theorem rpIs_any {B : Nat} {w : World} {K N : Nat} {p q : Option Addr} {n nc : Nat} {es fs : List Ent} {zs : List Int} (h : PN B w K p n es zs) (k : PR w N q n nc fs zs) (hK : K ≤ 1000) (hN : N ≤ 1000) (hn : n ≤ 1000000) :
    Calls Tryz.prog 14 #[.slice p n n, .slice q n nc] w fun r w' => r = .returned (.bool true) ∧ Below w.heap.size w w' := by
  have hel := h.el
  have hfl := k.el
  go_enter Tryz.func14, Tryz.ntmps14
  go_wp2_with fail
  go_loopw [5, 6] (fun iv sv wr => ∃ j : Nat, j ≤ n ∧ iv = .int .i64 j ∧ Hid (Below w.heap.size w wr)) (fun iv _ _ => n - (intOf iv).toNat)
  case atStart => exact ⟨0, Nat.zero_le _, by go_num, Below.refl _ _⟩
  case round =>
    obtain ⟨j, hj, rfl, H⟩ := hrel
    rcases Nat.lt_or_ge j n with hlt | hge
    · have hh := h.below H.out
      have hk := k.below H.out
      have hv := hh.ev j hlt
      have hw := hk.ev j hlt
      obtain ⟨b, o, hp, hc⟩ := hh.pl (by omega)
      obtain ⟨c, r, hq, hd⟩ := hk.pl (by omega)
      subst hp hq
      obtain ⟨c0, c1⟩ := hc j (by omega)
      obtain ⟨d0, d1⟩ := hd j (by omega)
      clear hc hd hh hk
      go_wp2_with fail
      go_region_held3 (fun w' => w'.cell? ⟨b, o + j * 2, none⟩ = some (.bool (ge es j).s) ∧ w'.cell? ⟨b, o + j * 2 + 1, none⟩ = some (.slice (ge es j).p (ge es j).n (ge es j).c) ∧ w'.cell? ⟨c, r + j * 2, none⟩ = some (.bool (ge fs j).s) ∧ w'.cell? ⟨c, r + j * 2 + 1, none⟩ = some (.slice (ge fs j).p (ge fs j).n (ge fs j).c)) (first | with_reducible exact ⟨c0, c1, d0, d1⟩ | with_reducible exact keepc4 ⟨c0, c1, d0, d1⟩ hV1 | (simp [go_sem, *]; done))
        (first
          | (go_at_call 26; refine (rIs_e (hv.drew) hK hw.drew hN).mono ?_; rintro e w1 ⟨rfl, hb1⟩; have hV1 := undrew hb1))
      have hB := bnext' H.out hV1
      clear c0 c1 d0 d1 hv hw
      go_wp2
      go_roundw
      case rel => exact ⟨j + 1, by omega, by go_num, hB⟩
      case measure => simp [intOf]; omega
    · obtain rfl : j = n := by omega
      go_wp2
      go_ret
      exact ⟨rfl, H.out⟩
end Go.Proofs.YtgecfnoecmjacaaGreatDoor
/-
  ashlarref1.Sign, Cmp.
-/
namespace Go.Proofs.YtgecfnoecmjacaaGreatDoor
open Go.RowKit
set_option linter.unusedVariables false
set_option linter.unusedSimpArgs false

theorem icmp_same16 {s t : Bool} {xs ys : List Int} (hX : U16 xs) (hY : U16 ys) (h : isgn (rval s xs) = isgn (rval t ys)) : isgn (rval s xs) * icmp (vd xs) (vd ys) = icmp (rval s xs) (rval t ys) := by
  have h1 := vd_nonneg hX
  have h2 := vd_nonneg hY
  rcases isgn_cases (rval s xs) with ⟨a1, a2⟩ | ⟨a1, a2⟩ | ⟨a1, a2⟩ <;> rcases isgn_cases (rval t ys) with ⟨b1, b2⟩ | ⟨b1, b2⟩ | ⟨b1, b2⟩ <;> rw [a2, b2] at h <;> (try (exact absurd h (by decide))) <;> rw [a2]
  · rw [a1, b1, icmp_eq, Int.zero_mul]
  · have e1 : s = true := by cases s <;> simp_all [rval] <;> omega
    have e2 : t = true := by cases t <;> simp_all [rval] <;> omega
    subst e1 e2
    simp only [rval, if_true]
    rcases Int.lt_trichotomy (vd xs) (vd ys) with g | g | g
    · rw [icmp_lt g, icmp_gt (by omega)]; rfl
    · rw [g, icmp_eq, icmp_eq]; rfl
    · rw [icmp_gt g, icmp_lt (by omega)]; rfl
  · have e1 : s = false := by cases s <;> simp_all [rval] <;> omega
    have e2 : t = false := by cases t <;> simp_all [rval] <;> omega
    subst e1 e2
    simp only [rval, Bool.false_eq_true, if_false, Int.one_mul]

set_option maxHeartbeats 1000000 in
/-- ashlarref1.Cmp. -/
theorem rCmp_any (s t : Bool) (p q : Option Addr) (n nc m mc : Nat) (xs ys : List Int) (w : World) (hn : xs.length = n) (hm : ys.length = m) (hnb : n ≤ 1000000000) (hmb : m ≤ 1000000000) (tx : tlen xs = n) (ty : tlen ys = m)
    (hX : Rd w p .i64 xs) (hXu : U16 xs) (hY : Rd w q .i64 ys) (hYu : U16 ys) :
    Calls Tryz.prog 80 #[.agg #[.bool s, .slice p n nc], .agg #[.bool t, .slice q m mc]] w fun e w' => e = .returned (.int .i64 (icmp (rval s xs) (rval t ys))) ∧ Below w.heap.size w w' := by
  have hd : Hid (isgn (rval s xs) = isgn (rval t ys) ∨ isgn (rval s xs) ≠ isgn (rval t ys)) := Classical.em _
  have q1 : -1 ≤ isgn (rval s xs) ∧ isgn (rval s xs) ≤ 1 := by rcases isgn_cases (rval s xs) with h | h | h <;> omega
  have q2 : -1 ≤ icmp (vd xs) (vd ys) ∧ icmp (vd xs) (vd ys) ≤ 1 := by unfold icmp; split <;> (try split) <;> decide
  obtain ⟨q1, q1'⟩ := q1
  obtain ⟨q2, q2'⟩ := q2
  have HT : Hid (xs.length = n ∧ ys.length = m ∧ tlen xs = n ∧ tlen ys = m) := ⟨hn, hm, tx, ty⟩
  clear hn hm tx ty
  go_enter Tryz.func80, Tryz.ntmps80
  go_wp2_with fail
  have hX0 := boxes2 w (.bool s) (.slice p n nc) (.bool t) (.slice q m mc) 35 35
  generalize ((w.alloc (Obj.cells #[Value.bool s, Value.slice p n nc] 35)).alloc (Obj.cells #[Value.bool t, Value.slice q m mc] 35)) = W0 at *
  refine (rSign_any s p n nc xs _ hXu HT.out.2.2.1).mono ?_
  rintro e W1 ⟨rfl, hb0⟩
  have hX1 := hX0.later hb0
  clear hX0 hb0 W0
  have k0 := hX1.ca0
  have k1 := hX1.ca1
  have k2 := hX1.cb0
  have k3 := hX1.cb1
  go_wp2_with fail
  refine (rSign_any t q m mc ys _ hYu HT.out.2.2.2).mono ?_
  rintro e W ⟨rfl, hb0⟩
  have hX2 := hX1.later hb0
  clear hX1 hb0 k0 k1 k2 k3 W1
  have k0 := hX2.ca0
  have k1 := hX2.ca1
  have k2 := hX2.cb0
  have k3 := hX2.cb1
  rcases hd.out with h | h
  · have hne : (isgn (rval s xs) != isgn (rval t ys)) = false := by rw [h]; simp
    have H : Hid (isgn (rval s xs) = isgn (rval t ys)) := h
    clear h hd
    go_wp2_with fail
    obtain ⟨t1, t2, t3, t4⟩ := HT.out
    refine (rcmp_any p q n nc m mc xs ys _ t1 t2 hnb hmb t3 t4 (hX.below hX2.below) hXu (hY.below hX2.below) hYu).mono ?_
    rintro e w1 ⟨rfl, hb1⟩
    have hw : wrap64 (isgn (rval s xs) * icmp (vd xs) (vd ys)) = icmp (rval s xs) (rval t ys) := by
      rw [icmp_same16 hXu hYu H.out]
      unfold icmp; split <;> (try split) <;> simp [wrap64, IntKind.wrap, IntKind.bits, IntKind.signed]
    clear t1 t2 t3 t4
    go_wp2
    go_ret
    refine ⟨?_, hX2.below.trans (hb1.mono hX2.below.size)⟩
    first
      | exact ret_int hw
      | exact ret_int (icmp_same16 hXu hYu H.out)
      | rfl
  · have hne : (isgn (rval s xs) != isgn (rval t ys)) = true := by rw [bne_iff_ne]; exact h
    clear hd
    rcases Int.lt_or_lt_of_ne h with h1 | h1
    · have hi := icmp_lt h1
      rw [icmp_isgn h] at hi
      have HI : Hid (icmp (rval s xs) (rval t ys) = -1) := hi
      clear hi h
      go_wp2
      go_ret
      exact ⟨ret_int HI.out.symm, hX2.below⟩
    · have hi := icmp_gt h1
      rw [icmp_isgn h] at hi
      have HI : Hid (icmp (rval s xs) (rval t ys) = 1) := hi
      have h2 : ¬ isgn (rval s xs) < isgn (rval t ys) := by omega
      clear hi h
      go_wp2
      go_ret
      exact ⟨ret_int HI.out.symm, hX2.below⟩
/-- ashlarref1.Cmp of two that are known. -/
theorem rCmp_rn {w : World} {s t : Bool} {p q : Option Addr} {n m : Nat} {xs ys : List Int} (h : RN w s p n xs) (k : RN w t q m ys) :
    Calls Tryz.prog 80 #[.agg #[.bool s, .slice p n n], .agg #[.bool t, .slice q m m]] w fun e w' => e = .returned (.int .i64 (icmp (rval s xs) (rval t ys))) ∧ Below w.heap.size w w' :=
  rCmp_any s t p q n n m m xs ys w h.len k.len h.sml k.sml h.nrm k.nrm h.rd h.u k.rd k.u
end Go.Proofs.YtgecfnoecmjacaaGreatDoor
