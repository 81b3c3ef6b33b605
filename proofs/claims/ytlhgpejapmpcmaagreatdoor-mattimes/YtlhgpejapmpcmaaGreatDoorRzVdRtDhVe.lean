/-
  ashlarref1.Is.
-/
import Derived.Test.YtlhgpejapmpcmaaGreatDoorReRxRfRhCqRr
import Derived.Test.YtlhgpejapmpcmaaGreatDoorRwNjUbVa
import Derived.Test.YtlhgpejapmpcmaaGreatDoorUdLnWrIb
import Derived.Test.YtlhgpejapmpcmaaGreatDoorUjOsKp
namespace Go.Proofs.YtlhgpejapmpcmaaGreatDoor
open Go.RowKit
set_option linter.unusedVariables false
set_option linter.unusedSimpArgs false

set_option maxRecDepth 100000 in
set_option maxHeartbeats 1000000 in
/-- ashlarref1.Is: an answer is this number. -/
theorem rIs_any {B : Nat} {w : World} {s t : Bool} {p q : Option Addr} {n m mc : Nat} {xs ds : List Int} {z : Int} (h : NI B w s p n xs z) (hn : n ≤ 1000) (hl : ds.length = m) (hm : m ≤ 1000) (hX : Rd w q .i64 ds) (hU : U16 ds) (hnr : tlen ds = m) (hs : m = 0 → t = false) (hv : rval t ds = z) :
    Calls Tryz.prog 35 #[.agg #[.bool s, .slice p n n], .agg #[.bool t, .slice q m mc]] w fun e w' => e = .returned (.bool true) ∧ Below w.heap.size w w' := by
  go_enter Tryz.func35, Tryz.ntmps35
  go_wp2_with fail
  have hX2 := boxes2 w (.bool s) (.slice p n n) (.bool t) (.slice q m mc) 58 62
  generalize ((w.alloc (Obj.cells #[Value.bool s, Value.slice p n n] 58)).alloc (Obj.cells #[Value.bool t, Value.slice q m mc] 62)) = W at *
  have k0 := hX2.ca0
  have k1 := hX2.ca1
  have k2 := hX2.cb0
  have k3 := hX2.cb1
  go_region_held3 (fun w' => w'.cell? ⟨w.heap.size, 0, none⟩ = some (.bool s) ∧ w'.cell? ⟨w.heap.size, 1, none⟩ = some (.slice p n n) ∧ w'.cell? ⟨w.heap.size + 1, 0, none⟩ = some (.bool t) ∧ w'.cell? ⟨w.heap.size + 1, 1, none⟩ = some (.slice q m mc)) (first | exact ⟨by assumption, by assumption, by assumption, by assumption⟩ | exact keepc4 (by assumption) (by assumption))
    (first
      | (go_at_call 63; refine (rTo_any t q m mc ds _ hl hm (hX.below hX2.below).drew hU).mono ?_; rintro e w1 ⟨p', m', cap, rfl, hA1, hm', hb1⟩)
      | (go_at_call 62; have h1 := h.below (bnext' hX2.below (undrew hb1)); have h2 : NN t (jn ds m') z := nn_jn hU (by omega) (fun e => hs (by omega)) hv (by have := hm'.out; omega); refine (rEq_nn h1 hA1 h2 hn).mono ?_; rintro e w2 ⟨rfl, hb2⟩))
  go_wp2
  go_ret
  exact ⟨rfl, bnext' (bnext' hX2.below (undrew hb1)) hb2⟩
end Go.Proofs.YtlhgpejapmpcmaaGreatDoor
/-
  ashlarref3.Is of an answer that is right.
-/
namespace Go.Proofs.YtlhgpejapmpcmaaGreatDoor
open Go.RowKit
set_option linter.unusedVariables false
set_option linter.unusedSimpArgs false

theorem rIs_e {B : Nat} {w : World} {K N : Nat} {z : Int} {e f : Ent} (h : NV B w K z e) (hK : K ≤ 1000) (k : RE w N z f) (hN : N ≤ 1000) :
    Calls Tryz.prog 35 #[.agg #[.bool e.s, .slice e.p e.n e.c], .agg #[.bool f.s, .slice f.p f.n f.c]] w fun r w' => r = .returned (.bool true) ∧ Below w.heap.size w w' := by
  obtain ⟨xs, h1, h2, h3⟩ := h
  obtain ⟨⟨ds, k1, k2, k3⟩, k4⟩ := k
  rw [h2, k4]
  exact rIs_any h1 (by omega) k1.len (by omega) k1.rd k1.u k1.nrm k1.sg k2
theorem NV.drew {B : Nat} {w : World} {K : Nat} {z : Int} {e : Ent} (h : NV B w K z e) : NV B w.drew K z e := by
  obtain ⟨xs, h1, h2⟩ := h
  exact ⟨xs, h1.drew, h2⟩
set_option maxHeartbeats 2000000 in
set_option maxRecDepth 100000 in
/-- ashlarref3.Is. -/
theorem rpIs_any {B : Nat} {w : World} {K N : Nat} {p q : Option Addr} {n nc : Nat} {es fs : List Ent} {zs : List Int} (h : PN B w K p n es zs) (k : PR w N q n nc fs zs) (hK : K ≤ 1000) (hN : N ≤ 1000) (hn : n ≤ 1000000) :
    Calls Tryz.prog 16 #[.slice p n n, .slice q n nc] w fun r w' => r = .returned (.bool true) ∧ Below w.heap.size w w' := by
  have hel := h.el
  have hfl := k.el
  go_enter Tryz.func16, Tryz.ntmps16
  go_wp2_with fail
  go_loopw [5, 6] (fun iv sv wr => ∃ j : Nat, j ≤ n ∧ iv = .int .i64 j ∧ Hid (Below w.heap.size w wr)) (fun iv _ _ => n - (intOf iv).toNat)
  case atStart => exact ⟨0, Nat.zero_le _, by go_num, Below.refl _ _⟩
  case round =>
    obtain ⟨j, hj, rfl, H⟩ := hrel
    rcases Nat.lt_or_ge j n with hlt | hge
    · have hh := h.below H.out
      have hk := k.below H.out
      have hv := hh.ev j hlt
      have hw := hk.ev j hlt
      obtain ⟨b, o, hp, hc⟩ := hh.pl (by omega)
      obtain ⟨c, r, hq, hd⟩ := hk.pl (by omega)
      subst hp hq
      obtain ⟨c0, c1⟩ := hc j (by omega)
      obtain ⟨d0, d1⟩ := hd j (by omega)
      clear hc hd hh hk
      go_wp2_with fail
      go_region_held3 (fun w' => w'.cell? ⟨b, o + j * 2, none⟩ = some (.bool (ge es j).s) ∧ w'.cell? ⟨b, o + j * 2 + 1, none⟩ = some (.slice (ge es j).p (ge es j).n (ge es j).c) ∧ w'.cell? ⟨c, r + j * 2, none⟩ = some (.bool (ge fs j).s) ∧ w'.cell? ⟨c, r + j * 2 + 1, none⟩ = some (.slice (ge fs j).p (ge fs j).n (ge fs j).c)) (first | with_reducible exact ⟨c0, c1, d0, d1⟩ | with_reducible exact keepc4 ⟨c0, c1, d0, d1⟩ hV1 | (simp [go_sem, *]; done))
        (first
          | (go_at_call 35; refine (rIs_e (hv.drew) hK hw.drew hN).mono ?_; rintro e w1 ⟨rfl, hb1⟩; have hV1 := undrew hb1))
      have hB := bnext' H.out hV1
      clear c0 c1 d0 d1 hv hw
      go_wp2
      go_roundw
      case rel => exact ⟨j + 1, by omega, by go_num, hB⟩
      case measure => simp [intOf]; omega
    · obtain rfl : j = n := by omega
      go_wp2
      go_ret
      exact ⟨rfl, H.out⟩
end Go.Proofs.YtlhgpejapmpcmaaGreatDoor
/-
  ashlarref1.Bits, and that it is limbs.Bits' number.
-/
namespace Go.Proofs.YtlhgpejapmpcmaaGreatDoor
open Go.RowKit
set_option linter.unusedVariables false
set_option linter.unusedSimpArgs false

set_option maxHeartbeats 1000000 in
/-- ashlarref1.Bits. -/
theorem rBits_any (s : Bool) (p : Option Addr) (n nc : Nat) (ds : List Int) (w : World) (hl : ds.length = n) (hs : n ≤ 1000000) (ht : tlen ds = n) (hX : Rd w p .i64 ds) (hU : U16 ds) :
    Calls Tryz.prog 50 #[.agg #[.bool s, .slice p n nc]] w fun e w' => ∃ b : Nat, e = .returned (.int .i64 (b : Int)) ∧ Hid (IB b (vd ds)) ∧ Below w.heap.size w w' := by
  rcases Nat.eq_zero_or_pos n with h0 | h0
  · subst h0
    obtain rfl : ds = [] := List.eq_nil_of_length_eq_zero hl
    go_enter Tryz.func50, Tryz.ntmps50
    go_wp2
    go_ret
    exact ⟨0, rfl, ⟨by decide, by decide, .inl rfl⟩, (Below.refl _ _).alloc (Nat.le_refl _) _⟩
  · obtain ⟨j, rfl⟩ : ∃ j, n = j + 1 := ⟨n - 1, by omega⟩
    have HL : Hid (ds.length = j + 1 ∧ tlen ds = j + 1) := ⟨hl, ht⟩
    obtain ⟨b, off, rfl, hc⟩ := (hX.alloc (.cells #[.bool s, .slice p (j + 1) nc] 62)) (by omega)
    have hcj := hc j (by omega)
    obtain ⟨b0, b1⟩ := hU j
    clear hc hl ht
    have hz : (((j + 1 : Nat) : Int) == 0) = false := beq_eq_false_iff_ne.2 (by omega)
    have hz' : ((j : Int) + 1 == 0) = false := beq_eq_false_iff_ne.2 (by omega)
    go_enter Tryz.func50, Tryz.ntmps50
    go_wp2
    go_loop [4, 5] (fun kv tv => ∃ (k : Nat) (t : Int), kv = .int .i64 k ∧ tv = .int .i64 t ∧ 0 ≤ t ∧ t < 65536 ∧ k ≤ 16 ∧ Hid (t = gx ds j / 2 ^ k ∧ (k = 0 ∨ (2 : Int) ^ (k - 1) ≤ gx ds j))) (fun _ tv => (intOf tv).toNat)
    case atStart => exact ⟨0, gx ds j, rfl, rfl, b0, b1, by decide, by simp, .inl rfl⟩
    case round =>
      obtain ⟨k, t, rfl, rfl, t0, t1, hk, H⟩ := hrel
      have hp : (0 : Int) < 2 ^ k := Int.pow_pos (by decide)
      have hdm := Int.emod_add_mul_ediv (gx ds j) (2 ^ k)
      have hm0 := Int.emod_nonneg (gx ds j) (show (2 : Int) ^ k ≠ 0 by omega)
      have hm1 := Int.emod_lt_of_pos (gx ds j) hp
      have HD : Hid (gx ds j % 2 ^ k + 2 ^ k * (gx ds j / 2 ^ k) = gx ds j ∧ 0 ≤ gx ds j % 2 ^ k ∧ gx ds j % 2 ^ k < 2 ^ k ∧ (0 : Int) < 2 ^ k) := ⟨hdm, hm0, hm1, hp⟩
      clear hp hdm hm0 hm1
      by_cases ht : 0 < t
      · have q1 : t.tdiv 2 = t / 2 := Int.tdiv_eq_ediv_of_nonneg t0
        have hge : Hid ((2 : Int) ^ k ≤ gx ds j) := by
          obtain ⟨e1, e2, e3, e4⟩ := HD.out
          have e5 := H.out.1
          have : (2 : Int) ^ k * 1 ≤ 2 ^ k * (gx ds j / 2 ^ k) := Int.mul_le_mul_of_nonneg_left (by omega) (by omega)
          show _ ≤ _
          omega
        have hk15 : k + 1 ≤ 16 := by
          rcases Nat.lt_or_ge k 16 with h | h
          · omega
          · exfalso
            have h2 := p2_mono h
            have h3 := hge.out
            have h4 : (2 : Int) ^ 16 = 65536 := rfl
            omega
        go_wp2
        go_round
        case rel =>
          refine ⟨k + 1, t / 2, by go_num, rfl, by omega, by omega, hk15, ?_, .inr (by rw [Nat.add_sub_cancel]; exact hge.out)⟩
          rw [H.out.1, Int.ediv_ediv_of_nonneg (Int.le_of_lt HD.out.2.2.2), Int.pow_succ]
        case measure => simp [intOf]; omega
      · obtain rfl : t = 0 := by omega
        go_wp2
        go_ret
        refine ⟨16 * j + k, by go_num, ?_, (Below.refl _ _).alloc (Nat.le_refl _) _⟩
        have hL := HL.out
        have hib : IB k (gx ds (ds.length - 1)) := by
          rw [hL.1, Nat.add_sub_cancel]
          refine ⟨b0, ?_, H.out.2⟩
          obtain ⟨e1, e2, e3, e4⟩ := HD.out
          have e5 := H.out.1
          rw [← e5, Int.mul_zero] at e1
          omega
        have := digits_ib hU (by omega) (by omega) hib
        rw [hL.1, Nat.add_sub_cancel] at this
        exact this
theorem vd_val {s t : Bool} {ds xs : List Int} (h : rval s ds = ival t xs) (hd : U16 ds) (hx : U32 xs) : vd ds = val xs := by
  have h1 := vd_nonneg hd
  have h2 := val_nonneg hx
  cases s <;> cases t <;> simp [rval, ival] at h <;> omega
/-- Both tell the same. -/
theorem bits_same {xs ds : List Int} {b : Nat} (h : U32 xs) (hv : vd ds = val xs) (hb : IB b (vd ds)) : nbits xs = (b : Int) := by
  obtain ⟨c, hc, hI⟩ := nbits_ib h
  rw [hc, hb.uniq (hv ▸ hI)]
end Go.Proofs.YtlhgpejapmpcmaaGreatDoor
/-
  ashlarref3.Deg.
-/
namespace Go.Proofs.YtlhgpejapmpcmaaGreatDoor
open Go.RowKit
set_option linter.unusedVariables false
set_option linter.unusedSimpArgs false

set_option maxHeartbeats 2000000 in
set_option maxRecDepth 100000 in
/-- ashlarref3.Deg. -/
theorem rpDeg_any (p : Option Addr) (n nc : Nat) (w : World) (hn : n ≤ 1000000) :
    Calls Tryz.prog 24 #[.slice p n nc] w fun r w' => r = .returned (.int .i64 ((n : Int) - 1)) ∧ Below w.heap.size w w' := by
  have v1 : IntKind.i64.wrap ((n : Int) - 1) = (n : Int) - 1 := by rw [IntKind.wrap_i64]; omega
  go_enter Tryz.func24, Tryz.ntmps24
  go_wp2
  go_ret
  exact ⟨rfl, Below.refl _ _⟩
end Go.Proofs.YtlhgpejapmpcmaaGreatDoor
/-
  ashlarref3.Deg, Bits.
-/
namespace Go.Proofs.YtlhgpejapmpcmaaGreatDoor
open Go.RowKit
set_option linter.unusedVariables false
set_option linter.unusedSimpArgs false

theorem rBits_w {w : World} {N : Nat} {x : Int} {s : Bool} {p : Option Addr} {n : Nat} (h : RV w N x s p n) (hN : N ≤ 1000) :
    Calls Tryz.prog 50 #[.agg #[.bool s, .slice p n n]] w fun e w' => ∃ b : Nat, e = .returned (.int .i64 (b : Int)) ∧ b ≤ 16 * N ∧ Hid (IB b (x.natAbs : Int)) ∧ Below w.heap.size w w' := by
  have hbd := h.bd
  obtain ⟨ds, h1, rfl, h3⟩ := h
  have a := vd_nonneg h1.u
  have e : ((rval s ds).natAbs : Int) = vd ds := by unfold rval; split <;> omega
  rw [e] at hbd ⊢
  refine (rBits_any s p n n ds w h1.len (by omega) h1.nrm h1.rd h1.u).mono ?_
  rintro e w' ⟨b, g1, g2, g3⟩
  refine ⟨b, g1, ?_, g2, g3⟩
  have hp : pd N = 2 ^ (16 * N) := by rw [pd, show (65536 : Int) = 2 ^ 16 from rfl, ← Int.pow_mul]
  rcases Nat.lt_or_ge (16 * N) b with hb | hb
  · rcases g2.out.2.2 with k | k
    · omega
    · have := p2_mono (show 16 * N ≤ b - 1 by omega)
      omega
  · exact hb
theorem rBits_e {w : World} {N : Nat} {z : Int} {e : Ent} (h : RE w N z e) (hN : N ≤ 1000) :
    Calls Tryz.prog 50 #[.agg #[.bool e.s, .slice e.p e.n e.c]] w fun r w' => r = .returned (.int .i64 (zb z)) ∧ zb z ≤ 16 * N ∧ Below w.heap.size w w' := by
  obtain ⟨h1, h2⟩ := h
  rw [h2]
  refine (rBits_w h1 hN).mono ?_
  rintro r w' ⟨b, rfl, hl, hI, hb⟩
  have e2 := hI.out.uniq (zb_ib z)
  subst e2
  exact ⟨rfl, hl, hb⟩
set_option maxHeartbeats 2000000 in
set_option maxRecDepth 100000 in
/-- ashlarref3.Bits. -/
theorem rpBits_any {w : World} {N : Nat} {q : Option Addr} {n nc : Nat} {fs : List Ent} {zs : List Int} (k : PR w N q n nc fs zs) (hN : N ≤ 1000) (hn : n ≤ 1000000) :
    Calls Tryz.prog 25 #[.slice q n nc] w fun r w' => r = .returned (.int .i64 (pb zs)) ∧ Below w.heap.size w w' := by
  have hfl := k.el
  have hzl := k.zl
  go_enter Tryz.func25, Tryz.ntmps25
  go_wp2_with fail
  go_loopw [3, 4, 5] (fun mv kv cv wr => ∃ j : Nat, j ≤ n ∧ kv = .int .i64 j ∧ mv = .int .i64 (pb (zs.take j)) ∧ Hid (pb (zs.take j) ≤ 16 * N ∧ Below w.heap.size w wr)) (fun _ kv _ _ => n - (intOf kv).toNat)
  case atStart => exact ⟨0, Nat.zero_le _, by go_num, by simp [pb], by simp [pb], Below.refl _ _⟩
  case round =>
    obtain ⟨j, hj, rfl, rfl, H⟩ := hrel
    rcases Nat.lt_or_ge j n with hlt | hge
    · have hh := k.below H.out.2
      have hv := hh.ev j hlt
      obtain ⟨b, o, hp, hc⟩ := hh.pl (by omega)
      subst hp
      obtain ⟨c0, c1⟩ := hc j (by omega)
      have HT : Hid (pb (zs.take (j + 1)) = max (pb (zs.take j)) (zb (gx zs j))) := pb_take zs j (by omega)
      clear hc hh
      go_wp2_with fail
      refine (rBits_e hv hN).mono ?_
      rintro e w1 ⟨rfl, hz, hb1⟩
      have hB := bnext' H.out.2 hb1
      clear c0 c1 hv hb1
      by_cases hgt : (pb (zs.take j) : Int) < (zb (gx zs j) : Int)
      · have e1 : pb (zs.take (j + 1)) = zb (gx zs j) := by rw [HT.out]; omega
        have HE : Hid (pb (zs.take (j + 1)) = zb (gx zs j)) := e1
        clear e1
        go_wp2
        go_roundw
        case rel => exact ⟨j + 1, by omega, by go_num, by rw [HE.out], by rw [HE.out]; exact hz, hB⟩
        case measure => simp [intOf]; omega
      · have e1 : pb (zs.take (j + 1)) = pb (zs.take j) := by rw [HT.out]; omega
        have HE : Hid (pb (zs.take (j + 1)) = pb (zs.take j)) := e1
        clear e1
        go_wp2
        go_roundw
        case rel => exact ⟨j + 1, by omega, by go_num, by rw [HE.out], by rw [HE.out]; exact H.out.1, hB⟩
        case measure => simp [intOf]; omega
    · obtain rfl : j = n := by omega
      have HT : Hid (zs.take j = zs) := List.take_of_length_le (by omega)
      clear hge
      go_wp2
      go_ret
      obtain ⟨h1, h2⟩ := H.out
      exact ⟨by rw [HT.out]; rfl, h2⟩
end Go.Proofs.YtlhgpejapmpcmaaGreatDoor
