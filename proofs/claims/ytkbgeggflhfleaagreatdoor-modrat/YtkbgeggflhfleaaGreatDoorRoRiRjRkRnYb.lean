/-
  ashlarref1.Of.
-/
import Derived.Test.YtkbgeggflhfleaaGreatDoorCuZjReRxRfRh
import Derived.Test.YtkbgeggflhfleaaGreatDoorCxCqRbCyRvRwCz
import Derived.Test.YtkbgeggflhfleaaGreatDoorTaTbTcRg
import Derived.Test.YtkbgeggflhfleaaGreatDoorYa
import Derived.Test.YtkbgeggflhfleaaGreatDoorTf
import Derived.Test.YtkbgeggflhfleaaGreatDoorZcZdZs
namespace Go.Proofs.YtkbgeggflhfleaaGreatDoor
open Go.RowKit
set_option linter.unusedVariables false
set_option linter.unusedSimpArgs false
set_option maxHeartbeats 8000000
set_option maxRecDepth 100000 in
theorem rOf_neg (a : Int) (w : World) (h0 : 0 < a) (h1 : a ≤ 9223372036854775808) :
    Calls Tryz.prog 25 #[.int .i64 (-a)] w (RAns 4 (-a) w) := by
  obtain ⟨i0, hi, hzz⟩ := Option.map_eq_some_iff.1 info_int
  simp only [Prod.mk.injEq] at hzz
  obtain ⟨hz0, hz1, hz2⟩ := hzz
  have HI : Hid (Tryz.prog.info? 3 = some i0 ∧ i0.zero = some (.int .i64 0) ∧ i0.size = 1 ∧ i0.bytes = 8) := ⟨hi, hz0, hz1, hz2⟩
  clear hi hz0 hz1 hz2
  have hcmp : -a < 0 := by omega
  go_enter Tryz.func25, Tryz.ntmps25
  go_wp2
  have hb2 : Bx (w.alloc (.cells #[.bool false, .slice none 0 0] 38)) w.heap.size (.bool false) (.slice none 0 0) := Bx.new _ _ _ rfl
  have hbw : Below w.heap.size w (w.alloc (.cells #[.bool false, .slice none 0 0] 38)) := (Below.refl _ _).alloc (Nat.le_refl _) _
  have hsz : (w.alloc (.cells #[.bool false, .slice none 0 0] 38)).heap.size = w.heap.size + 1 := by simp
  generalize (w.alloc (.cells #[.bool false, .slice none 0 0] 38)) = W at *
  have HS : Hid (W.heap.size = w.heap.size + 1) := hsz
  clear hsz
  go_loopw [0, 4, 5] (fun nv dv kv wr => ∃ (k : Nat) (m : Int) (ds : List Int), nv = .int .i64 (-m) ∧ 0 ≤ m ∧ m ≤ 9223372036854775808 ∧ ds.length = k ∧ Hid (a = vd ds + pd k * m ∧ U16 ds ∧ wr.ownsRow W.heap.size 3 1 dv k (ds.map (Value.int .i64)) ∧ Below W.heap.size W wr)) (fun nv _ _ _ => (intOf nv).natAbs)
  case atStart => exact ⟨0, a, [], rfl, by omega, by omega, rfl, by simp [vd, pd_zero], u16_nil, World.ownsRow_nil _ _ _ _, Below.refl _ _⟩
  case round =>
    obtain ⟨k, m, ds, rfl, hm0, hm1, hkl, H⟩ := hrel
    have hBr := H.out.2.2.2
    have HV : Hid (a = vd ds + pd k * m ∧ U16 ds) := ⟨H.out.1, H.out.2.1⟩
    have HO : Hid (wr.ownsRow W.heap.size 3 1 u4 k (ds.map (Value.int .i64))) := H.out.2.2.1
    clear H
    have hb2r := hb2.later hBr
    have HK : Hid (0 < m → k < 4) := fun hm => by
      rcases Nat.lt_or_ge k 4 with h | h
      · exact h
      · exfalso
        have e1 := pd_mono h
        have e2 : pd 4 = 18446744073709551616 := rfl
        have e3 := vd_nonneg HV.out.2
        have e4 : pd k * 1 ≤ pd k * m := Int.mul_le_mul_of_nonneg_left (by omega) (Int.le_of_lt (pd_pos k))
        have e5 := HV.out.1
        omega
    have HL : Hid (ds.length = k) := hkl
    by_cases hlt : 0 < m
    · have hk4 := HK.out hlt
      obtain ⟨hi, hz0, hz1, hz2⟩ := HI.out
      clear hkl
      have q1 : (-m).tmod 65536 = -(m % 65536) := by rw [Int.neg_tmod, Int.tmod_eq_emod_of_nonneg (by omega)]
      have q2 : (-m).tdiv 65536 = -(m / 65536) := by rw [Int.neg_tdiv, Int.tdiv_eq_ediv_of_nonneg (by omega)]
      have q5 : (-m != 0) = true := by rw [bne_iff_ne]; omega
      have hkl := HL.out
      clear hkl
      by_cases hm0 : m % 65536 = 0
      · have q6 : ¬ -(m % 65536) < 0 := by omega
        have q7 : -(m % 65536) = 0 := by omega
        go_wp2_with (refine wpList_append_lies _ rfl _ _ 36 rfl W.heap.size 3 i0 (.int .i64 0) 1 8 Tryz.underlying36 hi hz0 hz1 hz2 rfl (by decide) u4 k (ds.map (Value.int .i64)) rfl (HO.out.alloc _) ⟨wr.heap.size, 0, none⟩ 1 1 [.int .i64 (0)] rfl rfl ?_ (fun x hx => by simp at hx; subst hx; rfl) (by decide) (by unfold maxLen; omega) (by omega) (by have := hBr.size; simp; omega) _ rfl ?_; exact World.news_of_block (heap_alloc_new wr _); intro g cap w3 hown3 hgrow3 hat3 hlt3; have hB3 : Below W.heap.size W w3 := (bel_alw hBr).grown hgrow3 (by have := hBr.size; simp; omega) (fun q hq => (HO.out.lt q hq).1))
        refine ⟨⟨k + 1, m / 65536, ds ++ [0], by go_num, by omega, by omega, by have := HL.out; simp; omega, ?_, u16_append HV.out.2 (u16_one (by omega)), ?_, hB3⟩, by simp [intOf]; omega⟩
        · rw [vd_append, vd_one, pd_succ, HL.out, HV.out.1]
          have := cut16 (pd k) m
          rw [hm0] at this; omega
        · rw [List.map_append]
          exact hown3
      · have q6 : -(m % 65536) < 0 := by omega
        go_wp2_with (refine wpList_append_lies _ rfl _ _ 36 rfl W.heap.size 3 i0 (.int .i64 0) 1 8 Tryz.underlying36 hi hz0 hz1 hz2 rfl (by decide) u4 k (ds.map (Value.int .i64)) rfl (HO.out.alloc _) ⟨wr.heap.size, 0, none⟩ 1 1 [.int .i64 (m % 65536)] rfl rfl ?_ (fun x hx => by simp at hx; subst hx; rfl) (by decide) (by unfold maxLen; omega) (by omega) (by have := hBr.size; simp; omega) _ rfl ?_; exact World.news_of_block (heap_alloc_new wr _); intro g cap w3 hown3 hgrow3 hat3 hlt3; have hB3 : Below W.heap.size W w3 := (bel_alw hBr).grown hgrow3 (by have := hBr.size; simp; omega) (fun q hq => (HO.out.lt q hq).1))
        refine ⟨⟨k + 1, m / 65536, ds ++ [m % 65536], by go_num, by omega, by omega, by have := HL.out; simp; omega, ?_, u16_append HV.out.2 (u16_one (by omega)), ?_, hB3⟩, by simp [intOf]; omega⟩
        · rw [vd_append, vd_one, pd_succ, HL.out, HV.out.1]
          have := cut16 (pd k) m
          omega
        · rw [List.map_append]
          exact hown3
    · obtain rfl : m = 0 := by omega
      have hform : ∃ q cap, u4 = .slice q k cap ∧ k ≤ cap ∧ cap ≤ maxLen ∧ Rd wr q .i64 ds ∧ Go.Proofs.YtkbgeggflhfleaaGreatDoor.From W.heap.size q := by
        have hown := HO.out
        rcases hown.2 with ⟨h1, h2⟩ | ⟨g, cap, cur, h1, hbg, _, h4, h5, _⟩
        · refine ⟨none, 0, by rw [h1, h2], by omega, Nat.zero_le _, ?_, from_none⟩
          have : ds = [] := List.eq_nil_of_length_eq_zero (by omega)
          rw [this]; exact Rd.nil
        · subst h1
          exact ⟨_, cap, rfl, h4, h5, rd_owns hown, from_new hbg⟩
      obtain ⟨q, cap, rfl, hq1, hq2, hq3, hq4⟩ := hform
      have hva : a = vd ds := by have := HV.out.1; omega
      have HA : Hid (a = vd ds) := hva
      clear hva
      have hq2' := hq2
      unfold maxLen at hq2'
      go_wp2_with fail
      refine (rtrim_any true q k cap ds _ hkl hq1 hq2 hq3).mono ?_
      rintro e w4 ⟨rfl, hb4⟩
      obtain ⟨z0, z1, z2, z3⟩ := resbox hb4 hb2r.c0 hb2r.c1 hb2r.f0 hb2r.f1
      go_wp2
      have hsW := HS.out
      have htl : tlen ds ≤ 4 := by
        rcases Nat.lt_or_ge 4 (tlen ds) with h | h
        · exfalso
          have e1 := vd_pos_of_top HV.out.2 (by omega)
          have e2 : pd 4 ≤ pd (tlen ds - 1) := pd_mono (by omega)
          have e3 : pd 4 = 18446744073709551616 := rfl
          have e5 := HA.out
          omega
        · exact h
      refine bodyPost_ret (v := .agg #[.bool (nsg true ds), .slice q (tlen ds) (tlen ds)]) (by simp [results, Tryz.results25, go_sem, z0, z1]) rfl ?_
      exact end_rn hbw (Nat.le_refl _) (by omega) hBr hb4 hq3 hq4 HV.out.2 (by omega) (by rw [HA.out]; rfl) htl
set_option maxRecDepth 100000 in
theorem rOf_pos (a : Int) (w : World) (h0 : 0 ≤ a) (h1 : a ≤ 9223372036854775807) :
    Calls Tryz.prog 25 #[.int .i64 (a)] w (RAns 4 (a) w) := by
  obtain ⟨i0, hi, hzz⟩ := Option.map_eq_some_iff.1 info_int
  simp only [Prod.mk.injEq] at hzz
  obtain ⟨hz0, hz1, hz2⟩ := hzz
  have HI : Hid (Tryz.prog.info? 3 = some i0 ∧ i0.zero = some (.int .i64 0) ∧ i0.size = 1 ∧ i0.bytes = 8) := ⟨hi, hz0, hz1, hz2⟩
  clear hi hz0 hz1 hz2
  have hcmp : ¬ a < 0 := by omega
  go_enter Tryz.func25, Tryz.ntmps25
  go_wp2
  have hb2 : Bx (w.alloc (.cells #[.bool false, .slice none 0 0] 38)) w.heap.size (.bool false) (.slice none 0 0) := Bx.new _ _ _ rfl
  have hbw : Below w.heap.size w (w.alloc (.cells #[.bool false, .slice none 0 0] 38)) := (Below.refl _ _).alloc (Nat.le_refl _) _
  have hsz : (w.alloc (.cells #[.bool false, .slice none 0 0] 38)).heap.size = w.heap.size + 1 := by simp
  generalize (w.alloc (.cells #[.bool false, .slice none 0 0] 38)) = W at *
  have HS : Hid (W.heap.size = w.heap.size + 1) := hsz
  clear hsz
  go_loopw [0, 4, 5] (fun nv dv kv wr => ∃ (k : Nat) (m : Int) (ds : List Int), nv = .int .i64 (m) ∧ 0 ≤ m ∧ m ≤ 9223372036854775808 ∧ ds.length = k ∧ Hid (a = vd ds + pd k * m ∧ U16 ds ∧ wr.ownsRow W.heap.size 3 1 dv k (ds.map (Value.int .i64)) ∧ Below W.heap.size W wr)) (fun nv _ _ _ => (intOf nv).natAbs)
  case atStart => exact ⟨0, a, [], rfl, by omega, by omega, rfl, by simp [vd, pd_zero], u16_nil, World.ownsRow_nil _ _ _ _, Below.refl _ _⟩
  case round =>
    obtain ⟨k, m, ds, rfl, hm0, hm1, hkl, H⟩ := hrel
    have hBr := H.out.2.2.2
    have HV : Hid (a = vd ds + pd k * m ∧ U16 ds) := ⟨H.out.1, H.out.2.1⟩
    have HO : Hid (wr.ownsRow W.heap.size 3 1 u4 k (ds.map (Value.int .i64))) := H.out.2.2.1
    clear H
    have hb2r := hb2.later hBr
    have HK : Hid (0 < m → k < 4) := fun hm => by
      rcases Nat.lt_or_ge k 4 with h | h
      · exact h
      · exfalso
        have e1 := pd_mono h
        have e2 : pd 4 = 18446744073709551616 := rfl
        have e3 := vd_nonneg HV.out.2
        have e4 : pd k * 1 ≤ pd k * m := Int.mul_le_mul_of_nonneg_left (by omega) (Int.le_of_lt (pd_pos k))
        have e5 := HV.out.1
        omega
    have HL : Hid (ds.length = k) := hkl
    by_cases hlt : 0 < m
    · have hk4 := HK.out hlt
      obtain ⟨hi, hz0, hz1, hz2⟩ := HI.out
      clear hkl
      have q1 : m.tmod 65536 = m % 65536 := Int.tmod_eq_emod_of_nonneg (by omega)
      have q2 : m.tdiv 65536 = m / 65536 := Int.tdiv_eq_ediv_of_nonneg (by omega)
      have q5 : (m != 0) = true := by rw [bne_iff_ne]; omega
      have hkl := HL.out
      clear hkl
      · have q6 : ¬ m % 65536 < 0 := by omega
        go_wp2_with (refine wpList_append_lies _ rfl _ _ 36 rfl W.heap.size 3 i0 (.int .i64 0) 1 8 Tryz.underlying36 hi hz0 hz1 hz2 rfl (by decide) u4 k (ds.map (Value.int .i64)) rfl (HO.out.alloc _) ⟨wr.heap.size, 0, none⟩ 1 1 [.int .i64 (m % 65536)] rfl rfl ?_ (fun x hx => by simp at hx; subst hx; rfl) (by decide) (by unfold maxLen; omega) (by omega) (by have := hBr.size; simp; omega) _ rfl ?_; exact World.news_of_block (heap_alloc_new wr _); intro g cap w3 hown3 hgrow3 hat3 hlt3; have hB3 : Below W.heap.size W w3 := (bel_alw hBr).grown hgrow3 (by have := hBr.size; simp; omega) (fun q hq => (HO.out.lt q hq).1))
        refine ⟨⟨k + 1, m / 65536, ds ++ [m % 65536], by go_num, by omega, by omega, by have := HL.out; simp; omega, ?_, u16_append HV.out.2 (u16_one (by omega)), ?_, hB3⟩, by simp [intOf]; omega⟩
        · rw [vd_append, vd_one, pd_succ, HL.out, HV.out.1]
          have := cut16 (pd k) m
          omega
        · rw [List.map_append]
          exact hown3
    · obtain rfl : m = 0 := by omega
      have hform : ∃ q cap, u4 = .slice q k cap ∧ k ≤ cap ∧ cap ≤ maxLen ∧ Rd wr q .i64 ds ∧ Go.Proofs.YtkbgeggflhfleaaGreatDoor.From W.heap.size q := by
        have hown := HO.out
        rcases hown.2 with ⟨h1, h2⟩ | ⟨g, cap, cur, h1, hbg, _, h4, h5, _⟩
        · refine ⟨none, 0, by rw [h1, h2], by omega, Nat.zero_le _, ?_, from_none⟩
          have : ds = [] := List.eq_nil_of_length_eq_zero (by omega)
          rw [this]; exact Rd.nil
        · subst h1
          exact ⟨_, cap, rfl, h4, h5, rd_owns hown, from_new hbg⟩
      obtain ⟨q, cap, rfl, hq1, hq2, hq3, hq4⟩ := hform
      have hva : a = vd ds := by have := HV.out.1; omega
      have HA : Hid (a = vd ds) := hva
      clear hva
      have hq2' := hq2
      unfold maxLen at hq2'
      go_wp2_with fail
      refine (rtrim_any false q k cap ds _ hkl hq1 hq2 hq3).mono ?_
      rintro e w4 ⟨rfl, hb4⟩
      obtain ⟨z0, z1, z2, z3⟩ := resbox hb4 hb2r.c0 hb2r.c1 hb2r.f0 hb2r.f1
      go_wp2
      have hsW := HS.out
      have htl : tlen ds ≤ 4 := by
        rcases Nat.lt_or_ge 4 (tlen ds) with h | h
        · exfalso
          have e1 := vd_pos_of_top HV.out.2 (by omega)
          have e2 : pd 4 ≤ pd (tlen ds - 1) := pd_mono (by omega)
          have e3 : pd 4 = 18446744073709551616 := rfl
          have e5 := HA.out
          omega
        · exact h
      refine bodyPost_ret (v := .agg #[.bool (nsg false ds), .slice q (tlen ds) (tlen ds)]) (by simp [results, Tryz.results25, go_sem, z0, z1]) rfl ?_
      exact end_rn hbw (Nat.le_refl _) (by omega) hBr hb4 hq3 hq4 HV.out.2 (by omega) (by rw [HA.out]; rfl) htl
theorem rOf_any (z : Int) (w : World) (h0 : -9223372036854775808 ≤ z) (h1 : z ≤ 9223372036854775807) : Calls Tryz.prog 25 #[.int .i64 z] w (RAns 4 z w) := by
  by_cases h : z < 0
  · have := rOf_neg (-z) w (by omega) (by omega)
    rwa [Int.neg_neg] at this
  · exact rOf_pos z w (by omega) h1
set_option maxRecDepth 100000 in
theorem rNeg_rn {w : World} {s : Bool} {p : Option Addr} {n : Nat} {xs : List Int} (h : RN w s p n xs) :
    Calls Tryz.prog 60 #[.agg #[.bool s, .slice p n n]] w fun e w' => ∃ s', e = .returned (.agg #[.bool s', .slice p n n]) ∧ RN w' s' p n xs ∧ Hid (rval s' xs = - rval s xs) ∧ Below w.heap.size w w' := by
  have hlt := h.lt
  have HL : Hid (0 < n → ∀ x, p = some x → x.block < w.heap.size) := hlt
  clear hlt
  have hsm := h.sml
  have htl := h.nrm
  have HT : Hid (tlen xs = n) := htl
  clear htl
  go_enter Tryz.func60, Tryz.ntmps60
  go_wp2_with fail
  have hb2 : Bx ((w.alloc (.cells #[.bool s, .slice p n n] 38)).alloc (.cells #[.bool false, .slice none 0 0] 38)) (w.heap.size + 1) (.bool false) (.slice none 0 0) := Bx.new _ _ _ (World.size_alloc ..).symm
  have hbw : Below w.heap.size w ((w.alloc (.cells #[.bool s, .slice p n n] 38)).alloc (.cells #[.bool false, .slice none 0 0] 38)) := ((Below.refl _ _).alloc (Nat.le_refl _) _).alloc (by simp) _
  generalize ((w.alloc (.cells #[.bool s, .slice p n n] 38)).alloc (.cells #[.bool false, .slice none 0 0] 38)) = W at *
  refine (rtrim_any (!s) p n n xs _ h.len (Nat.le_refl _) (by unfold maxLen; omega) (h.rd.below hbw)).mono ?_
  rw [HT.out]
  rintro e w4 ⟨rfl, hb4⟩
  obtain ⟨c0, c1, f0, f1⟩ := resbox hb4 hb2.c0 hb2.c1 hb2.f0 hb2.f1
  go_wp2
  refine bodyPost_ret (v := .agg #[.bool (nsg (!s) xs), .slice p n n]) (by simp [results, Tryz.results60, go_sem, c0, c1]) rfl ?_
  have hR : RN w4 (nsg (!s) xs) p n xs := ⟨h.len, (h.rd.below hbw).below hb4, h.u, h.nrm, fun h0 => by rw [nsg, if_pos (by rw [HT.out]; exact h0)], h.sml⟩
  refine ⟨_, rfl, (hR.set (fun hn x hx e => by have := HL.out hn x hx; simp at e; omega) _).set (fun hn x hx e => by have := HL.out hn x hx; simp at e; omega) _, ?_, ((bnext' hbw hb4).setCell (by simp) _).setCell (by simp) _⟩
  show rval _ xs = _
  have e := rval_nsg (!s) h.u
  rw [tr_self (by rw [HT.out, h.len]), rval_not] at e
  exact e
structure RQ (w : World) (s : Bool) (p : Option Addr) (n : Nat) (ds : List Int) (t : Bool) (q : Option Addr) (m : Nat) (es : List Int) (r : Rat) : Prop where
  num : RN w s p n ds
  den : RN w t q m es
  nv : rval s ds = r.num
  dv : rval t es = (r.den : Int)
def MkPost (r : Rat) (w : World) (e : Ending) (w' : World) : Prop :=
  ∃ s p n ds t q m es, e = .returned (.agg #[.bool s, .slice p n n, .bool t, .slice q m m]) ∧ RQ w' s p n ds t q m es r ∧ Go.Proofs.YtkbgeggflhfleaaGreatDoor.From w.heap.size p ∧ Go.Proofs.YtkbgeggflhfleaaGreatDoor.From w.heap.size q ∧ Below w.heap.size w w'
theorem RN.set4 {w : World} {s : Bool} {p : Option Addr} {n : Nat} {ds : List Int} (h : RN w s p n ds) {g : Nat} (hg : 0 < n → Off g p) (u v x y : Value) : RN ((((w.setCell ⟨g, 0, none⟩ u).setCell ⟨g, 1, none⟩ v).setCell ⟨g, 2, none⟩ x).setCell ⟨g, 3, none⟩ y) s p n ds :=
  (((h.set (a := ⟨g, 0, none⟩) hg u).set (a := ⟨g, 1, none⟩) hg v).set (a := ⟨g, 2, none⟩) hg x).set (a := ⟨g, 3, none⟩) hg y
set_option maxRecDepth 100000 in
theorem Make_den (s t : Bool) (p q : Option Addr) (n m : Nat) (ds es : List Int) (w : World) (hA : RN w s p n ds) (hB : RN w t q m es) (h0 : rval t es = 0) :
    Calls Tryz.prog 24 #[.agg #[.bool s, .slice p n n], .agg #[.bool t, .slice q m m]] w (MkPost 0 w) := by
  have H0 := (show Hid _ from h0)
  clear h0
  go_enter Tryz.func24, Tryz.ntmps24
  go_wp2_with fail
  have hA0 : Bx (((w.alloc (.cells #[.bool s, .slice p n n] 38)).alloc (.cells #[.bool t, .slice q m m] 38)).alloc (.cells #[.bool false, .slice none 0 0, .bool false, .slice none 0 0] 40)) w.heap.size (.bool s) (.slice p n n) := ((Bx.new _ _ _ rfl).alloc _).alloc _
  have hB0 : Bx (((w.alloc (.cells #[.bool s, .slice p n n] 38)).alloc (.cells #[.bool t, .slice q m m] 38)).alloc (.cells #[.bool false, .slice none 0 0, .bool false, .slice none 0 0] 40)) (w.heap.size + 1) (.bool t) (.slice q m m) := (Bx.new _ _ _ (by simp)).alloc _
  have hR0 : Bq (((w.alloc (.cells #[.bool s, .slice p n n] 38)).alloc (.cells #[.bool t, .slice q m m] 38)).alloc (.cells #[.bool false, .slice none 0 0, .bool false, .slice none 0 0] 40)) (w.heap.size + 1 + 1) (.bool false) (.slice none 0 0) (.bool false) (.slice none 0 0) := Bq.new _ _ _ _ _ (by simp)
  have hW : Below w.heap.size w (((w.alloc (.cells #[.bool s, .slice p n n] 38)).alloc (.cells #[.bool t, .slice q m m] 38)).alloc (.cells #[.bool false, .slice none 0 0, .bool false, .slice none 0 0] 40)) := (((Below.refl _ _).alloc (Nat.le_refl _) _).alloc (by simp) _).alloc (by simp; omega) _
  generalize ((w.alloc (.cells #[.bool s, .slice p n n] 38)).alloc (.cells #[.bool t, .slice q m m] 38)).alloc (.cells #[.bool false, .slice none 0 0, .bool false, .slice none 0 0] 40) = W at *
  have hA1 := hA.below hW
  have hB1 := hB.below hW
  refine (rSign_any t q m m es _ hB1.u hB1.nrm).mono ?_
  rintro e w1 ⟨rfl, hb1⟩
  rw [H0.out, isgn_zero rfl]
  have hBX := hb1
  go_wp2_with fail
  refine (rOf_any 0 _ (by decide) (by decide)).mono ?_
  rintro e w2 ⟨s2, p2, n2, d2, rfl, hR2, hv2, hn2, hF2, hb2⟩
  go_wp2_with fail
  refine (rOf_any 1 _ (by decide) (by decide)).mono ?_
  rintro e w3 ⟨s3, p3, n3, d3, rfl, hR3, hv3, hn3, hF3, hb3⟩
  have hbx := bnext' hBX hb2
  have hby := bnext' hbx hb3
  obtain ⟨r0, r1, r2, r3, f0, f1, f2, f3⟩ := hR0.later hby
  have sR := hR0.lt
  have sX := hBX.size
  have sY := hbx.size
  have sW := hW.size
  go_wp2
  refine bodyPost_ret (v := .agg #[.bool s2, .slice p2 n2 n2, .bool s3, .slice p3 n3 n3]) (by simp [results, Tryz.results24, go_sem, r0, r1, r2, r3]) rfl ⟨s2, p2, n2, d2, s3, p3, n3, d3, rfl, ⟨?_, ?_, by rw [hv2]; rfl, by rw [hv3]; rfl⟩, fun a ha => ?_, fun a ha => ?_, ?_⟩
  · exact (hR2.below hb3).set4 (fun _ => off_from hF2 (by omega)) _ _ _ _
  · exact hR3.set4 (fun _ => off_from hF3 (by omega)) _ _ _ _
  · have := hF2 a ha; omega
  · have := hF3 a ha; omega
  · exact bset4 (bnext' hW hby) (by omega) _ _ _ _
set_option maxRecDepth 100000 in
theorem Make_num (s t : Bool) (p q : Option Addr) (n m : Nat) (ds es : List Int) (w : World) (hA : RN w s p n ds) (hB : RN w t q m es) (h0 : rval t es ≠ 0) (h1 : rval s ds = 0) :
    Calls Tryz.prog 24 #[.agg #[.bool s, .slice p n n], .agg #[.bool t, .slice q m m]] w (MkPost 0 w) := by
  obtain ⟨vt, hvt, hv0⟩ : ∃ v, isgn (rval t es) = v ∧ ¬ v = 0 := by
    rcases (show 0 < rval t es ∨ rval t es < 0 by omega) with h | h
    · exact ⟨1, isgn_pos h, by decide⟩
    · exact ⟨-1, isgn_neg h, by decide⟩
  have HV := (show Hid _ from hvt)
  have H1 := (show Hid _ from h1)
  clear h0 h1 hvt
  go_enter Tryz.func24, Tryz.ntmps24
  go_wp2_with fail
  have hA0 : Bx (((w.alloc (.cells #[.bool s, .slice p n n] 38)).alloc (.cells #[.bool t, .slice q m m] 38)).alloc (.cells #[.bool false, .slice none 0 0, .bool false, .slice none 0 0] 40)) w.heap.size (.bool s) (.slice p n n) := ((Bx.new _ _ _ rfl).alloc _).alloc _
  have hB0 : Bx (((w.alloc (.cells #[.bool s, .slice p n n] 38)).alloc (.cells #[.bool t, .slice q m m] 38)).alloc (.cells #[.bool false, .slice none 0 0, .bool false, .slice none 0 0] 40)) (w.heap.size + 1) (.bool t) (.slice q m m) := (Bx.new _ _ _ (by simp)).alloc _
  have hR0 : Bq (((w.alloc (.cells #[.bool s, .slice p n n] 38)).alloc (.cells #[.bool t, .slice q m m] 38)).alloc (.cells #[.bool false, .slice none 0 0, .bool false, .slice none 0 0] 40)) (w.heap.size + 1 + 1) (.bool false) (.slice none 0 0) (.bool false) (.slice none 0 0) := Bq.new _ _ _ _ _ (by simp)
  have hW : Below w.heap.size w (((w.alloc (.cells #[.bool s, .slice p n n] 38)).alloc (.cells #[.bool t, .slice q m m] 38)).alloc (.cells #[.bool false, .slice none 0 0, .bool false, .slice none 0 0] 40)) := (((Below.refl _ _).alloc (Nat.le_refl _) _).alloc (by simp) _).alloc (by simp; omega) _
  generalize ((w.alloc (.cells #[.bool s, .slice p n n] 38)).alloc (.cells #[.bool t, .slice q m m] 38)).alloc (.cells #[.bool false, .slice none 0 0, .bool false, .slice none 0 0] 40) = W at *
  have hA1 := hA.below hW
  have hB1 := hB.below hW
  refine (rSign_any t q m m es _ hB1.u hB1.nrm).mono ?_
  rintro e w1 ⟨rfl, hb1⟩
  rw [HV.out]
  have a0 := (hA0.later hb1).c0
  have a1 := (hA0.later hb1).c1
  go_wp2_with fail
  have hA2 := hA1.below hb1
  refine (rSign_any s p n n ds _ hA2.u hA2.nrm).mono ?_
  rintro e w1' ⟨rfl, hb1'⟩
  rw [H1.out, isgn_zero rfl]
  have hBX := bnext' hb1 hb1'
  clear a0 a1
  go_wp2_with fail
  refine (rOf_any 0 _ (by decide) (by decide)).mono ?_
  rintro e w2 ⟨s2, p2, n2, d2, rfl, hR2, hv2, hn2, hF2, hb2⟩
  go_wp2_with fail
  refine (rOf_any 1 _ (by decide) (by decide)).mono ?_
  rintro e w3 ⟨s3, p3, n3, d3, rfl, hR3, hv3, hn3, hF3, hb3⟩
  have hbx := bnext' hBX hb2
  have hby := bnext' hbx hb3
  obtain ⟨r0, r1, r2, r3, f0, f1, f2, f3⟩ := hR0.later hby
  have sR := hR0.lt
  have sX := hBX.size
  have sY := hbx.size
  have sW := hW.size
  go_wp2
  refine bodyPost_ret (v := .agg #[.bool s2, .slice p2 n2 n2, .bool s3, .slice p3 n3 n3]) (by simp [results, Tryz.results24, go_sem, r0, r1, r2, r3]) rfl ⟨s2, p2, n2, d2, s3, p3, n3, d3, rfl, ⟨?_, ?_, by rw [hv2]; rfl, by rw [hv3]; rfl⟩, fun a ha => ?_, fun a ha => ?_, ?_⟩
  · exact (hR2.below hb3).set4 (fun _ => off_from hF2 (by omega)) _ _ _ _
  · exact hR3.set4 (fun _ => off_from hF3 (by omega)) _ _ _ _
  · have := hF2 a ha; omega
  · have := hF3 a ha; omega
  · exact bset4 (bnext' hW hby) (by omega) _ _ _ _
end Go.Proofs.YtkbgeggflhfleaaGreatDoor
