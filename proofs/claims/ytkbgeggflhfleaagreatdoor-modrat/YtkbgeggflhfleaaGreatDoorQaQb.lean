/-
  limbs.takeTimes.
-/
import Derived.Test.YtkbgeggflhfleaaGreatDoorUaWhPnWk
import Derived.Test.YtkbgeggflhfleaaGreatDoorMmWa
import Derived.Deep.DeepCutAuto
namespace Go.Proofs.YtkbgeggflhfleaaGreatDoor
open Go.RowKit
set_option linter.unusedVariables false
set_option linter.unusedSimpArgs false
set_option maxHeartbeats 8000000
def TTPost (g o n : Nat) (Z R vs : List Int) (d : Int) (w : World) (e : Ending) (w' : World) : Prop :=
  ∃ (R' : List Int) (lk : Bool), e = .returned (.bool lk) ∧ R'.length = n + 1 ∧ U32 R' ∧ Hid (val R' = val R - d * val vs + (if lk then pw (n + 1) else 0)) ∧ Row w' g 134 .u32 (mid Z o R') ∧ w.grownBy w' (some g)
theorem takeTimes_any (g o cap : Nat) (Z R : List Int) (p : Option Addr) (n nc : Nat) (vs : List Int) (d : Int) (w : World)
    (hz : o + (n + 1) ≤ Z.length) (hcap : cap ≤ 1099511627776) (hn : n + 1 ≤ cap) (hRl : R.length = n + 1) (hR : Row w g 134 .u32 (mid Z o R)) (hU : U32 R) (hv : vs.length = n)
    (hV : Rd w p .u32 vs) (hVu : U32 vs) (hoff : 0 < n → Off g p) (hd0 : 0 ≤ d) (hd1 : d < 4294967296) :
    Calls Tryz.prog 243 #[.slice (some ⟨g, o, none⟩) (n + 1) cap, .slice p n nc, .int .u64 d] w (TTPost g o n Z R vs d w) := by
  have HN : Hid (R.length = n + 1 ∧ vs.length = n) := ⟨hRl, hv⟩
  clear hRl hv
  go_enter Tryz.func243, Tryz.ntmps243
  go_wp2
  go_loopw [7, 15] (fun cv iv wr => ∃ (i : Nat) (c : Int) (T : List Int), i ≤ n ∧ iv = .int .i64 i ∧ cv = .int .u64 c ∧ 0 ≤ c ∧ c < 4294967296 ∧ Hid (T.length = n + 1 ∧ U32 T ∧ val T = val R - d * val (vs.take i) + pw i * c ∧ Row wr g 134 .u32 (mid Z o T) ∧ w.grownBy wr (some g))) (fun _ iv _ => n - (intOf iv).toNat)
  case atStart => exact ⟨0, 0, R, Nat.zero_le _, rfl, rfl, by decide, by decide, HN.out.1, hU, by simp [val], hR, grownBy_refl _ _⟩
  case round =>
    obtain ⟨i, c, T, hi, rfl, rfl, hc0, hc1, HT⟩ := hrel
    by_cases hlt : i < n
    · have hltI : (i : Int) < (n : Int) := by omega
      obtain ⟨hl, hu, hval, hr, hg⟩ := HT.out
      obtain ⟨b, off, rfl, hcell⟩ := (hV.keptOff hg (hoff (by omega))) (by have := HN.out; omega)
      have hcv := hcell i (by have := HN.out; omega)
      have hct := hr.mid_cell (by omega) i (by omega)
      have hfz := hr.frozen (o + i)
      obtain ⟨bt0, bt1⟩ := hu i
      obtain ⟨bm0, bm1⟩ := mul_bd (⟨hd0, hd1⟩ : 0 ≤ d ∧ d < 4294967296) (hVu i)
      have bm2 : d * gx vs i ≤ 18446744065119617025 := bm1
      obtain ⟨bv0, bv1⟩ := hVu i
      have hi1 : (i : Int) < (n : Int) + 1 := by omega
      clear hl hu hval hr hg hcell
      by_cases hb : gx T i < (d * gx vs i + c) % 4294967296
      · have q1 : IntKind.u32.wrap (gx T i - (d * gx vs i + c) % 4294967296) = gx T i - (d * gx vs i + c) % 4294967296 + 4294967296 := by rw [IntKind.wrap_u32']; omega
        go_wp2
        obtain ⟨hl, hu, hval, hr, hg⟩ := HT.out
        refine ⟨⟨i + 1, _, T.set i (gx T i - (d * gx vs i + c) % 4294967296 + 4294967296), by omega, by go_num, rfl, by omega, by omega, by rw [List.length_set]; exact hl, u32_set hu _ (by omega), ?_, hr.mid_set (by omega) i (by omega) _, grownBy_setCell hg _ _⟩, by simp [intOf]; omega⟩
        rw [val_set T _ _ (by omega), val_take_succ vs i (by have := HN.out; omega), pw_succ, hval]
        have e := cut_step (pw i) (d * gx vs i + c)
        have e2 : d * (val (vs.take i) + pw i * gx vs i) = d * val (vs.take i) + pw i * (d * gx vs i) := by
          rw [Int.mul_add]; congr 1; simp only [Int.mul_assoc, Int.mul_left_comm]
        rw [e2]
        simp only [Int.mul_add, Int.mul_sub] at e ⊢
        omega
      · have q1 : IntKind.u32.wrap (gx T i - (d * gx vs i + c) % 4294967296) = gx T i - (d * gx vs i + c) % 4294967296 := by rw [IntKind.wrap_u32']; omega
        go_wp2
        obtain ⟨hl, hu, hval, hr, hg⟩ := HT.out
        refine ⟨⟨i + 1, _, T.set i (gx T i - (d * gx vs i + c) % 4294967296), by omega, by go_num, rfl, by omega, by omega, by rw [List.length_set]; exact hl, u32_set hu _ (by omega), ?_, hr.mid_set (by omega) i (by omega) _, grownBy_setCell hg _ _⟩, by simp [intOf]; omega⟩
        rw [val_set T _ _ (by omega), val_take_succ vs i (by have := HN.out; omega), pw_succ, hval]
        have e := cut_step (pw i) (d * gx vs i + c)
        have e2 : d * (val (vs.take i) + pw i * gx vs i) = d * val (vs.take i) + pw i * (d * gx vs i) := by
          rw [Int.mul_add]; congr 1; simp only [Int.mul_assoc, Int.mul_left_comm]
        rw [e2]
        simp only [Int.mul_add, Int.mul_sub] at e ⊢
        omega
    · obtain rfl : i = n := by omega
      have hltI : ¬ (i : Int) < (i : Int) := by omega
      obtain ⟨hl, hu, hval, hr, hg⟩ := HT.out
      have hct := hr.mid_cell (by omega) i (by omega)
      have hfz := hr.frozen (o + i)
      obtain ⟨bt0, bt1⟩ := hu i
      clear hl hu hval hr hg
      by_cases hb : gx T i < c
      · have q1 : IntKind.u32.wrap (gx T i - c) = gx T i - c + 4294967296 := by rw [IntKind.wrap_u32']; omega
        go_wp2
        go_ret
        obtain ⟨hl, hu, hval, hr, hg⟩ := HT.out
        refine ⟨T.set i (gx T i - c + 4294967296), true, rfl, by rw [List.length_set]; exact hl, u32_set hu _ (by omega), ?_, hr.mid_set (by omega) i (by omega) _, grownBy_setCell hg _ _⟩
        show _ = _
        rw [val_set T _ _ (by omega), hval, List.take_of_length_le (by have := HN.out; omega), if_pos rfl, pw_succ]
        simp only [Int.mul_add, Int.mul_sub]
        omega
      · have q1 : IntKind.u32.wrap (gx T i - c) = gx T i - c := by rw [IntKind.wrap_u32']; omega
        go_wp2
        go_ret
        obtain ⟨hl, hu, hval, hr, hg⟩ := HT.out
        refine ⟨T.set i (gx T i - c), false, rfl, by rw [List.length_set]; exact hl, u32_set hu _ (by omega), ?_, hr.mid_set (by omega) i (by omega) _, grownBy_setCell hg _ _⟩
        show _ = _
        rw [val_set T _ _ (by omega), hval, List.take_of_length_le (by have := HN.out; omega), if_neg (by decide)]
        simp only [Int.mul_sub]
        omega
structure Hd (P lu lv u0 u1 u2 nx hd U V : Int) : Prop where
  p : 0 < P
  lu0 : 0 ≤ lu
  lu1 : lu < P
  lv0 : 0 ≤ lv
  lv1 : lv < P
  a0 : 0 ≤ u0 ∧ u0 < 4294967296
  a1 : 0 ≤ u1 ∧ u1 < 4294967296
  a2 : 0 ≤ u2 ∧ u2 < 4294967296
  b0 : 0 ≤ nx ∧ nx < 4294967296
  b1 : 1 ≤ hd ∧ hd < 4294967296
  u : U = lu + P * (u0 + 4294967296 * (u1 + 4294967296 * u2))
  v : V = lv + P * (nx + 4294967296 * hd)
theorem mul_le_left {a b P : Int} (hP : 0 ≤ P) (h : a ≤ b) : P * a ≤ P * b := Int.mul_le_mul_of_nonneg_left h hP
theorem Hd.vpos {P lu lv u0 u1 u2 nx hd U V : Int} (h : Hd P lu lv u0 u1 u2 nx hd U V) : P * 4294967296 ≤ V := by
  have := mul_le_left (Int.le_of_lt h.p) (show (4294967296 : Int) ≤ nx + 4294967296 * hd by have := h.b0; have := h.b1; omega)
  have := h.v
  have := h.lv0
  omega
theorem Hd.vp {P lu lv u0 u1 u2 nx hd U V : Int} (h : Hd P lu lv u0 u1 u2 nx hd U V) : 0 < V := by
  have := h.vpos
  have := h.p
  omega
theorem Hd.ult {P lu lv u0 u1 u2 nx hd U V : Int} (h : Hd P lu lv u0 u1 u2 nx hd U V) {k : Int} (hk : u0 + 4294967296 * (u1 + 4294967296 * u2) + 1 ≤ k) : U < P * k := by
  have e := mul_le_left (Int.le_of_lt h.p) hk
  rw [Int.mul_add, Int.mul_one] at e
  have := h.u
  have := h.lu1
  omega
theorem Hd.q0 {P lu lv u0 u1 u2 nx hd U V : Int} (h : Hd P lu lv u0 u1 u2 nx hd U V) : 0 ≤ U / V ∧ (U / V) * V ≤ U ∧ U < (U / V + 1) * V := by
  have hV := h.vp
  have hU : 0 ≤ U := by
    have := Int.mul_nonneg (Int.le_of_lt h.p) (show 0 ≤ u0 + 4294967296 * (u1 + 4294967296 * u2) by have := h.a0; have := h.a1; have := h.a2; omega)
    have := h.u
    have := h.lu0
    omega
  refine ⟨Int.ediv_nonneg hU (by omega), Int.ediv_mul_le U (by omega), Int.lt_ediv_add_one_mul_self U hV⟩
theorem Hd.top {P lu lv u0 u1 u2 nx hd U V : Int} (h : Hd P lu lv u0 u1 u2 nx hd U V) (hlt : U < 4294967296 * V) : u2 ≤ hd := by
  rcases Int.lt_or_le hd u2 with hc | hc
  · exfalso
    have e1 : P * (4294967296 * (4294967296 * (hd + 1))) ≤ P * (u0 + 4294967296 * (u1 + 4294967296 * u2)) := mul_le_left (Int.le_of_lt h.p) (by have := h.a0; have := h.a1; omega)
    have e2 : P * (nx + 4294967296 * hd + 1) ≤ P * (4294967296 * (hd + 1)) := mul_le_left (Int.le_of_lt h.p) (by have := h.b0; omega)
    rw [Int.mul_add P (nx + 4294967296 * hd) 1, Int.mul_one] at e2
    have e3 : P * (4294967296 * (4294967296 * (hd + 1))) = 4294967296 * (P * (4294967296 * (hd + 1))) := by rw [Int.mul_left_comm]
    have := h.u
    have := h.v
    have := h.lu0
    have := h.lv1
    omega
  · exact hc
theorem Hd.first {P lu lv u0 u1 u2 nx hd U V : Int} (h : Hd P lu lv u0 u1 u2 nx hd U V) : U / V ≤ (u1 + 4294967296 * u2) / hd := by
  obtain ⟨q0, q1, q2⟩ := h.q0
  have hh := h.b1
  apply Int.le_ediv_of_mul_le (by omega)
  rcases Int.lt_or_le (u1 + 4294967296 * u2) (U / V * hd) with hc | hc
  · exfalso
    have e1 : U < P * (4294967296 * (U / V * hd)) := h.ult (by have := h.a0; omega)
    have e2 : P * (4294967296 * hd) ≤ V := by
      have := mul_le_left (Int.le_of_lt h.p) (show 4294967296 * hd ≤ nx + 4294967296 * hd by have := h.b0; omega)
      have := h.v
      have := h.lv0
      omega
    have e3 := mul_le_left q0 e2
    have e4 : U / V * (P * (4294967296 * hd)) = P * (4294967296 * (U / V * hd)) := by
      rw [Int.mul_left_comm, Int.mul_left_comm (U / V) 4294967296]
    omega
  · exact hc
theorem Hd.less {P lu lv u0 u1 u2 nx hd U V d : Int} (h : Hd P lu lv u0 u1 u2 nx hd U V) (hd0 : 0 ≤ d) (hc : u0 + 4294967296 * (u1 + 4294967296 * u2) < d * (nx + 4294967296 * hd)) : U / V < d := by
  obtain ⟨q0, q1, q2⟩ := h.q0
  rcases Int.lt_or_le (U / V) d with hq | hq
  · exact hq
  · exfalso
    have e1 : U < P * (d * (nx + 4294967296 * hd)) := h.ult (by omega)
    have e2 : P * (nx + 4294967296 * hd) ≤ V := by have := h.v; have := h.lv0; omega
    have e3 := mul_le_left hd0 e2
    have e4 : d * (P * (nx + 4294967296 * hd)) = P * (d * (nx + 4294967296 * hd)) := Int.mul_left_comm ..
    have e5 : d * V ≤ U / V * V := Int.mul_le_mul_of_nonneg_right hq (Int.le_of_lt h.vp)
    omega
theorem Hd.near {P lu lv u0 u1 u2 nx hd U V d : Int} (h : Hd P lu lv u0 u1 u2 nx hd U V) (hd0 : 0 ≤ d) (hd1 : d < 4294967296) (hc : d * (nx + 4294967296 * hd) ≤ u0 + 4294967296 * (u1 + 4294967296 * u2)) : d ≤ U / V + 1 := by
  have e1 := mul_le_left (Int.le_of_lt h.p) hc
  have e4 : d * (P * (nx + 4294967296 * hd)) = P * (d * (nx + 4294967296 * hd)) := Int.mul_left_comm ..
  have e2 : d * V = d * lv + d * (P * (nx + 4294967296 * hd)) := by rw [h.v, Int.mul_add]
  have e3 : d * lv ≤ 4294967296 * P := by
    have a1 : d * lv ≤ d * P := mul_le_left hd0 (Int.le_of_lt h.lv1)
    have a2 : d * P ≤ 4294967296 * P := Int.mul_le_mul_of_nonneg_right (Int.le_of_lt hd1) (Int.le_of_lt h.p)
    omega
  have e5 := h.vpos
  have e6 := h.u
  have e7 := h.lu0
  have e8 : (d - 1) * V ≤ U := by rw [Int.sub_mul, Int.one_mul]; omega
  have := Int.le_ediv_of_mul_le h.vp e8
  omega
theorem hd_of {us vs : List Int} (m : Nat) (hu : us.length = m + 3) (hv : vs.length = m + 2) (hU : U32 us) (hV : U32 vs) (ht : gx vs (m + 1) ≠ 0) : Hd (pw m) (val (us.take m)) (val (vs.take m)) (gx us m) (gx us (m + 1)) (gx us (m + 2)) (gx vs m) (gx vs (m + 1)) (val us) (val vs) := by
  have l1 := val_lt (u32_take hU m)
  have l2 := val_lt (u32_take hV m)
  rw [List.length_take, Nat.min_eq_left (by omega)] at l1 l2
  refine ⟨pw_pos m, val_nonneg (u32_take hU m), l1, val_nonneg (u32_take hV m), l2, hU m, hU (m + 1), hU (m + 2), hV m, ⟨by have := hV (m + 1); omega, (hV (m + 1)).2⟩, ?_, ?_⟩
  · have e : val us = val (us.take (m + 3)) := by rw [List.take_of_length_le (by omega)]
    have p1 : pw (m + 1) = 4294967296 * pw m := pw_succ m
    have p2 : pw (m + 2) = 4294967296 * (4294967296 * pw m) := by rw [pw_succ, pw_succ]
    rw [e, val_take_succ us (m + 2) (by omega), val_take_succ us (m + 1) (by omega), val_take_succ us m (by omega), p1, p2]
    simp only [Int.mul_add, Int.mul_assoc, Int.mul_left_comm (pw m)]
    omega
  · have e : val vs = val (vs.take (m + 2)) := by rw [List.take_of_length_le (by omega)]
    rw [e, val_take_succ vs (m + 1) (by omega), val_take_succ vs m (by omega), pw_succ]
    simp only [Int.mul_add, Int.mul_assoc, Int.mul_left_comm (pw m)]
    omega
def GPost (us vs : List Int) (w : World) (e : Ending) (w' : World) : Prop :=
  ∃ d : Int, e = .returned (.int .u64 d) ∧ 0 ≤ d ∧ d < 4294967296 ∧ Hid (val us / val vs ≤ d ∧ d ≤ val us / val vs + 1) ∧ Below w.heap.size w w'
set_option maxRecDepth 100000 in
theorem guess_any (b1 o1 b2 o2 m ucap nc : Nat) (us vs : List Int) (w : World) (hul : us.length = m + 3) (hvl : vs.length = m + 2) (hm : m ≤ 1000000000)
    (hX : Rd w (some ⟨b1, o1, none⟩) .u32 us) (hU : U32 us) (hY : Rd w (some ⟨b2, o2, none⟩) .u32 vs) (hV : U32 vs) (ht : gx vs (m + 1) ≠ 0) (hlt : val us < 4294967296 * val vs) :
    Calls Tryz.prog 242 #[.slice (some ⟨b1, o1, none⟩) (m + 3) ucap, .slice (some ⟨b2, o2, none⟩) (m + 2) nc] w (GPost us vs w) := by
  have HD : Hid (Hd (pw m) (val (us.take m)) (val (vs.take m)) (gx us m) (gx us (m + 1)) (gx us (m + 2)) (gx vs m) (gx vs (m + 1)) (val us) (val vs)) := hd_of m hul hvl hU hV ht
  have HLT : Hid (val us < 4294967296 * val vs) := hlt
  have htop : gx us (m + 2) ≤ gx vs (m + 1) := HD.out.top hlt
  obtain ⟨b1', o1', e1, hc1⟩ := hX (by omega)
  cases e1
  obtain ⟨b2', o2', e2, hc2⟩ := hY (by omega)
  cases e2
  have u0 := hc1 m (by omega)
  have u1 := hc1 (m + 1) (by omega)
  have u2 := hc1 (m + 2) (by omega)
  have v0 := hc2 m (by omega)
  have v1 := hc2 (m + 1) (by omega)
  obtain ⟨a00, a01⟩ := hU m
  obtain ⟨a10, a11⟩ := hU (m + 1)
  obtain ⟨a20, a21⟩ := hU (m + 2)
  obtain ⟨c00, c01⟩ := hV m
  obtain ⟨c10, c11⟩ := hV (m + 1)
  have hhd1 : 1 ≤ gx vs (m + 1) := by omega
  have hj := or_join (gx us (m + 2)) (gx us (m + 1)) a20 a21 a10 a11
  have hh0 : (gx vs (m + 1) == 0) = false := beq_eq_false_iff_ne.2 ht
  have HU0 : Hid (w.cell? ⟨b1, o1 + m, none⟩ = some (.int .u32 (gx us m))) := u0
  clear hc1 hc2 hul hvl hlt ht hX hY
  go_enter Tryz.func242, Tryz.ntmps242
  go_wp2
  go_quiet (fail)
  have hB1 := below_drewN (Below.refl w.heap.size w) nq
  have u0' : (w.drewN nq).cell? ⟨b1, o1 + m, none⟩ = some (.int .u32 (gx us m)) := u0
  have v0' : (w.drewN nq).cell? ⟨b2, o2 + m, none⟩ = some (.int .u32 (gx vs m)) := v0
  have v1' : (w.drewN nq).cell? ⟨b2, o2 + (m + 1), none⟩ = some (.int .u32 (gx vs (m + 1))) := v1
  generalize w.drewN nq = w1 at *
  clear u0 u1 u2 v0 v1 hj
  go_wp2
  go_quiet (fail)
  have hB2 := below_drewN hB1 nq
  have u0 : (w1.drewN nq).cell? ⟨b1, o1 + m, none⟩ = some (.int .u32 (gx us m)) := u0'
  generalize w1.drewN nq = w2 at *
  clear u0' v0' v1'
  generalize hT : gx us (m + 2) * 4294967296 + gx us (m + 1) = T at *
  generalize hhd : gx vs (m + 1) = hd at *
  generalize hnx : gx vs m = nx at *
  have HT : Hid (gx us (m + 2) * 4294967296 + gx us (m + 1) = T ∧ gx vs (m + 1) = hd ∧ gx vs m = nx) := ⟨hT, hhd, hnx⟩
  have hT0 : 0 ≤ T := by omega
  have hT1 : T < 18446744073709551616 := by omega
  have hle : gx us (m + 2) ≤ hd := htop
  clear htop
  have HQ : Hid (val us / val vs < 4294967296 ∧ val us / val vs ≤ T / hd) := by
    have h := HD.out
    refine ⟨?_, ?_⟩
    · have h1 := h.q0.2.1
      rcases Int.lt_or_le (val us / val vs) 4294967296 with hc | hc
      · exact hc
      · exfalso
        have h2 : 4294967296 * val vs ≤ val us / val vs * val vs := Int.mul_le_mul_of_nonneg_right hc (Int.le_of_lt h.vp)
        have := HLT.out
        omega
    · have h1 := h.first
      have e : gx us (m + 1) + 4294967296 * gx us (m + 2) = T := by omega
      rwa [e] at h1
  clear hT hhd hnx
  go_upto_region 4 with fail
  go_cut [9] (fun dv w' => ∃ d : Int, dv = .int .u64 d ∧ 0 ≤ d ∧ d < 4294967296 ∧ d * hd ≤ T ∧ Hid (val us / val vs ≤ d ∧ T - d * hd < 8589934592) ∧ w' = w2)
  case first =>
    have hq0 : 0 ≤ T / hd := Int.ediv_nonneg hT0 (by omega)
    have hq1 := Int.ediv_mul_le T (show hd ≠ 0 by omega)
    have hq2 := Int.lt_ediv_add_one_mul_self T (show 0 < hd by omega)
    rw [Int.add_mul, Int.one_mul] at hq2
    have HE : Hid (T / hd * hd ≤ T ∧ T < T / hd * hd + hd) := ⟨hq1, hq2⟩
    clear hq1 hq2
    by_cases hmin : T / hd ≤ 4294967295
    · have hmn : min (T / hd) 4294967295 = T / hd := Int.min_eq_left hmin
      go_wp2
      go_meet
      exact ⟨T / hd, rfl, hq0, by omega, HE.out.1, ⟨HQ.out.2, by have := HE.out.2; omega⟩, rfl⟩
    · have hmn : min (T / hd) 4294967295 = 4294967295 := Int.min_eq_right (by omega)
      go_wp2
      go_meet
      have e1 : 4294967296 * hd ≤ T / hd * hd := Int.mul_le_mul_of_nonneg_right (by omega) (by omega)
      exact ⟨4294967295, rfl, by decide, by decide, by have := HE.out.1; omega, ⟨by have := HQ.out.1; omega, by have := HT.out.1; omega⟩, rfl⟩
  case rest =>
    obtain ⟨d, rfl, hd0, hd1, hdT, HDQ, rfl⟩ := hcut
    have hdp : 0 ≤ d * hd := Int.mul_nonneg hd0 (by omega)
    have w1' : IntKind.u64.wrap (d * hd) = d * hd := by rw [IntKind.wrap_u64]; omega
    have w2' : IntKind.u64.wrap (T - d * hd) = T - d * hd := by rw [IntKind.wrap_u64]; omega
    go_wp2
    go_loopw [9, 10] (fun dv rv wr => ∃ (d r : Int), dv = .int .u64 d ∧ rv = .int .u64 r ∧ 0 ≤ d ∧ d < 4294967296 ∧ 0 ≤ r ∧ r < 8589934592 ∧ Hid (T = d * hd + r ∧ val us / val vs ≤ d) ∧ Hid (Below w.heap.size w wr)) (fun dv _ _ => (intOf dv).toNat)
    case atStart => exact ⟨d, T - d * hd, rfl, rfl, hd0, hd1, by omega, HDQ.out.2, ⟨by omega, HDQ.out.1⟩, hB2⟩
    case round =>
      obtain ⟨d2, r, rfl, rfl, hd20, hd21, hr0, hr1, HR, HBr⟩ := hrel
      have g0 := cell_later (show Below w.heap.size w wr from HBr.out) HU0.out
      obtain ⟨bm0, bm1⟩ := mul_bd (⟨hd20, hd21⟩ : 0 ≤ d2 ∧ d2 < 4294967296) (⟨c00, c01⟩ : 0 ≤ nx ∧ nx < 4294967296)
      have x1 : IntKind.u64.wrap (d2 * nx) = d2 * nx := by rw [IntKind.wrap_u64]; omega
      have hU2 : Hid (gx us m + 4294967296 * (gx us (m + 1) + 4294967296 * gx us (m + 2)) = gx us m + 4294967296 * (d2 * hd + r)) := by
        have e1 := HT.out.1
        have e2 := HR.out.1
        show _ = _
        omega
      have hV2 : Hid (d2 * (nx + 4294967296 * hd) = d2 * nx + 4294967296 * (d2 * hd)) := by
        show _ = _
        rw [Int.mul_add, Int.mul_left_comm]
      by_cases hr : r < 4294967296
      · have x2 : IntKind.u64.wrap (r * 4294967296) = r * 4294967296 := by rw [IntKind.wrap_u64]; omega
        have hj := or_join r (gx us m) hr0 hr a00 a01
        by_cases hc : r * 4294967296 + gx us m < d2 * nx
        · have hlq : Hid (val us / val vs < d2) := HD.out.less hd20 (by rw [hU2.out, hV2.out]; omega)
          have hd2p : 1 ≤ d2 := by have := HD.out.q0.1; have := hlq.out; omega
          go_wp2
          have hB3 := HBr.out
          refine ⟨⟨d2 - 1, r + hd, by go_num, by go_num, by omega, by omega, by omega, by omega, ⟨?_, by have := hlq.out; omega⟩, hB3⟩, by simp [intOf]; omega⟩
          rw [HR.out.1, Int.sub_mul, Int.one_mul]; omega
        · have hcd : decide (r * 4294967296 + gx us m < d2 * nx) = false := decide_eq_false hc
          go_wp2
          have hB3 := HBr.out
          go_ret
          exact ⟨d2, rfl, hd20, hd21, ⟨HR.out.2, HD.out.near hd20 hd21 (by rw [hU2.out, hV2.out]; omega)⟩, hB3⟩
      · have hrd : decide (r < 4294967296) = false := decide_eq_false hr
        go_wp2
        have hB3 := HBr.out
        go_ret
        exact ⟨d2, rfl, hd20, hd21, ⟨HR.out.2, HD.out.near hd20 hd21 (by rw [hU2.out, hV2.out]; omega)⟩, hB3⟩
end Go.Proofs.YtkbgeggflhfleaaGreatDoor
