/-
  The bits of a window: gauge.window, ashlarref9.Window.
-/
import Derived.Test.YtcdfckjlmifjiaaGreatCuZjRzCwYhFe
import Derived.Test.YtcdfckjlmifjiaaGreatWiWjWvZeZfLhLjZgZhWnWoWpBgBfZiZnZpRtRqYi
import Derived.Test.YtcdfckjlmifjiaaGreatAbBnUjBoAhEkOaOcOd
import Derived.Test.YtcdfckjlmifjiaaGreatTaTbGaGbTcRg
import Derived.Deep.DeepFit
import Derived.Test.YtcdfckjlmifjiaaGreatDyAwOn
namespace Go.Proofs.YtcdfckjlmifjiaaGreat
open Go.RowKit
set_option linter.unusedVariables false
set_option linter.unusedSimpArgs false

/-- The bits of a rational; of a window. -/
def qb (r : Rat) : Nat := zb r.num + zb (r.den : Int)
def wbt (zs : List Rat) : Nat := zs.foldl (fun m z => max m (qb z)) 0
theorem wbt_take (zs : List Rat) (j : Nat) (h : j < zs.length) : wbt (zs.take (j + 1)) = max (wbt (zs.take j)) (qb (gq zs j)) := by
  rw [take_snocq zs j h, wbt, List.foldl_append]
  rfl
theorem ib_two {b c : Nat} {r : Rat} (h1 : IB b (r.num.natAbs : Int)) (h2 : IB c (r.den : Int)) : b + c = qb r := by
  have e1 := h1.uniq (zb_ib r.num)
  have e2 := h2.uniq (by have := zb_ib (r.den : Int); rwa [Int.natAbs_natCast] at this)
  rw [e1, e2, qb]
theorem rBits_qb {w : World} {K : Nat} {e0 : Rq} {r : Rat} (h : EM K w r e0) (hK : K ≤ 400) :
    Calls Tryz.prog 60 #[.agg #[.bool e0.s, .slice e0.p e0.n e0.c, .bool e0.t, .slice e0.q e0.m e0.d]] w fun e w' => e = .returned (.int .i64 (qb r : Int)) ∧ Below w.heap.size w w' := by
  obtain ⟨h1, h2, h3⟩ := h
  rw [h2, h3]
  refine (rBits_q h1 hK).mono ?_
  rintro e w' ⟨b, c, rfl, hb, hc, hw⟩
  exact ⟨by rw [← ib_two hb.out hc.out]; push_cast; rfl, hw⟩
theorem qBits_qb {w : World} {e0 : Rq} {r : Rat} (h : EQ 24 w r e0) :
    Calls Tryz.prog 56 #[.agg #[.bool e0.s, .slice e0.p e0.n e0.c, .bool e0.t, .slice e0.q e0.m e0.d]] w fun e w' => e = .returned (.int .i64 (qb r : Int)) ∧ Below w.heap.size w w' := by
  refine (qBits_q h (by decide)).mono ?_
  rintro e w' ⟨b, c, rfl, hb, hc, hw⟩
  exact ⟨by rw [← ib_two hb.out hc.out]; push_cast; rfl, hw⟩
theorem zb_mono {a b : Int} (h : a.natAbs ≤ b.natAbs) : zb a ≤ zb b := by
  have h1 := zb_ib a
  have h2 := zb_ib b
  rcases h1.2.2 with h3 | h3
  · omega
  · rcases Nat.lt_or_ge (zb b) (zb a) with h4 | h4
    · exfalso
      have h5 : (2 : Int) ^ zb b ≤ 2 ^ (zb a - 1) := p2_mono (by omega)
      have h6 := h2.2.1
      have h7 : ((a.natAbs : Nat) : Int) ≤ (b.natAbs : Int) := by omega
      omega
    · exact h4
/-- No rational has more bits in lowest terms, but that 0 has 1. -/
theorem qb_le (a b : Int) : qb (Rat.divInt a b) ≤ max (zb a + zb b) 1 := by
  by_cases hb : b = 0
  · subst hb
    rw [Rat.divInt_zero]
    have : qb 0 = 1 := by decide
    omega
  · by_cases ha : a = 0
    · subst ha
      rw [Rat.zero_divInt]
      have : qb 0 = 1 := by decide
      omega
    · have h1 := zb_mono (a := (Rat.divInt a b).num) (b := a) (by have := rat_num_le a b; omega)
      have h2 := zb_mono (a := ((Rat.divInt a b).den : Int)) (b := b) (by have := rat_den_le a b hb; omega)
      unfold qb
      omega
theorem zb_pw {z : Int} {K : Nat} (h : (z.natAbs : Int) < pw K) : zb z ≤ 32 * K := by
  have h1 := zb_ib z
  rw [pw_two] at h
  rcases h1.2.2 with h3 | h3
  · omega
  · rcases Nat.lt_or_ge (32 * K) (zb z) with h4 | h4
    · exfalso
      have h5 : (2 : Int) ^ (32 * K) ≤ 2 ^ (zb z - 1) := p2_mono (by omega)
      omega
    · exact h4
theorem qb_bd {w : World} {r : Rat} {e0 : Rq} (h : EQ 24 w r e0) : qb r ≤ 1600 := by
  have h1 := AQ.sz h (by decide)
  have h2 := zb_pw h1.1
  have h3 := zb_pw h1.2
  unfold qb
  omega
theorem wbt_bd (zs : List Rat) (M : Nat) (h : ∀ j, j < zs.length → qb (gq zs j) ≤ M) : ∀ j, j ≤ zs.length → wbt (zs.take j) ≤ M
  | 0, _ => by simp [wbt]
  | j + 1, hj => by
    rw [wbt_take zs j (by omega)]
    have := wbt_bd zs M h j (by omega)
    have := h j (by omega)
    omega
set_option maxHeartbeats 2000000 in
set_option maxRecDepth 100000 in
/-- ashlarref9.Window. -/
theorem rWindow9_any {w : World} {K : Nat} {p : Option Addr} {n nc : Nat} {rs0 : List Rq} {zs : List Rat} (h : WA (EM K) w p n nc rs0 zs) (hK : K ≤ 400) (hn : n ≤ 1000000) (hz : ∀ j, j < n → qb (gq zs j) ≤ 1000000) :
    Calls Tryz.prog 30 #[.slice p n nc] w fun e w' => e = .returned (.int .i64 (wbt zs : Int)) ∧ Below w.heap.size w w' := by
  have HX : Hid (WA (EM K) w p n nc rs0 zs) := h
  have HZ : Hid (∀ j, j < n → qb (gq zs j) ≤ 1000000) := hz
  clear h hz
  go_enter Tryz.func30, Tryz.ntmps30
  go_wp2_with fail
  go_loopw [3, 4] (fun mv iv wr => ∃ k : Nat, k ≤ n ∧ iv = .int .i64 k ∧ mv = .int .i64 (wbt (zs.take k)) ∧ Hid (Below w.heap.size w wr)) (fun _ iv _ => n - (intOf iv).toNat)
  case atStart => exact ⟨0, Nat.zero_le _, by go_num, by simp [wbt], Below.refl _ _⟩
  case round =>
    obtain ⟨k, hk, rfl, rfl, H⟩ := hrel
    rcases Nat.lt_or_ge k n with hlt | hge
    · have hPA := HX.out.below (lasts_EM K) H.out
      obtain ⟨b, o, hp, hc⟩ := hPA.rl (by rw [hPA.el]; omega)
      subst hp
      obtain ⟨c0, c1, c2, c3⟩ := hc k (by rw [hPA.el]; omega)
      have hev := hPA.ev k (by omega)
      have HT : Hid (wbt (zs.take (k + 1)) = max (wbt (zs.take k)) (qb (gq zs k))) := wbt_take zs k (by rw [hPA.zl]; omega)
      have i1 : (k : Int) < (n : Int) := by omega
      generalize gr rs0 k = e0 at *
      have hcall := rBits_qb hev hK
      clear hc hPA hev
      generalize qb (gq zs k) = t at *
      generalize wbt (zs.take k) = d at *
      go_wp2_with fail
      go_fit hcall
      rintro e w1 ⟨rfl, hb1⟩
      have HB1 : Hid (Below w.heap.size w w1) := bnext' H.out hb1
      clear c0 c1 c2 c3 hcall hb1
      by_cases hdt : d < t
      · have j1 : (d : Int) < (t : Int) := by omega
        have HM : Hid (wbt (zs.take (k + 1)) = t) := by show _ = _; have := HT.out; omega
        go_wp2
        go_roundw
        case rel => exact ⟨k + 1, by omega, by go_num, by rw [HM.out], HB1.out⟩
        case measure => simp [intOf]; omega
      · have j1 : ¬ (d : Int) < (t : Int) := by omega
        have HM : Hid (wbt (zs.take (k + 1)) = d) := by show _ = _; have := HT.out; omega
        go_wp2
        go_roundw
        case rel => exact ⟨k + 1, by omega, by go_num, by rw [HM.out], HB1.out⟩
        case measure => simp [intOf]; omega
    · obtain rfl : k = n := by omega
      have i1 : ¬ (k : Int) < (k : Int) := by omega
      have HZ' : Hid (zs.take k = zs) := List.take_of_length_le (by rw [HX.out.zl]; exact Nat.le_refl _)
      go_wp2
      go_ret
      exact ⟨by rw [HZ'.out]; rfl, H.out⟩
end Go.Proofs.YtcdfckjlmifjiaaGreat
/-
  estimate.windows.
-/
namespace Go.Proofs.YtcdfckjlmifjiaaGreat
open Go.RowKit
set_option linter.unusedVariables false
set_option linter.unusedSimpArgs false

set_option maxHeartbeats 4000000 in
set_option maxRecDepth 100000 in
/-- estimate.windows. -/
theorem eWindows_any (w : World) (la ba lb bb : Int) (hla : InI la) (hba : InI ba) (hlb : InI lb) (hbb : InI bb) :
    Calls Tryz.prog 62 #[.agg #[.int .i64 la, .int .i64 ba], .agg #[.int .i64 lb, .int .i64 bb]] w fun x w' => x = .returned (.int .i64 (tms [sms [la, lb, 1], sms [ba, bb, 1]])) ∧ Below w.heap.size w w' := by
  have hW : Below w.heap.size w ((w.alloc (.cells #[.int .i64 la, .int .i64 ba] 68)).alloc (.cells #[.int .i64 lb, .int .i64 bb] 68)) := (((Below.refl _ _).alloc (by simp) _).alloc (by simp) _)
  have x_la : ((w.alloc (.cells #[.int .i64 la, .int .i64 ba] 68)).alloc (.cells #[.int .i64 lb, .int .i64 bb] 68)).cell? ⟨w.heap.size, 0, none⟩ = some (.int .i64 la) := by simp [go_sem]
  have x_ba : ((w.alloc (.cells #[.int .i64 la, .int .i64 ba] 68)).alloc (.cells #[.int .i64 lb, .int .i64 bb] 68)).cell? ⟨w.heap.size, 1, none⟩ = some (.int .i64 ba) := by simp [go_sem]
  have x_lb : ((w.alloc (.cells #[.int .i64 la, .int .i64 ba] 68)).alloc (.cells #[.int .i64 lb, .int .i64 bb] 68)).cell? ⟨w.heap.size + 1, 0, none⟩ = some (.int .i64 lb) := by simp [go_sem]
  have x_bb : ((w.alloc (.cells #[.int .i64 la, .int .i64 ba] 68)).alloc (.cells #[.int .i64 lb, .int .i64 bb] 68)).cell? ⟨w.heap.size + 1, 1, none⟩ = some (.int .i64 bb) := by simp [go_sem]
  have sW : ((w.alloc (.cells #[.int .i64 la, .int .i64 ba] 68)).alloc (.cells #[.int .i64 lb, .int .i64 bb] 68)).heap.size = w.heap.size + 1 + 1 := by simp
  go_enter Tryz.func62, Tryz.ntmps62
  go_wp2_with fail
  generalize (w.alloc (.cells #[.int .i64 la, .int .i64 ba] 68)).alloc (.cells #[.int .i64 lb, .int .i64 bb] 68) = W at *
  have mq1_5 : ∀ x ∈ [la, lb, 1], InI x := (List.forall_mem_cons.2 ⟨hla, (List.forall_mem_cons.2 ⟨hlb, (List.forall_mem_cons.2 ⟨inI_lit rfl, (List.forall_mem_nil _)⟩)⟩)⟩)
  have kq1_5 : InI (sms [la, lb, 1]) := sms_in mq1_5
  have mq1_11 : ∀ x ∈ [ba, bb, 1], InI x := (List.forall_mem_cons.2 ⟨hba, (List.forall_mem_cons.2 ⟨hbb, (List.forall_mem_cons.2 ⟨inI_lit rfl, (List.forall_mem_nil _)⟩)⟩)⟩)
  have kq1_11 : InI (sms [ba, bb, 1]) := sms_in mq1_11
  have mq1_13 : ∀ x ∈ [sms [la, lb, 1], sms [ba, bb, 1]], InI x := (List.forall_mem_cons.2 ⟨kq1_5, (List.forall_mem_cons.2 ⟨kq1_11, (List.forall_mem_nil _)⟩)⟩)
  have kq1_13 : InI (tms [sms [la, lb, 1], sms [ba, bb, 1]]) := tms_in mq1_13
  refine region_ints [(0, 5), (1, 6), (2, 7), (3, 8), (4, 9), (5, 10), (6, 11), (7, 12), (8, 13), (9, 14), (10, 15), (11, 16), (12, 17), (13, 18), (14, 4)]
    [.val (.pointer (some ⟨w.heap.size, 0, none⟩)), .val (.int .i64 (la)), .val (.pointer (some ⟨w.heap.size + 1, 0, none⟩)), .val (.int .i64 (lb)), .row 3 [la, lb, 1], .val (.int .i64 (sms [la, lb, 1])), .val (.pointer (some ⟨w.heap.size, 1, none⟩)), .val (.int .i64 (ba)), .val (.pointer (some ⟨w.heap.size + 1, 1, none⟩)), .val (.int .i64 (bb)), .row 3 [ba, bb, 1], .val (.int .i64 (sms [ba, bb, 1])), .row 2 [sms [la, lb, 1], sms [ba, bb, 1]], .val (.int .i64 (tms [sms [la, lb, 1], sms [ba, bb, 1]])), .val (.int .i64 (tms [sms [la, lb, 1], sms [ba, bb, 1]]))]
    (by kernel_rfl) (by kernel_rfl) (by kernel_rfl) (by decide) (by decide) (by rfl) ?_ ?_
  · refine ⟨?_, ?_, ?_, ?_, ?_, ?_, ?_, ?_, ?_, ?_, ?_, ?_, ?_, ?_, ?_, trivial⟩
    · exact ok_pure _ rfl fun ρ v R => by simp [execOp, go_sem, R.old 2 (by decide)]
    · exact ok_pure _ rfl fun ρ v R => by have x := cell_later R.b x_la; simp [execOp, go_sem, R.dep 0 5 _ (by decide) rfl rfl, x]
    · exact ok_pure _ rfl fun ρ v R => by simp [execOp, go_sem, R.old 3 (by decide)]
    · exact ok_pure _ rfl fun ρ v R => by have x := cell_later R.b x_lb; simp [execOp, go_sem, R.dep 2 7 _ (by decide) rfl rfl, x]
    · exact ok_build 3 [la, lb, 1] 3 rfl (fun v => rd_lit v _ _) fun ρ v R => by simp [execOp, go_sem, R.con, R.dep 1 6 _ (by decide) rfl rfl, R.dep 3 8 _ (by decide) rfl rfl]
    · exact ok_call 53 _ rfl fun ρ v R => by
        obtain ⟨b, h3, h4⟩ := R.row 4 9 3 [la, lb, 1] (by decide) rfl rfl
        exact ⟨_, by simp [execOp, go_sem, h3, R.fn], sum_lit [la, lb, 1] 3 rfl (by decide) h4 mq1_5⟩
    · exact ok_pure _ rfl fun ρ v R => by simp [execOp, go_sem, R.old 2 (by decide)]
    · exact ok_pure _ rfl fun ρ v R => by have x := cell_later R.b x_ba; simp [execOp, go_sem, R.dep 6 11 _ (by decide) rfl rfl, x]
    · exact ok_pure _ rfl fun ρ v R => by simp [execOp, go_sem, R.old 3 (by decide)]
    · exact ok_pure _ rfl fun ρ v R => by have x := cell_later R.b x_bb; simp [execOp, go_sem, R.dep 8 13 _ (by decide) rfl rfl, x]
    · exact ok_build 3 [ba, bb, 1] 3 rfl (fun v => rd_lit v _ _) fun ρ v R => by simp [execOp, go_sem, R.con, R.dep 7 12 _ (by decide) rfl rfl, R.dep 9 14 _ (by decide) rfl rfl]
    · exact ok_call 53 _ rfl fun ρ v R => by
        obtain ⟨b, h3, h4⟩ := R.row 10 15 3 [ba, bb, 1] (by decide) rfl rfl
        exact ⟨_, by simp [execOp, go_sem, h3, R.fn], sum_lit [ba, bb, 1] 3 rfl (by decide) h4 mq1_11⟩
    · exact ok_build 2 [sms [la, lb, 1], sms [ba, bb, 1]] 3 rfl (fun v => rd_lit v _ _) fun ρ v R => by simp [execOp, go_sem, R.dep 11 16 _ (by decide) rfl rfl, R.dep 5 10 _ (by decide) rfl rfl]
    · exact ok_call 49 _ rfl fun ρ v R => by
        obtain ⟨b, h3, h4⟩ := R.row 12 17 2 [sms [la, lb, 1], sms [ba, bb, 1]] (by decide) rfl rfl
        exact ⟨_, by simp [execOp, go_sem, h3, R.fn], times_lit [sms [la, lb, 1], sms [ba, bb, 1]] 2 rfl (by decide) h4 mq1_13⟩
    · exact ok_pure _ rfl fun ρ v R => by simp [execOp, go_sem, R.dep 13 18 _ (by decide) rfl rfl]
  intro vals w1 hb' hv
  have v0 : vals 0 = _ := hv (0, 5) (by decide)
  have v1 : vals 1 = _ := hv (1, 6) (by decide)
  have v2 : vals 2 = _ := hv (2, 7) (by decide)
  have v3 : vals 3 = _ := hv (3, 8) (by decide)
  obtain ⟨b4, v4, -⟩ := hv (4, 9) (by decide)
  simp only at v4
  have v5 : vals 5 = _ := hv (5, 10) (by decide)
  have v6 : vals 6 = _ := hv (6, 11) (by decide)
  have v7 : vals 7 = _ := hv (7, 12) (by decide)
  have v8 : vals 8 = _ := hv (8, 13) (by decide)
  have v9 : vals 9 = _ := hv (9, 14) (by decide)
  obtain ⟨b10, v10, -⟩ := hv (10, 15) (by decide)
  simp only at v10
  have v11 : vals 11 = _ := hv (11, 16) (by decide)
  obtain ⟨b12, v12, -⟩ := hv (12, 17) (by decide)
  simp only at v12
  have v13 : vals 13 = _ := hv (13, 18) (by decide)
  have v14 : vals 14 = _ := hv (14, 4) (by decide)
  simp only [List.foldl, v0, v1, v2, v3, v4, v5, v6, v7, v8, v9, v10, v11, v12, v13, v14, List.setIfInBounds_toArray, List.set_cons_succ, List.set_cons_zero]
  clear hv v0 v1 v2 v3 v4 v5 v6 v7 v8 v9 v10 v11 v12 v13 v14
  have hb1 : Below W.heap.size W w1 := hb'
  clear hb'
  have y_la := cell_later hb1 x_la
  have y_ba := cell_later hb1 x_ba
  have y_lb := cell_later hb1 x_lb
  have y_bb := cell_later hb1 x_bb
  clear y_la y_ba y_lb y_bb
  have HBE : Hid (Below w.heap.size w w1) := bnext' hW hb1
  go_wp2
  go_ret
  exact ⟨rfl, HBE.out⟩
end Go.Proofs.YtcdfckjlmifjiaaGreat
/-
  The greater of two.
-/
namespace Go.Proofs.YtcdfckjlmifjiaaGreat
open Go.RowKit
theorem inI_max {a b : Int} (h : InI a) (k : InI b) : InI (max a b) := by
  unfold InI at h k ⊢
  omega
theorem if_max (a b : Int) : (if a < b then b else a) = max a b := by
  split <;> omega
end Go.Proofs.YtcdfckjlmifjiaaGreat
/-
  gauge.window.
-/
namespace Go.Proofs.YtcdfckjlmifjiaaGreat
open Go.RowKit
set_option linter.unusedVariables false
set_option linter.unusedSimpArgs false
set_option maxHeartbeats 4000000 in
set_option maxRecDepth 100000 in
theorem gWindow_any {w : World} {p : Option Addr} {n nc : Nat} {rs0 : List Rq} {zs : List Rat} (h : WA (EQ 24) w p n nc rs0 zs) (hn : n ≤ 1000000) :
    Calls Tryz.prog 28 #[.slice p n nc] w fun e w' => e = .returned (.agg #[.int .i64 n, .int .i64 (wbt zs : Int)]) ∧ Below w.heap.size w w' := by
  have HX : Hid (WA (EQ 24) w p n nc rs0 zs) := h
  have HW : Hid (∀ j, j ≤ n → wbt (zs.take j) ≤ 1600) := fun j hj => wbt_bd zs 1600 (fun i hi => qb_bd (h.ev i (by rw [← h.zl]; exact hi))) j (by rw [h.zl]; exact hj)
  clear h
  go_enter Tryz.func28, Tryz.ntmps28
  go_wp2_with fail
  have hW0 : Below w.heap.size w (w.alloc (.cells #[.int .i64 0, .int .i64 0] 68)) := (Below.refl _ _).alloc (Nat.le_refl _) _
  have hG0 : (w.alloc (.cells #[.int .i64 0, .int .i64 0] 68)).heap[w.heap.size]? = some (.cells #[.int .i64 0, .int .i64 0] 68 (0, 0)) := heap_alloc_new w _
  generalize w.alloc (.cells #[.int .i64 0, .int .i64 0] 68) = W0 at *
  go_loopw [3, 5, 8] (fun mv xv iv wr => ∃ k : Nat, k ≤ n ∧ iv = .int .i64 k ∧ mv = .int .i64 (wbt (zs.take k)) ∧ Hid (Below W0.heap.size W0 wr)) (fun _ _ iv _ => n - (intOf iv).toNat)
  case atStart => exact ⟨0, Nat.zero_le _, by go_num, by simp [wbt], Below.refl _ _⟩
  case round =>
    obtain ⟨k, hk, rfl, rfl, H⟩ := hrel
    rcases Nat.lt_or_ge k n with hlt | hge
    · have hPA := HX.out.below (lasts_EQ 24) (bnext' hW0 H.out)
      obtain ⟨b, o, hp, hc⟩ := hPA.rl (by rw [hPA.el]; omega)
      subst hp
      obtain ⟨c0, c1, c2, c3⟩ := hc k (by rw [hPA.el]; omega)
      have hev := hPA.ev k (by omega)
      have HT : Hid (wbt (zs.take (k + 1)) = max (wbt (zs.take k)) (qb (gq zs k))) := wbt_take zs k (by rw [hPA.zl]; omega)
      have hd1 := HW.out k hk
      have hq1 := qb_bd hev
      have i1 : (k : Int) < (n : Int) := by omega
      generalize gr rs0 k = e0 at *
      generalize gq zs k = y at *
      generalize wbt (zs.take k) = d at *
      have hW1 : Below wr.heap.size wr (wr.alloc (.cells #[.bool e0.s, .slice e0.p e0.n e0.c, .bool e0.t, .slice e0.q e0.m e0.d] 56)) := (Below.refl _ _).alloc (Nat.le_refl _) _
      have hev1 := (lasts_EQ 24).below hev hW1
      have x0 : (wr.alloc (.cells #[.bool e0.s, .slice e0.p e0.n e0.c, .bool e0.t, .slice e0.q e0.m e0.d] 56)).cell? ⟨wr.heap.size, 0, none⟩ = some (.bool e0.s) := by simp [go_sem]
      have x1 : (wr.alloc (.cells #[.bool e0.s, .slice e0.p e0.n e0.c, .bool e0.t, .slice e0.q e0.m e0.d] 56)).cell? ⟨wr.heap.size, 1, none⟩ = some (.slice e0.p e0.n e0.c) := by simp [go_sem]
      have x2 : (wr.alloc (.cells #[.bool e0.s, .slice e0.p e0.n e0.c, .bool e0.t, .slice e0.q e0.m e0.d] 56)).cell? ⟨wr.heap.size, 2, none⟩ = some (.bool e0.t) := by simp [go_sem]
      have x3 : (wr.alloc (.cells #[.bool e0.s, .slice e0.p e0.n e0.c, .bool e0.t, .slice e0.q e0.m e0.d] 56)).cell? ⟨wr.heap.size, 3, none⟩ = some (.slice e0.q e0.m e0.d) := by simp [go_sem]
      clear hc hPA hev
      go_wp2_with fail
      generalize wr.alloc (.cells #[.bool e0.s, .slice e0.p e0.n e0.c, .bool e0.t, .slice e0.q e0.m e0.d] 56) = W1 at *
      obtain ⟨xs, ys, hA1, hA2, hx24, hy24, hval⟩ := id hev1
      have hb1 := fun v (hb : Below W1.heap.size W1 v) => Bits_ev (w := v) (K := 24) (z := ival e0.s xs) (e := ⟨e0.s, e0.p, e0.n, e0.c⟩) ⟨xs, hA1.below hb, rfl, hx24⟩
      have hb2 := fun v (hb : Below W1.heap.size W1 v) => Bits_ev (w := v) (K := 24) (z := ival e0.t ys) (e := ⟨e0.t, e0.q, e0.m, e0.d⟩) ⟨ys, hA2.below hb, rfl, hy24⟩
      have hz1 := zb_le (w := W1) (K := 24) (z := ival e0.s xs) (e := ⟨e0.s, e0.p, e0.n, e0.c⟩) ⟨xs, hA1, rfl, hx24⟩
      have hz2 := zb_le (w := W1) (K := 24) (z := ival e0.t ys) (e := ⟨e0.t, e0.q, e0.m, e0.d⟩) ⟨ys, hA2, rfl, hy24⟩
      have HQ : Hid (qb y ≤ max (zb (ival e0.s xs) + zb (ival e0.t ys)) 1) := by rw [← hval]; exact qb_le _ _
      clear hval hA1 hA2
      simp only at hb1 hb2
      generalize zb (ival e0.s xs) = z1 at *
      generalize zb (ival e0.t ys) = z2 at *
      have vs : IntKind.i64.wrap ((z1 : Int) + (z2 : Int)) = (z1 : Int) + (z2 : Int) := by rw [IntKind.wrap_i64]; omega
      obtain ⟨M, hM⟩ : ∃ M : Int, max ((z1 : Int) + (z2 : Int)) 1 = M := ⟨_, rfl⟩
      obtain ⟨G, hG⟩ : ∃ G : Bool, decide ((d : Int) < M) = G := ⟨_, rfl⟩
      refine region_ints [(0, 12), (1, 13), (2, 14), (3, 15), (4, 16), (5, 17), (6, 18), (7, 19), (8, 20), (9, 21)]
        [.val (.pointer (some ⟨wr.heap.size, 0, none⟩)), .val (.agg #[.bool e0.s, .slice e0.p e0.n e0.c]), .val (.int .i64 z1), .val (.pointer (some ⟨wr.heap.size, 2, none⟩)), .val (.agg #[.bool e0.t, .slice e0.q e0.m e0.d]), .val (.int .i64 z2), .val (.int .i64 ((z1 : Int) + z2)), .val (.int .i64 M), .val (.int .i64 d), .val (.bool G)]
        (by kernel_rfl) (by kernel_rfl) (by kernel_rfl) (by decide) (by decide) (by rfl) ?_ ?_
      · refine ⟨?_, ?_, ?_, ?_, ?_, ?_, ?_, ?_, ?_, ?_, trivial⟩
        · exact ok_pure _ rfl fun ρ v R => by simp [execOp, go_sem, R.old 5 (by decide)]
        · exact ok_pure _ rfl fun ρ v R => by have x0' := cell_later R.b x0; have x1' := cell_later R.b x1; simp [execOp, go_sem, R.dep 0 12 _ (by decide) rfl rfl, x0', x1']
        · exact ok_call 48 _ rfl fun ρ v R => ⟨_, by simp [execOp, go_sem, R.dep 1 13 _ (by decide) rfl rfl, R.fn], hb1 v R.b⟩
        · exact ok_pure _ rfl fun ρ v R => by simp [execOp, go_sem, R.old 5 (by decide)]
        · exact ok_pure _ rfl fun ρ v R => by have x0' := cell_later R.b x2; have x1' := cell_later R.b x3; simp [execOp, go_sem, R.dep 3 15 _ (by decide) rfl rfl, x0', x1']
        · exact ok_call 48 _ rfl fun ρ v R => ⟨_, by simp [execOp, go_sem, R.dep 4 16 _ (by decide) rfl rfl, R.fn], hb2 v R.b⟩
        · exact ok_pure _ rfl fun ρ v R => by simp [execOp, go_sem, R.dep 2 14 _ (by decide) rfl rfl, R.dep 5 17 _ (by decide) rfl rfl, vs]
        · exact ok_pure _ rfl fun ρ v R => by simp [execOp, go_sem, R.dep 6 18 _ (by decide) rfl rfl, R.con, if_max, hM]
        · exact ok_pure _ rfl fun ρ v R => by simp [execOp, go_sem, R.old 3 (by decide)]
        · exact ok_pure _ rfl fun ρ v R => by simp [execOp, go_sem, R.dep 7 19 _ (by decide) rfl rfl, R.dep 8 20 _ (by decide) rfl rfl, hG]
      intro vals w2 hbw hv
      have v0 : vals 0 = _ := hv (0, 12) (by decide)
      have v1 : vals 1 = _ := hv (1, 13) (by decide)
      have v2 : vals 2 = _ := hv (2, 14) (by decide)
      have v3 : vals 3 = _ := hv (3, 15) (by decide)
      have v4 : vals 4 = _ := hv (4, 16) (by decide)
      have v5 : vals 5 = _ := hv (5, 17) (by decide)
      have v6 : vals 6 = _ := hv (6, 18) (by decide)
      have v7 : vals 7 = _ := hv (7, 19) (by decide)
      have v8 : vals 8 = _ := hv (8, 20) (by decide)
      have v9 : vals 9 = _ := hv (9, 21) (by decide)
      simp only [List.foldl, v0, v1, v2, v3, v4, v5, v6, v7, v8, v9, List.setIfInBounds_toArray, List.set_cons_succ, List.set_cons_zero]
      clear hv v0 v1 v2 v3 v4 v5 v6 v7 v8 v9 vs hb1 hb2
      have y0 := cell_later hbw x0
      have y1 := cell_later hbw x1
      have y2 := cell_later hbw x2
      have y3 := cell_later hbw x3
      have HBW : Hid (Below W0.heap.size W0 w2) := bnext' H.out (bnext' hW1 hbw)
      have hcall := qBits_qb ((lasts_EQ 24).below hev1 hbw)
      generalize hq : qb y = qy at *
      have HM : Hid (max ((z1 : Int) + (z2 : Int)) 1 = M ∧ decide ((d : Int) < M) = G) := ⟨hM, hG⟩
      clear hM hG hq hev1 x0 x1 x2 x3 hbw hW1
      cases G with
      | true =>
        obtain ⟨Mx, hMx⟩ : ∃ Mx, wbt (zs.take (k + 1)) = Mx := ⟨_, rfl⟩
        have HEQ : Hid (wbt (zs.take (k + 1)) = Mx) := hMx
        have h4 : max (d : Int) (qy : Int) = (Mx : Int) := by have := HT.out; omega
        clear hMx
        go_wp2_with fail
        go_fit hcall
        rintro e w3 ⟨rfl, hb3⟩
        have HB3 : Hid (Below W0.heap.size W0 w3) := bnext' HBW.out hb3
        clear hcall hb3 y0 y1 y2 y3
        go_wp2
        go_roundw
        case rel => exact ⟨k + 1, by omega, by go_num, by rw [HEQ.out], HB3.out⟩
        case measure => simp [intOf]; omega
      | false =>
        have hmx : Hid (d = wbt (zs.take (k + 1))) := by
          show d = _
          have h1 := HT.out
          have h2 := HQ.out
          obtain ⟨h3, h4⟩ := HM.out
          have h5 := of_decide_eq_false h4
          omega
        clear hcall y0 y1 y2 y3
        go_wp2
        go_roundw
        case rel => exact ⟨k + 1, by omega, by go_num, by rw [← hmx.out], HBW.out⟩
        case measure => simp [intOf]; omega
    · obtain rfl : k = n := by omega
      have i1 : ¬ (k : Int) < (k : Int) := by omega
      have HZ' : Hid (zs.take k = zs) := List.take_of_length_le (by rw [HX.out.zl]; exact Nat.le_refl _)
      rw [HZ'.out]
      have hG4 : wr.heap[w.heap.size]? = some (.cells #[.int .i64 0, .int .i64 0] 68 (0, 0)) := (H.out.block _ (Array.getElem?_eq_some_iff.1 hG0).1).trans hG0
      have z0 : wr.cell? ⟨w.heap.size, 0, none⟩ = some (.int .i64 0) := by simp only [World.cell?]; rw [hG4]; rfl
      have z1 : wr.cell? ⟨w.heap.size, 1, none⟩ = some (.int .i64 0) := by simp only [World.cell?]; rw [hG4]; rfl
      have f0 := frozen_of_row wr _ 0 _ _ hG4
      have f1 := frozen_of_row wr _ 1 _ _ hG4
      have HBE : Hid (Below w.heap.size w wr) := bnext' hW0 H.out
      clear hG4 hG0 hW0 HZ'
      go_wp2_with fail
      refine bodyPost_ret (v := .agg #[.int .i64 k, .int .i64 (wbt zs : Int)]) (by simp [results, Tryz.results28, go_sem, z0, z1]) rfl ⟨rfl, ?_⟩
      exact (HBE.out.setCell (p := ⟨w.heap.size, 0, none⟩) (Nat.le_refl _) _).setCell (p := ⟨w.heap.size, 1, none⟩) (Nat.le_refl _) _
end Go.Proofs.YtcdfckjlmifjiaaGreat
