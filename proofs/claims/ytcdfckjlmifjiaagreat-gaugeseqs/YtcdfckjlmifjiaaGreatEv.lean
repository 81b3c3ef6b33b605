/-
  estimate.Close.
-/
import Derived.Test.YtcdfckjlmifjiaaGreatFfEtEwFh
import Derived.Deep.DeepFit
namespace Go.Proofs.YtcdfckjlmifjiaaGreat
open Go.RowKit
set_option linter.unusedVariables false
set_option linter.unusedSimpArgs false

set_option maxHeartbeats 4000000 in
set_option maxRecDepth 100000 in
/-- estimate.Close. -/
theorem eClose_any (w : World) (r d k s e l la ba lb bb : Int) (hr : InI r) (hd : InI d) (hk : InI k) (hs : InI s) (he : InI e) (hl : InI l) (hla : InI la) (hba : InI ba) (hlb : InI lb) (hbb : InI bb) :
    Calls Tryz.prog 37 #[.agg #[.int .i64 r, .int .i64 d, .int .i64 k], .agg #[.int .i64 s, .int .i64 e, .int .i64 l], .agg #[.int .i64 la, .int .i64 ba], .agg #[.int .i64 lb, .int .i64 bb]] w fun x w' => x = .returned (.int .i64 (max (tms [pms [sms [r, 1], sms [s, 1]], pms [sms [r, 1], sms [s, 1]], pms [sms [r, 1], sms [s, 1]], sms [pms [pms [sms [r, 1], sms [s, 1]], sms [d, e]], 1], sms [k, l, 8]]) (tms [sms [la, lb, 1], sms [ba, bb, 1]]))) ∧ Below w.heap.size w w' := by
  have hW : Below w.heap.size w ((((w.alloc (.cells #[.int .i64 r, .int .i64 d, .int .i64 k] 45)).alloc (.cells #[.int .i64 s, .int .i64 e, .int .i64 l] 45)).alloc (.cells #[.int .i64 la, .int .i64 ba] 68)).alloc (.cells #[.int .i64 lb, .int .i64 bb] 68)) := (((((Below.refl _ _).alloc (by first | (simp; done) | (simp; omega)) _).alloc (by first | (simp; done) | (simp; omega)) _).alloc (by first | (simp; done) | (simp; omega)) _).alloc (by first | (simp; done) | (simp; omega)) _)
  have x_r : ((((w.alloc (.cells #[.int .i64 r, .int .i64 d, .int .i64 k] 45)).alloc (.cells #[.int .i64 s, .int .i64 e, .int .i64 l] 45)).alloc (.cells #[.int .i64 la, .int .i64 ba] 68)).alloc (.cells #[.int .i64 lb, .int .i64 bb] 68)).cell? ⟨w.heap.size, 0, none⟩ = some (.int .i64 r) := by simp [go_sem]
  have x_d : ((((w.alloc (.cells #[.int .i64 r, .int .i64 d, .int .i64 k] 45)).alloc (.cells #[.int .i64 s, .int .i64 e, .int .i64 l] 45)).alloc (.cells #[.int .i64 la, .int .i64 ba] 68)).alloc (.cells #[.int .i64 lb, .int .i64 bb] 68)).cell? ⟨w.heap.size, 1, none⟩ = some (.int .i64 d) := by simp [go_sem]
  have x_k : ((((w.alloc (.cells #[.int .i64 r, .int .i64 d, .int .i64 k] 45)).alloc (.cells #[.int .i64 s, .int .i64 e, .int .i64 l] 45)).alloc (.cells #[.int .i64 la, .int .i64 ba] 68)).alloc (.cells #[.int .i64 lb, .int .i64 bb] 68)).cell? ⟨w.heap.size, 2, none⟩ = some (.int .i64 k) := by simp [go_sem]
  have x_s : ((((w.alloc (.cells #[.int .i64 r, .int .i64 d, .int .i64 k] 45)).alloc (.cells #[.int .i64 s, .int .i64 e, .int .i64 l] 45)).alloc (.cells #[.int .i64 la, .int .i64 ba] 68)).alloc (.cells #[.int .i64 lb, .int .i64 bb] 68)).cell? ⟨w.heap.size + 1, 0, none⟩ = some (.int .i64 s) := by simp [go_sem]
  have x_e : ((((w.alloc (.cells #[.int .i64 r, .int .i64 d, .int .i64 k] 45)).alloc (.cells #[.int .i64 s, .int .i64 e, .int .i64 l] 45)).alloc (.cells #[.int .i64 la, .int .i64 ba] 68)).alloc (.cells #[.int .i64 lb, .int .i64 bb] 68)).cell? ⟨w.heap.size + 1, 1, none⟩ = some (.int .i64 e) := by simp [go_sem]
  have x_l : ((((w.alloc (.cells #[.int .i64 r, .int .i64 d, .int .i64 k] 45)).alloc (.cells #[.int .i64 s, .int .i64 e, .int .i64 l] 45)).alloc (.cells #[.int .i64 la, .int .i64 ba] 68)).alloc (.cells #[.int .i64 lb, .int .i64 bb] 68)).cell? ⟨w.heap.size + 1, 2, none⟩ = some (.int .i64 l) := by simp [go_sem]
  have x_la : ((((w.alloc (.cells #[.int .i64 r, .int .i64 d, .int .i64 k] 45)).alloc (.cells #[.int .i64 s, .int .i64 e, .int .i64 l] 45)).alloc (.cells #[.int .i64 la, .int .i64 ba] 68)).alloc (.cells #[.int .i64 lb, .int .i64 bb] 68)).cell? ⟨w.heap.size + 1 + 1, 0, none⟩ = some (.int .i64 la) := by simp [go_sem]
  have x_ba : ((((w.alloc (.cells #[.int .i64 r, .int .i64 d, .int .i64 k] 45)).alloc (.cells #[.int .i64 s, .int .i64 e, .int .i64 l] 45)).alloc (.cells #[.int .i64 la, .int .i64 ba] 68)).alloc (.cells #[.int .i64 lb, .int .i64 bb] 68)).cell? ⟨w.heap.size + 1 + 1, 1, none⟩ = some (.int .i64 ba) := by simp [go_sem]
  have x_lb : ((((w.alloc (.cells #[.int .i64 r, .int .i64 d, .int .i64 k] 45)).alloc (.cells #[.int .i64 s, .int .i64 e, .int .i64 l] 45)).alloc (.cells #[.int .i64 la, .int .i64 ba] 68)).alloc (.cells #[.int .i64 lb, .int .i64 bb] 68)).cell? ⟨w.heap.size + 1 + 1 + 1, 0, none⟩ = some (.int .i64 lb) := by simp [go_sem]
  have x_bb : ((((w.alloc (.cells #[.int .i64 r, .int .i64 d, .int .i64 k] 45)).alloc (.cells #[.int .i64 s, .int .i64 e, .int .i64 l] 45)).alloc (.cells #[.int .i64 la, .int .i64 ba] 68)).alloc (.cells #[.int .i64 lb, .int .i64 bb] 68)).cell? ⟨w.heap.size + 1 + 1 + 1, 1, none⟩ = some (.int .i64 bb) := by simp [go_sem]
  have sW : ((((w.alloc (.cells #[.int .i64 r, .int .i64 d, .int .i64 k] 45)).alloc (.cells #[.int .i64 s, .int .i64 e, .int .i64 l] 45)).alloc (.cells #[.int .i64 la, .int .i64 ba] 68)).alloc (.cells #[.int .i64 lb, .int .i64 bb] 68)).heap.size = w.heap.size + 1 + 1 + 1 + 1 := by simp
  go_enter Tryz.func37, Tryz.ntmps37
  go_wp2_with fail
  generalize (((w.alloc (.cells #[.int .i64 r, .int .i64 d, .int .i64 k] 45)).alloc (.cells #[.int .i64 s, .int .i64 e, .int .i64 l] 45)).alloc (.cells #[.int .i64 la, .int .i64 ba] 68)).alloc (.cells #[.int .i64 lb, .int .i64 bb] 68) = W at *
  have mq1_3 : ∀ x ∈ [r, 1], InI x := (List.forall_mem_cons.2 ⟨hr, (List.forall_mem_cons.2 ⟨inI_lit rfl, (List.forall_mem_nil _)⟩)⟩)
  have kq1_3 : InI (sms [r, 1]) := sms_in mq1_3
  have mq1_7 : ∀ x ∈ [s, 1], InI x := (List.forall_mem_cons.2 ⟨hs, (List.forall_mem_cons.2 ⟨inI_lit rfl, (List.forall_mem_nil _)⟩)⟩)
  have kq1_7 : InI (sms [s, 1]) := sms_in mq1_7
  have mq1_9 : ∀ x ∈ [sms [r, 1], sms [s, 1]], InI x := (List.forall_mem_cons.2 ⟨kq1_3, (List.forall_mem_cons.2 ⟨kq1_7, (List.forall_mem_nil _)⟩)⟩)
  have kq1_9 : InI (pms [sms [r, 1], sms [s, 1]]) := pms_in mq1_9
  refine region_ints [(0, 11), (1, 12), (2, 13), (3, 14), (4, 15), (5, 16), (6, 17), (7, 18), (8, 19), (9, 20), (10, 9)]
    [.val (.pointer (some ⟨w.heap.size, 0, none⟩)), .val (.int .i64 (r)), .row 2 [r, 1], .val (.int .i64 (sms [r, 1])), .val (.pointer (some ⟨w.heap.size + 1, 0, none⟩)), .val (.int .i64 (s)), .row 2 [s, 1], .val (.int .i64 (sms [s, 1])), .row 2 [sms [r, 1], sms [s, 1]], .val (.int .i64 (pms [sms [r, 1], sms [s, 1]])), .val (.int .i64 (pms [sms [r, 1], sms [s, 1]]))]
    (by kernel_rfl) (by kernel_rfl) (by kernel_rfl) (by decide) (by decide) (by rfl) ?_ ?_
  · refine ⟨?_, ?_, ?_, ?_, ?_, ?_, ?_, ?_, ?_, ?_, ?_, trivial⟩
    · exact ok_pure _ rfl fun ρ v R => by simp [execOp, go_sem, R.old 4 (by decide)]
    · exact ok_pure _ rfl fun ρ v R => by have x := cell_later R.b x_r; simp [execOp, go_sem, R.dep 0 11 _ (by decide) rfl rfl, x]
    · exact ok_build 2 [r, 1] 3 rfl (fun v => rd_lit v _ _) fun ρ v R => by simp [execOp, go_sem, R.con, R.dep 1 12 _ (by decide) rfl rfl]
    · exact ok_call 53 _ rfl fun ρ v R => by
        obtain ⟨b, h3, h4⟩ := R.row 2 13 2 [r, 1] (by decide) rfl rfl
        exact ⟨_, by simp [execOp, go_sem, h3, R.fn], sum_lit [r, 1] 2 rfl (by decide) h4 mq1_3⟩
    · exact ok_pure _ rfl fun ρ v R => by simp [execOp, go_sem, R.old 5 (by decide)]
    · exact ok_pure _ rfl fun ρ v R => by have x := cell_later R.b x_s; simp [execOp, go_sem, R.dep 4 15 _ (by decide) rfl rfl, x]
    · exact ok_build 2 [s, 1] 3 rfl (fun v => rd_lit v _ _) fun ρ v R => by simp [execOp, go_sem, R.con, R.dep 5 16 _ (by decide) rfl rfl]
    · exact ok_call 53 _ rfl fun ρ v R => by
        obtain ⟨b, h3, h4⟩ := R.row 6 17 2 [s, 1] (by decide) rfl rfl
        exact ⟨_, by simp [execOp, go_sem, h3, R.fn], sum_lit [s, 1] 2 rfl (by decide) h4 mq1_7⟩
    · exact ok_build 2 [sms [r, 1], sms [s, 1]] 3 rfl (fun v => rd_lit v _ _) fun ρ v R => by simp [execOp, go_sem, R.dep 3 14 _ (by decide) rfl rfl, R.dep 7 18 _ (by decide) rfl rfl]
    · exact ok_call 54 _ rfl fun ρ v R => by
        obtain ⟨b, h3, h4⟩ := R.row 8 19 2 [sms [r, 1], sms [s, 1]] (by decide) rfl rfl
        exact ⟨_, by simp [execOp, go_sem, h3, R.fn], prod_lit [sms [r, 1], sms [s, 1]] 2 rfl (by decide) h4 mq1_9⟩
    · exact ok_pure _ rfl fun ρ v R => by simp [execOp, go_sem, R.dep 9 20 _ (by decide) rfl rfl]
  intro vals w1 hb' hv
  have v0 : vals 0 = _ := hv (0, 11) (by decide)
  have v1 : vals 1 = _ := hv (1, 12) (by decide)
  obtain ⟨b2, v2, -⟩ := hv (2, 13) (by decide)
  simp only at v2
  have v3 : vals 3 = _ := hv (3, 14) (by decide)
  have v4 : vals 4 = _ := hv (4, 15) (by decide)
  have v5 : vals 5 = _ := hv (5, 16) (by decide)
  obtain ⟨b6, v6, -⟩ := hv (6, 17) (by decide)
  simp only at v6
  have v7 : vals 7 = _ := hv (7, 18) (by decide)
  obtain ⟨b8, v8, -⟩ := hv (8, 19) (by decide)
  simp only at v8
  have v9 : vals 9 = _ := hv (9, 20) (by decide)
  have v10 : vals 10 = _ := hv (10, 9) (by decide)
  simp only [List.foldl, v0, v1, v2, v3, v4, v5, v6, v7, v8, v9, v10, List.setIfInBounds_toArray, List.set_cons_succ, List.set_cons_zero]
  clear hv v0 v1 v2 v3 v4 v5 v6 v7 v8 v9 v10
  have hb1 : Below W.heap.size W w1 := hb'
  clear hb'
  have y_r := cell_later hb1 x_r
  have y_d := cell_later hb1 x_d
  have y_k := cell_later hb1 x_k
  have y_s := cell_later hb1 x_s
  have y_e := cell_later hb1 x_e
  have y_l := cell_later hb1 x_l
  have y_la := cell_later hb1 x_la
  have y_ba := cell_later hb1 x_ba
  have y_lb := cell_later hb1 x_lb
  have y_bb := cell_later hb1 x_bb
  go_wp2_with fail
  clear y_r y_d y_k y_s y_e y_l y_la y_ba y_lb y_bb
  have mc2 : ∀ x ∈ [d, e], InI x := (List.forall_mem_cons.2 ⟨hd, (List.forall_mem_cons.2 ⟨he, (List.forall_mem_nil _)⟩)⟩)
  have kc2 : InI (sms [d, e]) := sms_in mc2
  have hrd : Rd (w1.alloc (.cells #[.int .i64 d, .int .i64 e] 3)) (some ⟨w1.heap.size, 0, none⟩) .i64 [d, e] := rd_lit w1 [d, e] 3
  go_fit (sum_lit [d, e] 2 rfl (by decide) hrd mc2)
  rintro e_ w2 ⟨rfl, hb'⟩
  have hb2 : Below W.heap.size W w2 := bnext' hb1 (bnext' ((Below.refl _ _).alloc (Nat.le_refl _) _) hb')
  clear hrd hb'
  have y_r := cell_later hb2 x_r
  have y_d := cell_later hb2 x_d
  have y_k := cell_later hb2 x_k
  have y_s := cell_later hb2 x_s
  have y_e := cell_later hb2 x_e
  have y_l := cell_later hb2 x_l
  have y_la := cell_later hb2 x_la
  have y_ba := cell_later hb2 x_ba
  have y_lb := cell_later hb2 x_lb
  have y_bb := cell_later hb2 x_bb
  go_wp2_with fail
  clear y_r y_d y_k y_s y_e y_l y_la y_ba y_lb y_bb
  have mc3 : ∀ x ∈ [pms [sms [r, 1], sms [s, 1]], sms [d, e]], InI x := (List.forall_mem_cons.2 ⟨kq1_9, (List.forall_mem_cons.2 ⟨kc2, (List.forall_mem_nil _)⟩)⟩)
  have kc3 : InI (pms [pms [sms [r, 1], sms [s, 1]], sms [d, e]]) := pms_in mc3
  have hrd : Rd (w2.alloc (.cells #[.int .i64 (pms [sms [r, 1], sms [s, 1]]), .int .i64 (sms [d, e])] 3)) (some ⟨w2.heap.size, 0, none⟩) .i64 [pms [sms [r, 1], sms [s, 1]], sms [d, e]] := rd_lit w2 [pms [sms [r, 1], sms [s, 1]], sms [d, e]] 3
  go_fit (prod_lit [pms [sms [r, 1], sms [s, 1]], sms [d, e]] 2 rfl (by decide) hrd mc3)
  rintro e_ w3 ⟨rfl, hb'⟩
  have hb3 : Below W.heap.size W w3 := bnext' hb2 (bnext' ((Below.refl _ _).alloc (Nat.le_refl _) _) hb')
  clear hrd hb'
  have y_r := cell_later hb3 x_r
  have y_d := cell_later hb3 x_d
  have y_k := cell_later hb3 x_k
  have y_s := cell_later hb3 x_s
  have y_e := cell_later hb3 x_e
  have y_l := cell_later hb3 x_l
  have y_la := cell_later hb3 x_la
  have y_ba := cell_later hb3 x_ba
  have y_lb := cell_later hb3 x_lb
  have y_bb := cell_later hb3 x_bb
  go_wp2_with fail
  clear y_r y_d y_k y_s y_e y_l y_la y_ba y_lb y_bb
  have mc4 : ∀ x ∈ [pms [pms [sms [r, 1], sms [s, 1]], sms [d, e]], 1], InI x := (List.forall_mem_cons.2 ⟨kc3, (List.forall_mem_cons.2 ⟨inI_lit rfl, (List.forall_mem_nil _)⟩)⟩)
  have kc4 : InI (sms [pms [pms [sms [r, 1], sms [s, 1]], sms [d, e]], 1]) := sms_in mc4
  have hrd : Rd (w3.alloc (.cells #[.int .i64 (pms [pms [sms [r, 1], sms [s, 1]], sms [d, e]]), .int .i64 1] 3)) (some ⟨w3.heap.size, 0, none⟩) .i64 [pms [pms [sms [r, 1], sms [s, 1]], sms [d, e]], 1] := rd_lit w3 [pms [pms [sms [r, 1], sms [s, 1]], sms [d, e]], 1] 3
  go_fit (sum_lit [pms [pms [sms [r, 1], sms [s, 1]], sms [d, e]], 1] 2 rfl (by decide) hrd mc4)
  rintro e_ w4 ⟨rfl, hb'⟩
  have hb4 : Below W.heap.size W w4 := bnext' hb3 (bnext' ((Below.refl _ _).alloc (Nat.le_refl _) _) hb')
  clear hrd hb'
  have y_r := cell_later hb4 x_r
  have y_d := cell_later hb4 x_d
  have y_k := cell_later hb4 x_k
  have y_s := cell_later hb4 x_s
  have y_e := cell_later hb4 x_e
  have y_l := cell_later hb4 x_l
  have y_la := cell_later hb4 x_la
  have y_ba := cell_later hb4 x_ba
  have y_lb := cell_later hb4 x_lb
  have y_bb := cell_later hb4 x_bb
  go_wp2_with fail
  clear y_r y_d y_k y_s y_e y_l y_la y_ba y_lb y_bb
  have mq5_9 : ∀ x ∈ [k, l, 8], InI x := (List.forall_mem_cons.2 ⟨hk, (List.forall_mem_cons.2 ⟨hl, (List.forall_mem_cons.2 ⟨inI_lit rfl, (List.forall_mem_nil _)⟩)⟩)⟩)
  have kq5_9 : InI (sms [k, l, 8]) := sms_in mq5_9
  have mq5_11 : ∀ x ∈ [pms [sms [r, 1], sms [s, 1]], pms [sms [r, 1], sms [s, 1]], pms [sms [r, 1], sms [s, 1]], sms [pms [pms [sms [r, 1], sms [s, 1]], sms [d, e]], 1], sms [k, l, 8]], InI x := (List.forall_mem_cons.2 ⟨kq1_9, (List.forall_mem_cons.2 ⟨kq1_9, (List.forall_mem_cons.2 ⟨kq1_9, (List.forall_mem_cons.2 ⟨kc4, (List.forall_mem_cons.2 ⟨kq5_9, (List.forall_mem_nil _)⟩)⟩)⟩)⟩)⟩)
  have kq5_11 : InI (tms [pms [sms [r, 1], sms [s, 1]], pms [sms [r, 1], sms [s, 1]], pms [sms [r, 1], sms [s, 1]], sms [pms [pms [sms [r, 1], sms [s, 1]], sms [d, e]], 1], sms [k, l, 8]]) := tms_in mq5_11
  have kq5_14 : InI (tms [sms [la, lb, 1], sms [ba, bb, 1]]) := tms_in (List.forall_mem_cons.2 ⟨sms_in (List.forall_mem_cons.2 ⟨hla, (List.forall_mem_cons.2 ⟨hlb, (List.forall_mem_cons.2 ⟨inI_lit rfl, (List.forall_mem_nil _)⟩)⟩)⟩), (List.forall_mem_cons.2 ⟨sms_in (List.forall_mem_cons.2 ⟨hba, (List.forall_mem_cons.2 ⟨hbb, (List.forall_mem_cons.2 ⟨inI_lit rfl, (List.forall_mem_nil _)⟩)⟩)⟩), (List.forall_mem_nil _)⟩)⟩)
  have kq5_15 : InI (max (tms [pms [sms [r, 1], sms [s, 1]], pms [sms [r, 1], sms [s, 1]], pms [sms [r, 1], sms [s, 1]], sms [pms [pms [sms [r, 1], sms [s, 1]], sms [d, e]], 1], sms [k, l, 8]]) (tms [sms [la, lb, 1], sms [ba, bb, 1]])) := inI_max kq5_11 kq5_14
  refine region_ints [(0, 32), (1, 33), (2, 34), (3, 35), (4, 36), (5, 37), (6, 38), (7, 39), (8, 40), (9, 41), (10, 42), (11, 43), (12, 44), (13, 45), (14, 46), (15, 47), (16, 8)]
    [.val (.int .i64 (pms [sms [r, 1], sms [s, 1]])), .val (.int .i64 (pms [sms [r, 1], sms [s, 1]])), .val (.int .i64 (pms [sms [r, 1], sms [s, 1]])), .val (.int .i64 (sms [pms [pms [sms [r, 1], sms [s, 1]], sms [d, e]], 1])), .val (.pointer (some ⟨w.heap.size, 2, none⟩)), .val (.int .i64 (k)), .val (.pointer (some ⟨w.heap.size + 1, 2, none⟩)), .val (.int .i64 (l)), .row 3 [k, l, 8], .val (.int .i64 (sms [k, l, 8])), .row 5 [pms [sms [r, 1], sms [s, 1]], pms [sms [r, 1], sms [s, 1]], pms [sms [r, 1], sms [s, 1]], sms [pms [pms [sms [r, 1], sms [s, 1]], sms [d, e]], 1], sms [k, l, 8]], .val (.int .i64 (tms [pms [sms [r, 1], sms [s, 1]], pms [sms [r, 1], sms [s, 1]], pms [sms [r, 1], sms [s, 1]], sms [pms [pms [sms [r, 1], sms [s, 1]], sms [d, e]], 1], sms [k, l, 8]])), .val (Value.agg #[Value.int IntKind.i64 la, Value.int IntKind.i64 ba]), .val (Value.agg #[Value.int IntKind.i64 lb, Value.int IntKind.i64 bb]), .val (.int .i64 (tms [sms [la, lb, 1], sms [ba, bb, 1]])), .val (.int .i64 (max (tms [pms [sms [r, 1], sms [s, 1]], pms [sms [r, 1], sms [s, 1]], pms [sms [r, 1], sms [s, 1]], sms [pms [pms [sms [r, 1], sms [s, 1]], sms [d, e]], 1], sms [k, l, 8]]) (tms [sms [la, lb, 1], sms [ba, bb, 1]]))), .val (.int .i64 (max (tms [pms [sms [r, 1], sms [s, 1]], pms [sms [r, 1], sms [s, 1]], pms [sms [r, 1], sms [s, 1]], sms [pms [pms [sms [r, 1], sms [s, 1]], sms [d, e]], 1], sms [k, l, 8]]) (tms [sms [la, lb, 1], sms [ba, bb, 1]])))]
    (by kernel_rfl) (by kernel_rfl) (by kernel_rfl) (by decide) (by decide) (by rfl) ?_ ?_
  · refine ⟨?_, ?_, ?_, ?_, ?_, ?_, ?_, ?_, ?_, ?_, ?_, ?_, ?_, ?_, ?_, ?_, ?_, trivial⟩
    · exact ok_pure _ rfl fun ρ v R => by simp [execOp, go_sem, R.old 9 (by decide)]
    · exact ok_pure _ rfl fun ρ v R => by simp [execOp, go_sem, R.old 9 (by decide)]
    · exact ok_pure _ rfl fun ρ v R => by simp [execOp, go_sem, R.old 9 (by decide)]
    · exact ok_pure _ rfl fun ρ v R => by simp [execOp, go_sem, R.old 10 (by decide)]
    · exact ok_pure _ rfl fun ρ v R => by simp [execOp, go_sem, R.old 4 (by decide)]
    · exact ok_pure _ rfl fun ρ v R => by have x := cell_later R.b (cell_later hb4 x_k); simp [execOp, go_sem, R.dep 4 36 _ (by decide) rfl rfl, x]
    · exact ok_pure _ rfl fun ρ v R => by simp [execOp, go_sem, R.old 5 (by decide)]
    · exact ok_pure _ rfl fun ρ v R => by have x := cell_later R.b (cell_later hb4 x_l); simp [execOp, go_sem, R.dep 6 38 _ (by decide) rfl rfl, x]
    · exact ok_build 3 [k, l, 8] 3 rfl (fun v => rd_lit v _ _) fun ρ v R => by simp [execOp, go_sem, R.con, R.dep 5 37 _ (by decide) rfl rfl, R.dep 7 39 _ (by decide) rfl rfl]
    · exact ok_call 53 _ rfl fun ρ v R => by
        obtain ⟨b, h3, h4⟩ := R.row 8 40 3 [k, l, 8] (by decide) rfl rfl
        exact ⟨_, by simp [execOp, go_sem, h3, R.fn], sum_lit [k, l, 8] 3 rfl (by decide) h4 mq5_9⟩
    · exact ok_build 5 [pms [sms [r, 1], sms [s, 1]], pms [sms [r, 1], sms [s, 1]], pms [sms [r, 1], sms [s, 1]], sms [pms [pms [sms [r, 1], sms [s, 1]], sms [d, e]], 1], sms [k, l, 8]] 3 rfl (fun v => rd_lit v _ _) fun ρ v R => by simp [execOp, go_sem, R.dep 0 32 _ (by decide) rfl rfl, R.dep 1 33 _ (by decide) rfl rfl, R.dep 2 34 _ (by decide) rfl rfl, R.dep 3 35 _ (by decide) rfl rfl, R.dep 9 41 _ (by decide) rfl rfl]
    · exact ok_call 49 _ rfl fun ρ v R => by
        obtain ⟨b, h3, h4⟩ := R.row 10 42 5 [pms [sms [r, 1], sms [s, 1]], pms [sms [r, 1], sms [s, 1]], pms [sms [r, 1], sms [s, 1]], sms [pms [pms [sms [r, 1], sms [s, 1]], sms [d, e]], 1], sms [k, l, 8]] (by decide) rfl rfl
        exact ⟨_, by simp [execOp, go_sem, h3, R.fn], times_lit [pms [sms [r, 1], sms [s, 1]], pms [sms [r, 1], sms [s, 1]], pms [sms [r, 1], sms [s, 1]], sms [pms [pms [sms [r, 1], sms [s, 1]], sms [d, e]], 1], sms [k, l, 8]] 5 rfl (by decide) h4 mq5_11⟩
    · exact ok_pure _ rfl fun ρ v R => by have x0 := cell_later R.b (cell_later hb4 x_la); have x1 := cell_later R.b (cell_later hb4 x_ba); simp [execOp, go_sem, R.old 6 (by decide), x0, x1]
    · exact ok_pure _ rfl fun ρ v R => by have x0 := cell_later R.b (cell_later hb4 x_lb); have x1 := cell_later R.b (cell_later hb4 x_bb); simp [execOp, go_sem, R.old 7 (by decide), x0, x1]
    · exact ok_call 62 _ rfl fun ρ v R => ⟨_, by simp [execOp, go_sem, R.dep 12 44 _ (by decide) rfl rfl, R.dep 13 45 _ (by decide) rfl rfl, R.fn], eWindows_any _ la ba lb bb hla hba hlb hbb⟩
    · exact ok_pure _ rfl fun ρ v R => by simp [execOp, go_sem, R.dep 11 43 _ (by decide) rfl rfl, R.dep 14 46 _ (by decide) rfl rfl, if_max]
    · exact ok_pure _ rfl fun ρ v R => by simp [execOp, go_sem, R.dep 15 47 _ (by decide) rfl rfl]
  intro vals w5 hb' hv
  have v0 : vals 0 = _ := hv (0, 32) (by decide)
  have v1 : vals 1 = _ := hv (1, 33) (by decide)
  have v2 : vals 2 = _ := hv (2, 34) (by decide)
  have v3 : vals 3 = _ := hv (3, 35) (by decide)
  have v4 : vals 4 = _ := hv (4, 36) (by decide)
  have v5 : vals 5 = _ := hv (5, 37) (by decide)
  have v6 : vals 6 = _ := hv (6, 38) (by decide)
  have v7 : vals 7 = _ := hv (7, 39) (by decide)
  obtain ⟨b8, v8, -⟩ := hv (8, 40) (by decide)
  simp only at v8
  have v9 : vals 9 = _ := hv (9, 41) (by decide)
  obtain ⟨b10, v10, -⟩ := hv (10, 42) (by decide)
  simp only at v10
  have v11 : vals 11 = _ := hv (11, 43) (by decide)
  have v12 : vals 12 = _ := hv (12, 44) (by decide)
  have v13 : vals 13 = _ := hv (13, 45) (by decide)
  have v14 : vals 14 = _ := hv (14, 46) (by decide)
  have v15 : vals 15 = _ := hv (15, 47) (by decide)
  have v16 : vals 16 = _ := hv (16, 8) (by decide)
  simp only [List.foldl, v0, v1, v2, v3, v4, v5, v6, v7, v8, v9, v10, v11, v12, v13, v14, v15, v16, List.setIfInBounds_toArray, List.set_cons_succ, List.set_cons_zero]
  clear hv v0 v1 v2 v3 v4 v5 v6 v7 v8 v9 v10 v11 v12 v13 v14 v15 v16
  have hb5 : Below W.heap.size W w5 := bnext' hb4 hb'
  clear hb'
  have y_r := cell_later hb5 x_r
  have y_d := cell_later hb5 x_d
  have y_k := cell_later hb5 x_k
  have y_s := cell_later hb5 x_s
  have y_e := cell_later hb5 x_e
  have y_l := cell_later hb5 x_l
  have y_la := cell_later hb5 x_la
  have y_ba := cell_later hb5 x_ba
  have y_lb := cell_later hb5 x_lb
  have y_bb := cell_later hb5 x_bb
  clear y_r y_d y_k y_s y_e y_l y_la y_ba y_lb y_bb
  have HBE : Hid (Below w.heap.size w w5) := bnext' hW hb5
  go_wp2
  go_ret
  exact ⟨rfl, HBE.out⟩
end Go.Proofs.YtcdfckjlmifjiaaGreat
