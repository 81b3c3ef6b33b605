/-
  estimate.Cauchy.
-/
import Derived.Test.YtcdfckjlmifjiaaGreatFfEtEwFh
import Derived.Deep.DeepFit
import Derived.Test.YtcdfckjlmifjiaaGreatDyAwOn
import Derived.Test.YtcdfckjlmifjiaaGreatUdLnWrIbWgUeUfUg
import Derived.Test.YtcdfckjlmifjiaaGreatAbBnUjBoAhEkOaOcOd
import Derived.Test.YtcdfckjlmifjiaaGreatGe
namespace Go.Proofs.YtcdfckjlmifjiaaGreat
open Go.RowKit
set_option linter.unusedVariables false
set_option linter.unusedSimpArgs false

set_option maxHeartbeats 4000000 in
set_option maxRecDepth 100000 in
/-- estimate.Cauchy. -/
theorem eCauchy_any (w : World) (r d k s e l la ba lb bb : Int) (hr : InI r) (hd : InI d) (hk : InI k) (hs : InI s) (he : InI e) (hl : InI l) (hla : InI la) (hba : InI ba) (hlb : InI lb) (hbb : InI bb) :
    Calls Tryz.prog 40 #[.agg #[.int .i64 r, .int .i64 d, .int .i64 k], .agg #[.int .i64 s, .int .i64 e, .int .i64 l], .agg #[.int .i64 la, .int .i64 ba], .agg #[.int .i64 lb, .int .i64 bb]] w fun x w' => x = .returned (.int .i64 (max (tms [pms [sms [d, 1], sms [e, 1]], pms [sms [d, 1], sms [e, 1]], pms [sms [d, 1], sms [e, 1]], pms [pms [sms [d, 1], sms [e, 1]], sms [r, s, d, e, 2]], sms [k, l, 8]]) (tms [sms [la, lb, 1], sms [ba, bb, 1]]))) ∧ Below w.heap.size w w' := by
  have hW : Below w.heap.size w ((((w.alloc (.cells #[.int .i64 r, .int .i64 d, .int .i64 k] 45)).alloc (.cells #[.int .i64 s, .int .i64 e, .int .i64 l] 45)).alloc (.cells #[.int .i64 la, .int .i64 ba] 68)).alloc (.cells #[.int .i64 lb, .int .i64 bb] 68)) := (((((Below.refl _ _).alloc (by first | (simp; done) | (simp; omega)) _).alloc (by first | (simp; done) | (simp; omega)) _).alloc (by first | (simp; done) | (simp; omega)) _).alloc (by first | (simp; done) | (simp; omega)) _)
  have x_r : ((((w.alloc (.cells #[.int .i64 r, .int .i64 d, .int .i64 k] 45)).alloc (.cells #[.int .i64 s, .int .i64 e, .int .i64 l] 45)).alloc (.cells #[.int .i64 la, .int .i64 ba] 68)).alloc (.cells #[.int .i64 lb, .int .i64 bb] 68)).cell? ⟨w.heap.size, 0, none⟩ = some (.int .i64 r) := by simp [go_sem]
  have x_d : ((((w.alloc (.cells #[.int .i64 r, .int .i64 d, .int .i64 k] 45)).alloc (.cells #[.int .i64 s, .int .i64 e, .int .i64 l] 45)).alloc (.cells #[.int .i64 la, .int .i64 ba] 68)).alloc (.cells #[.int .i64 lb, .int .i64 bb] 68)).cell? ⟨w.heap.size, 1, none⟩ = some (.int .i64 d) := by simp [go_sem]
  have x_k : ((((w.alloc (.cells #[.int .i64 r, .int .i64 d, .int .i64 k] 45)).alloc (.cells #[.int .i64 s, .int .i64 e, .int .i64 l] 45)).alloc (.cells #[.int .i64 la, .int .i64 ba] 68)).alloc (.cells #[.int .i64 lb, .int .i64 bb] 68)).cell? ⟨w.heap.size, 2, none⟩ = some (.int .i64 k) := by simp [go_sem]
  have x_s : ((((w.alloc (.cells #[.int .i64 r, .int .i64 d, .int .i64 k] 45)).alloc (.cells #[.int .i64 s, .int .i64 e, .int .i64 l] 45)).alloc (.cells #[.int .i64 la, .int .i64 ba] 68)).alloc (.cells #[.int .i64 lb, .int .i64 bb] 68)).cell? ⟨w.heap.size + 1, 0, none⟩ = some (.int .i64 s) := by simp [go_sem]
  have x_e : ((((w.alloc (.cells #[.int .i64 r, .int .i64 d, .int .i64 k] 45)).alloc (.cells #[.int .i64 s, .int .i64 e, .int .i64 l] 45)).alloc (.cells #[.int .i64 la, .int .i64 ba] 68)).alloc (.cells #[.int .i64 lb, .int .i64 bb] 68)).cell? ⟨w.heap.size + 1, 1, none⟩ = some (.int .i64 e) := by simp [go_sem]
  have x_l : ((((w.alloc (.cells #[.int .i64 r, .int .i64 d, .int .i64 k] 45)).alloc (.cells #[.int .i64 s, .int .i64 e, .int .i64 l] 45)).alloc (.cells #[.int .i64 la, .int .i64 ba] 68)).alloc (.cells #[.int .i64 lb, .int .i64 bb] 68)).cell? ⟨w.heap.size + 1, 2, none⟩ = some (.int .i64 l) := by simp [go_sem]
  have x_la : ((((w.alloc (.cells #[.int .i64 r, .int .i64 d, .int .i64 k] 45)).alloc (.cells #[.int .i64 s, .int .i64 e, .int .i64 l] 45)).alloc (.cells #[.int .i64 la, .int .i64 ba] 68)).alloc (.cells #[.int .i64 lb, .int .i64 bb] 68)).cell? ⟨w.heap.size + 1 + 1, 0, none⟩ = some (.int .i64 la) := by simp [go_sem]
  have x_ba : ((((w.alloc (.cells #[.int .i64 r, .int .i64 d, .int .i64 k] 45)).alloc (.cells #[.int .i64 s, .int .i64 e, .int .i64 l] 45)).alloc (.cells #[.int .i64 la, .int .i64 ba] 68)).alloc (.cells #[.int .i64 lb, .int .i64 bb] 68)).cell? ⟨w.heap.size + 1 + 1, 1, none⟩ = some (.int .i64 ba) := by simp [go_sem]
  have x_lb : ((((w.alloc (.cells #[.int .i64 r, .int .i64 d, .int .i64 k] 45)).alloc (.cells #[.int .i64 s, .int .i64 e, .int .i64 l] 45)).alloc (.cells #[.int .i64 la, .int .i64 ba] 68)).alloc (.cells #[.int .i64 lb, .int .i64 bb] 68)).cell? ⟨w.heap.size + 1 + 1 + 1, 0, none⟩ = some (.int .i64 lb) := by simp [go_sem]
  have x_bb : ((((w.alloc (.cells #[.int .i64 r, .int .i64 d, .int .i64 k] 45)).alloc (.cells #[.int .i64 s, .int .i64 e, .int .i64 l] 45)).alloc (.cells #[.int .i64 la, .int .i64 ba] 68)).alloc (.cells #[.int .i64 lb, .int .i64 bb] 68)).cell? ⟨w.heap.size + 1 + 1 + 1, 1, none⟩ = some (.int .i64 bb) := by simp [go_sem]
  have sW : ((((w.alloc (.cells #[.int .i64 r, .int .i64 d, .int .i64 k] 45)).alloc (.cells #[.int .i64 s, .int .i64 e, .int .i64 l] 45)).alloc (.cells #[.int .i64 la, .int .i64 ba] 68)).alloc (.cells #[.int .i64 lb, .int .i64 bb] 68)).heap.size = w.heap.size + 1 + 1 + 1 + 1 := by simp
  go_enter Tryz.func40, Tryz.ntmps40
  go_wp2_with fail
  generalize (((w.alloc (.cells #[.int .i64 r, .int .i64 d, .int .i64 k] 45)).alloc (.cells #[.int .i64 s, .int .i64 e, .int .i64 l] 45)).alloc (.cells #[.int .i64 la, .int .i64 ba] 68)).alloc (.cells #[.int .i64 lb, .int .i64 bb] 68) = W at *
  have mq1_3 : ∀ x ∈ [d, 1], InI x := (List.forall_mem_cons.2 ⟨hd, (List.forall_mem_cons.2 ⟨inI_lit rfl, (List.forall_mem_nil _)⟩)⟩)
  have kq1_3 : InI (sms [d, 1]) := sms_in mq1_3
  have mq1_7 : ∀ x ∈ [e, 1], InI x := (List.forall_mem_cons.2 ⟨he, (List.forall_mem_cons.2 ⟨inI_lit rfl, (List.forall_mem_nil _)⟩)⟩)
  have kq1_7 : InI (sms [e, 1]) := sms_in mq1_7
  have mq1_9 : ∀ x ∈ [sms [d, 1], sms [e, 1]], InI x := (List.forall_mem_cons.2 ⟨kq1_3, (List.forall_mem_cons.2 ⟨kq1_7, (List.forall_mem_nil _)⟩)⟩)
  have kq1_9 : InI (pms [sms [d, 1], sms [e, 1]]) := pms_in mq1_9
  refine region_ints [(0, 11), (1, 12), (2, 13), (3, 14), (4, 15), (5, 16), (6, 17), (7, 18), (8, 19), (9, 20), (10, 9)]
    [.val (.pointer (some ⟨w.heap.size, 1, none⟩)), .val (.int .i64 (d)), .row 2 [d, 1], .val (.int .i64 (sms [d, 1])), .val (.pointer (some ⟨w.heap.size + 1, 1, none⟩)), .val (.int .i64 (e)), .row 2 [e, 1], .val (.int .i64 (sms [e, 1])), .row 2 [sms [d, 1], sms [e, 1]], .val (.int .i64 (pms [sms [d, 1], sms [e, 1]])), .val (.int .i64 (pms [sms [d, 1], sms [e, 1]]))]
    (by kernel_rfl) (by kernel_rfl) (by kernel_rfl) (by decide) (by decide) (by rfl) ?_ ?_
  · refine ⟨?_, ?_, ?_, ?_, ?_, ?_, ?_, ?_, ?_, ?_, ?_, trivial⟩
    · exact ok_pure _ rfl fun ρ v R => by simp [execOp, go_sem, R.old 4 (by decide)]
    · exact ok_pure _ rfl fun ρ v R => by have x := cell_later R.b x_d; simp [execOp, go_sem, R.dep 0 11 _ (by decide) rfl rfl, x]
    · exact ok_build 2 [d, 1] 3 rfl (fun v => rd_lit v _ _) fun ρ v R => by simp [execOp, go_sem, R.con, R.dep 1 12 _ (by decide) rfl rfl]
    · exact ok_call 53 _ rfl fun ρ v R => by
        obtain ⟨b, h3, h4⟩ := R.row 2 13 2 [d, 1] (by decide) rfl rfl
        exact ⟨_, by simp [execOp, go_sem, h3, R.fn], sum_lit [d, 1] 2 rfl (by decide) h4 mq1_3⟩
    · exact ok_pure _ rfl fun ρ v R => by simp [execOp, go_sem, R.old 5 (by decide)]
    · exact ok_pure _ rfl fun ρ v R => by have x := cell_later R.b x_e; simp [execOp, go_sem, R.dep 4 15 _ (by decide) rfl rfl, x]
    · exact ok_build 2 [e, 1] 3 rfl (fun v => rd_lit v _ _) fun ρ v R => by simp [execOp, go_sem, R.con, R.dep 5 16 _ (by decide) rfl rfl]
    · exact ok_call 53 _ rfl fun ρ v R => by
        obtain ⟨b, h3, h4⟩ := R.row 6 17 2 [e, 1] (by decide) rfl rfl
        exact ⟨_, by simp [execOp, go_sem, h3, R.fn], sum_lit [e, 1] 2 rfl (by decide) h4 mq1_7⟩
    · exact ok_build 2 [sms [d, 1], sms [e, 1]] 3 rfl (fun v => rd_lit v _ _) fun ρ v R => by simp [execOp, go_sem, R.dep 3 14 _ (by decide) rfl rfl, R.dep 7 18 _ (by decide) rfl rfl]
    · exact ok_call 54 _ rfl fun ρ v R => by
        obtain ⟨b, h3, h4⟩ := R.row 8 19 2 [sms [d, 1], sms [e, 1]] (by decide) rfl rfl
        exact ⟨_, by simp [execOp, go_sem, h3, R.fn], prod_lit [sms [d, 1], sms [e, 1]] 2 rfl (by decide) h4 mq1_9⟩
    · exact ok_pure _ rfl fun ρ v R => by simp [execOp, go_sem, R.dep 9 20 _ (by decide) rfl rfl]
  intro vals w1 hb' hv
  have v0 : vals 0 = _ := hv (0, 11) (by decide)
  have v1 : vals 1 = _ := hv (1, 12) (by decide)
  obtain ⟨b2, v2, -⟩ := hv (2, 13) (by decide)
  simp only at v2
  have v3 : vals 3 = _ := hv (3, 14) (by decide)
  have v4 : vals 4 = _ := hv (4, 15) (by decide)
  have v5 : vals 5 = _ := hv (5, 16) (by decide)
  obtain ⟨b6, v6, -⟩ := hv (6, 17) (by decide)
  simp only at v6
  have v7 : vals 7 = _ := hv (7, 18) (by decide)
  obtain ⟨b8, v8, -⟩ := hv (8, 19) (by decide)
  simp only at v8
  have v9 : vals 9 = _ := hv (9, 20) (by decide)
  have v10 : vals 10 = _ := hv (10, 9) (by decide)
  simp only [List.foldl, v0, v1, v2, v3, v4, v5, v6, v7, v8, v9, v10, List.setIfInBounds_toArray, List.set_cons_succ, List.set_cons_zero]
  clear hv v0 v1 v2 v3 v4 v5 v6 v7 v8 v9 v10
  have hb1 : Below W.heap.size W w1 := hb'
  clear hb'
  have y_r := cell_later hb1 x_r
  have y_d := cell_later hb1 x_d
  have y_k := cell_later hb1 x_k
  have y_s := cell_later hb1 x_s
  have y_e := cell_later hb1 x_e
  have y_l := cell_later hb1 x_l
  have y_la := cell_later hb1 x_la
  have y_ba := cell_later hb1 x_ba
  have y_lb := cell_later hb1 x_lb
  have y_bb := cell_later hb1 x_bb
  go_wp2_with fail
  clear y_r y_d y_k y_s y_e y_l y_la y_ba y_lb y_bb
  have mc2 : ∀ x ∈ [r, s, d, e, 2], InI x := (List.forall_mem_cons.2 ⟨hr, (List.forall_mem_cons.2 ⟨hs, (List.forall_mem_cons.2 ⟨hd, (List.forall_mem_cons.2 ⟨he, (List.forall_mem_cons.2 ⟨inI_lit rfl, (List.forall_mem_nil _)⟩)⟩)⟩)⟩)⟩)
  have kc2 : InI (sms [r, s, d, e, 2]) := sms_in mc2
  have hrd : Rd (w1.alloc (.cells #[.int .i64 r, .int .i64 s, .int .i64 d, .int .i64 e, .int .i64 2] 3)) (some ⟨w1.heap.size, 0, none⟩) .i64 [r, s, d, e, 2] := rd_lit w1 [r, s, d, e, 2] 3
  go_fit (sum_lit [r, s, d, e, 2] 5 rfl (by decide) hrd mc2)
  rintro e_ w2 ⟨rfl, hb'⟩
  have hb2 : Below W.heap.size W w2 := bnext' hb1 (bnext' ((Below.refl _ _).alloc (Nat.le_refl _) _) hb')
  clear hrd hb'
  have y_r := cell_later hb2 x_r
  have y_d := cell_later hb2 x_d
  have y_k := cell_later hb2 x_k
  have y_s := cell_later hb2 x_s
  have y_e := cell_later hb2 x_e
  have y_l := cell_later hb2 x_l
  have y_la := cell_later hb2 x_la
  have y_ba := cell_later hb2 x_ba
  have y_lb := cell_later hb2 x_lb
  have y_bb := cell_later hb2 x_bb
  go_wp2_with fail
  clear y_r y_d y_k y_s y_e y_l y_la y_ba y_lb y_bb
  have mc3 : ∀ x ∈ [pms [sms [d, 1], sms [e, 1]], sms [r, s, d, e, 2]], InI x := (List.forall_mem_cons.2 ⟨kq1_9, (List.forall_mem_cons.2 ⟨kc2, (List.forall_mem_nil _)⟩)⟩)
  have kc3 : InI (pms [pms [sms [d, 1], sms [e, 1]], sms [r, s, d, e, 2]]) := pms_in mc3
  have hrd : Rd (w2.alloc (.cells #[.int .i64 (pms [sms [d, 1], sms [e, 1]]), .int .i64 (sms [r, s, d, e, 2])] 3)) (some ⟨w2.heap.size, 0, none⟩) .i64 [pms [sms [d, 1], sms [e, 1]], sms [r, s, d, e, 2]] := rd_lit w2 [pms [sms [d, 1], sms [e, 1]], sms [r, s, d, e, 2]] 3
  go_fit (prod_lit [pms [sms [d, 1], sms [e, 1]], sms [r, s, d, e, 2]] 2 rfl (by decide) hrd mc3)
  rintro e_ w3 ⟨rfl, hb'⟩
  have hb3 : Below W.heap.size W w3 := bnext' hb2 (bnext' ((Below.refl _ _).alloc (Nat.le_refl _) _) hb')
  clear hrd hb'
  have y_r := cell_later hb3 x_r
  have y_d := cell_later hb3 x_d
  have y_k := cell_later hb3 x_k
  have y_s := cell_later hb3 x_s
  have y_e := cell_later hb3 x_e
  have y_l := cell_later hb3 x_l
  have y_la := cell_later hb3 x_la
  have y_ba := cell_later hb3 x_ba
  have y_lb := cell_later hb3 x_lb
  have y_bb := cell_later hb3 x_bb
  go_wp2_with fail
  clear y_r y_d y_k y_s y_e y_l y_la y_ba y_lb y_bb
  have mq4_9 : ∀ x ∈ [k, l, 8], InI x := (List.forall_mem_cons.2 ⟨hk, (List.forall_mem_cons.2 ⟨hl, (List.forall_mem_cons.2 ⟨inI_lit rfl, (List.forall_mem_nil _)⟩)⟩)⟩)
  have kq4_9 : InI (sms [k, l, 8]) := sms_in mq4_9
  have mq4_11 : ∀ x ∈ [pms [sms [d, 1], sms [e, 1]], pms [sms [d, 1], sms [e, 1]], pms [sms [d, 1], sms [e, 1]], pms [pms [sms [d, 1], sms [e, 1]], sms [r, s, d, e, 2]], sms [k, l, 8]], InI x := (List.forall_mem_cons.2 ⟨kq1_9, (List.forall_mem_cons.2 ⟨kq1_9, (List.forall_mem_cons.2 ⟨kq1_9, (List.forall_mem_cons.2 ⟨kc3, (List.forall_mem_cons.2 ⟨kq4_9, (List.forall_mem_nil _)⟩)⟩)⟩)⟩)⟩)
  have kq4_11 : InI (tms [pms [sms [d, 1], sms [e, 1]], pms [sms [d, 1], sms [e, 1]], pms [sms [d, 1], sms [e, 1]], pms [pms [sms [d, 1], sms [e, 1]], sms [r, s, d, e, 2]], sms [k, l, 8]]) := tms_in mq4_11
  have kq4_14 : InI (tms [sms [la, lb, 1], sms [ba, bb, 1]]) := tms_in (List.forall_mem_cons.2 ⟨sms_in (List.forall_mem_cons.2 ⟨hla, (List.forall_mem_cons.2 ⟨hlb, (List.forall_mem_cons.2 ⟨inI_lit rfl, (List.forall_mem_nil _)⟩)⟩)⟩), (List.forall_mem_cons.2 ⟨sms_in (List.forall_mem_cons.2 ⟨hba, (List.forall_mem_cons.2 ⟨hbb, (List.forall_mem_cons.2 ⟨inI_lit rfl, (List.forall_mem_nil _)⟩)⟩)⟩), (List.forall_mem_nil _)⟩)⟩)
  have kq4_15 : InI (max (tms [pms [sms [d, 1], sms [e, 1]], pms [sms [d, 1], sms [e, 1]], pms [sms [d, 1], sms [e, 1]], pms [pms [sms [d, 1], sms [e, 1]], sms [r, s, d, e, 2]], sms [k, l, 8]]) (tms [sms [la, lb, 1], sms [ba, bb, 1]])) := inI_max kq4_11 kq4_14
  refine region_ints [(0, 34), (1, 35), (2, 36), (3, 37), (4, 38), (5, 39), (6, 40), (7, 41), (8, 42), (9, 43), (10, 44), (11, 45), (12, 46), (13, 47), (14, 48), (15, 49), (16, 8)]
    [.val (.int .i64 (pms [sms [d, 1], sms [e, 1]])), .val (.int .i64 (pms [sms [d, 1], sms [e, 1]])), .val (.int .i64 (pms [sms [d, 1], sms [e, 1]])), .val (.int .i64 (pms [pms [sms [d, 1], sms [e, 1]], sms [r, s, d, e, 2]])), .val (.pointer (some ⟨w.heap.size, 2, none⟩)), .val (.int .i64 (k)), .val (.pointer (some ⟨w.heap.size + 1, 2, none⟩)), .val (.int .i64 (l)), .row 3 [k, l, 8], .val (.int .i64 (sms [k, l, 8])), .row 5 [pms [sms [d, 1], sms [e, 1]], pms [sms [d, 1], sms [e, 1]], pms [sms [d, 1], sms [e, 1]], pms [pms [sms [d, 1], sms [e, 1]], sms [r, s, d, e, 2]], sms [k, l, 8]], .val (.int .i64 (tms [pms [sms [d, 1], sms [e, 1]], pms [sms [d, 1], sms [e, 1]], pms [sms [d, 1], sms [e, 1]], pms [pms [sms [d, 1], sms [e, 1]], sms [r, s, d, e, 2]], sms [k, l, 8]])), .val (Value.agg #[Value.int IntKind.i64 la, Value.int IntKind.i64 ba]), .val (Value.agg #[Value.int IntKind.i64 lb, Value.int IntKind.i64 bb]), .val (.int .i64 (tms [sms [la, lb, 1], sms [ba, bb, 1]])), .val (.int .i64 (max (tms [pms [sms [d, 1], sms [e, 1]], pms [sms [d, 1], sms [e, 1]], pms [sms [d, 1], sms [e, 1]], pms [pms [sms [d, 1], sms [e, 1]], sms [r, s, d, e, 2]], sms [k, l, 8]]) (tms [sms [la, lb, 1], sms [ba, bb, 1]]))), .val (.int .i64 (max (tms [pms [sms [d, 1], sms [e, 1]], pms [sms [d, 1], sms [e, 1]], pms [sms [d, 1], sms [e, 1]], pms [pms [sms [d, 1], sms [e, 1]], sms [r, s, d, e, 2]], sms [k, l, 8]]) (tms [sms [la, lb, 1], sms [ba, bb, 1]])))]
    (by kernel_rfl) (by kernel_rfl) (by kernel_rfl) (by decide) (by decide) (by rfl) ?_ ?_
  · refine ⟨?_, ?_, ?_, ?_, ?_, ?_, ?_, ?_, ?_, ?_, ?_, ?_, ?_, ?_, ?_, ?_, ?_, trivial⟩
    · exact ok_pure _ rfl fun ρ v R => by simp [execOp, go_sem, R.old 9 (by decide)]
    · exact ok_pure _ rfl fun ρ v R => by simp [execOp, go_sem, R.old 9 (by decide)]
    · exact ok_pure _ rfl fun ρ v R => by simp [execOp, go_sem, R.old 9 (by decide)]
    · exact ok_pure _ rfl fun ρ v R => by simp [execOp, go_sem, R.old 10 (by decide)]
    · exact ok_pure _ rfl fun ρ v R => by simp [execOp, go_sem, R.old 4 (by decide)]
    · exact ok_pure _ rfl fun ρ v R => by have x := cell_later R.b (cell_later hb3 x_k); simp [execOp, go_sem, R.dep 4 38 _ (by decide) rfl rfl, x]
    · exact ok_pure _ rfl fun ρ v R => by simp [execOp, go_sem, R.old 5 (by decide)]
    · exact ok_pure _ rfl fun ρ v R => by have x := cell_later R.b (cell_later hb3 x_l); simp [execOp, go_sem, R.dep 6 40 _ (by decide) rfl rfl, x]
    · exact ok_build 3 [k, l, 8] 3 rfl (fun v => rd_lit v _ _) fun ρ v R => by simp [execOp, go_sem, R.con, R.dep 5 39 _ (by decide) rfl rfl, R.dep 7 41 _ (by decide) rfl rfl]
    · exact ok_call 53 _ rfl fun ρ v R => by
        obtain ⟨b, h3, h4⟩ := R.row 8 42 3 [k, l, 8] (by decide) rfl rfl
        exact ⟨_, by simp [execOp, go_sem, h3, R.fn], sum_lit [k, l, 8] 3 rfl (by decide) h4 mq4_9⟩
    · exact ok_build 5 [pms [sms [d, 1], sms [e, 1]], pms [sms [d, 1], sms [e, 1]], pms [sms [d, 1], sms [e, 1]], pms [pms [sms [d, 1], sms [e, 1]], sms [r, s, d, e, 2]], sms [k, l, 8]] 3 rfl (fun v => rd_lit v _ _) fun ρ v R => by simp [execOp, go_sem, R.dep 0 34 _ (by decide) rfl rfl, R.dep 1 35 _ (by decide) rfl rfl, R.dep 2 36 _ (by decide) rfl rfl, R.dep 3 37 _ (by decide) rfl rfl, R.dep 9 43 _ (by decide) rfl rfl]
    · exact ok_call 49 _ rfl fun ρ v R => by
        obtain ⟨b, h3, h4⟩ := R.row 10 44 5 [pms [sms [d, 1], sms [e, 1]], pms [sms [d, 1], sms [e, 1]], pms [sms [d, 1], sms [e, 1]], pms [pms [sms [d, 1], sms [e, 1]], sms [r, s, d, e, 2]], sms [k, l, 8]] (by decide) rfl rfl
        exact ⟨_, by simp [execOp, go_sem, h3, R.fn], times_lit [pms [sms [d, 1], sms [e, 1]], pms [sms [d, 1], sms [e, 1]], pms [sms [d, 1], sms [e, 1]], pms [pms [sms [d, 1], sms [e, 1]], sms [r, s, d, e, 2]], sms [k, l, 8]] 5 rfl (by decide) h4 mq4_11⟩
    · exact ok_pure _ rfl fun ρ v R => by have x0 := cell_later R.b (cell_later hb3 x_la); have x1 := cell_later R.b (cell_later hb3 x_ba); simp [execOp, go_sem, R.old 6 (by decide), x0, x1]
    · exact ok_pure _ rfl fun ρ v R => by have x0 := cell_later R.b (cell_later hb3 x_lb); have x1 := cell_later R.b (cell_later hb3 x_bb); simp [execOp, go_sem, R.old 7 (by decide), x0, x1]
    · exact ok_call 62 _ rfl fun ρ v R => ⟨_, by simp [execOp, go_sem, R.dep 12 46 _ (by decide) rfl rfl, R.dep 13 47 _ (by decide) rfl rfl, R.fn], eWindows_any _ la ba lb bb hla hba hlb hbb⟩
    · exact ok_pure _ rfl fun ρ v R => by simp [execOp, go_sem, R.dep 11 45 _ (by decide) rfl rfl, R.dep 14 48 _ (by decide) rfl rfl, if_max]
    · exact ok_pure _ rfl fun ρ v R => by simp [execOp, go_sem, R.dep 15 49 _ (by decide) rfl rfl]
  intro vals w4 hb' hv
  have v0 : vals 0 = _ := hv (0, 34) (by decide)
  have v1 : vals 1 = _ := hv (1, 35) (by decide)
  have v2 : vals 2 = _ := hv (2, 36) (by decide)
  have v3 : vals 3 = _ := hv (3, 37) (by decide)
  have v4 : vals 4 = _ := hv (4, 38) (by decide)
  have v5 : vals 5 = _ := hv (5, 39) (by decide)
  have v6 : vals 6 = _ := hv (6, 40) (by decide)
  have v7 : vals 7 = _ := hv (7, 41) (by decide)
  obtain ⟨b8, v8, -⟩ := hv (8, 42) (by decide)
  simp only at v8
  have v9 : vals 9 = _ := hv (9, 43) (by decide)
  obtain ⟨b10, v10, -⟩ := hv (10, 44) (by decide)
  simp only at v10
  have v11 : vals 11 = _ := hv (11, 45) (by decide)
  have v12 : vals 12 = _ := hv (12, 46) (by decide)
  have v13 : vals 13 = _ := hv (13, 47) (by decide)
  have v14 : vals 14 = _ := hv (14, 48) (by decide)
  have v15 : vals 15 = _ := hv (15, 49) (by decide)
  have v16 : vals 16 = _ := hv (16, 8) (by decide)
  simp only [List.foldl, v0, v1, v2, v3, v4, v5, v6, v7, v8, v9, v10, v11, v12, v13, v14, v15, v16, List.setIfInBounds_toArray, List.set_cons_succ, List.set_cons_zero]
  clear hv v0 v1 v2 v3 v4 v5 v6 v7 v8 v9 v10 v11 v12 v13 v14 v15 v16
  have hb4 : Below W.heap.size W w4 := bnext' hb3 hb'
  clear hb'
  have y_r := cell_later hb4 x_r
  have y_d := cell_later hb4 x_d
  have y_k := cell_later hb4 x_k
  have y_s := cell_later hb4 x_s
  have y_e := cell_later hb4 x_e
  have y_l := cell_later hb4 x_l
  have y_la := cell_later hb4 x_la
  have y_ba := cell_later hb4 x_ba
  have y_lb := cell_later hb4 x_lb
  have y_bb := cell_later hb4 x_bb
  clear y_r y_d y_k y_s y_e y_l y_la y_ba y_lb y_bb
  have HBE : Hid (Below w.heap.size w w4) := bnext' hW hb4
  go_wp2
  go_ret
  exact ⟨rfl, HBE.out⟩
end Go.Proofs.YtcdfckjlmifjiaaGreat
/-
  estimate.Turn.
-/
namespace Go.Proofs.YtcdfckjlmifjiaaGreat
open Go.RowKit
set_option linter.unusedVariables false
set_option linter.unusedSimpArgs false

set_option maxHeartbeats 4000000 in
set_option maxRecDepth 100000 in
/-- estimate.Turn. -/
theorem eTurn_any (w : World) (r d k : Int) (hr : InI r) (hd : InI d) (hk : InI k) :
    Calls Tryz.prog 39 #[.agg #[.int .i64 r, .int .i64 d, .int .i64 k]] w fun x w' => x = .returned (.int .i64 (tms [sms [r, d, 2], sms [r, d, 2], sms [r, d, 2], sms [d, 2], sms [k, 8]])) ∧ Below w.heap.size w w' := by
  have hW : Below w.heap.size w (w.alloc (.cells #[.int .i64 r, .int .i64 d, .int .i64 k] 45)) := ((Below.refl _ _).alloc (by simp) _)
  have x_r : (w.alloc (.cells #[.int .i64 r, .int .i64 d, .int .i64 k] 45)).cell? ⟨w.heap.size, 0, none⟩ = some (.int .i64 r) := by simp [go_sem]
  have x_d : (w.alloc (.cells #[.int .i64 r, .int .i64 d, .int .i64 k] 45)).cell? ⟨w.heap.size, 1, none⟩ = some (.int .i64 d) := by simp [go_sem]
  have x_k : (w.alloc (.cells #[.int .i64 r, .int .i64 d, .int .i64 k] 45)).cell? ⟨w.heap.size, 2, none⟩ = some (.int .i64 k) := by simp [go_sem]
  have sW : (w.alloc (.cells #[.int .i64 r, .int .i64 d, .int .i64 k] 45)).heap.size = w.heap.size + 1 := by simp
  go_enter Tryz.func39, Tryz.ntmps39
  go_wp2_with fail
  generalize w.alloc (.cells #[.int .i64 r, .int .i64 d, .int .i64 k] 45) = W at *
  have mc1 : ∀ x ∈ [r, d, 2], InI x := (List.forall_mem_cons.2 ⟨hr, (List.forall_mem_cons.2 ⟨hd, (List.forall_mem_cons.2 ⟨inI_lit rfl, (List.forall_mem_nil _)⟩)⟩)⟩)
  have kc1 : InI (sms [r, d, 2]) := sms_in mc1
  have hrd : Rd (W.alloc (.cells #[.int .i64 r, .int .i64 d, .int .i64 2] 3)) (some ⟨W.heap.size, 0, none⟩) .i64 [r, d, 2] := rd_lit W [r, d, 2] 3
  rw [sW] at hrd
  go_fit (sum_lit [r, d, 2] 3 rfl (by decide) hrd mc1)
  rintro e_ w1 ⟨rfl, hb'⟩
  have hb1 : Below W.heap.size W w1 := bnext' ((Below.refl _ _).alloc (Nat.le_refl _) _) hb'
  clear hrd hb'
  have y_r := cell_later hb1 x_r
  have y_d := cell_later hb1 x_d
  have y_k := cell_later hb1 x_k
  go_wp2_with fail
  clear y_r y_d y_k
  have mq2_6 : ∀ x ∈ [d, 2], InI x := (List.forall_mem_cons.2 ⟨hd, (List.forall_mem_cons.2 ⟨inI_lit rfl, (List.forall_mem_nil _)⟩)⟩)
  have kq2_6 : InI (sms [d, 2]) := sms_in mq2_6
  have mq2_10 : ∀ x ∈ [k, 8], InI x := (List.forall_mem_cons.2 ⟨hk, (List.forall_mem_cons.2 ⟨inI_lit rfl, (List.forall_mem_nil _)⟩)⟩)
  have kq2_10 : InI (sms [k, 8]) := sms_in mq2_10
  have mq2_12 : ∀ x ∈ [sms [r, d, 2], sms [r, d, 2], sms [r, d, 2], sms [d, 2], sms [k, 8]], InI x := (List.forall_mem_cons.2 ⟨kc1, (List.forall_mem_cons.2 ⟨kc1, (List.forall_mem_cons.2 ⟨kc1, (List.forall_mem_cons.2 ⟨kq2_6, (List.forall_mem_cons.2 ⟨kq2_10, (List.forall_mem_nil _)⟩)⟩)⟩)⟩)⟩)
  have kq2_12 : InI (tms [sms [r, d, 2], sms [r, d, 2], sms [r, d, 2], sms [d, 2], sms [k, 8]]) := tms_in mq2_12
  refine region_ints [(0, 10), (1, 11), (2, 12), (3, 13), (4, 14), (5, 15), (6, 16), (7, 17), (8, 18), (9, 19), (10, 20), (11, 21), (12, 22), (13, 2)]
    [.val (.int .i64 (sms [r, d, 2])), .val (.int .i64 (sms [r, d, 2])), .val (.int .i64 (sms [r, d, 2])), .val (.pointer (some ⟨w.heap.size, 1, none⟩)), .val (.int .i64 (d)), .row 2 [d, 2], .val (.int .i64 (sms [d, 2])), .val (.pointer (some ⟨w.heap.size, 2, none⟩)), .val (.int .i64 (k)), .row 2 [k, 8], .val (.int .i64 (sms [k, 8])), .row 5 [sms [r, d, 2], sms [r, d, 2], sms [r, d, 2], sms [d, 2], sms [k, 8]], .val (.int .i64 (tms [sms [r, d, 2], sms [r, d, 2], sms [r, d, 2], sms [d, 2], sms [k, 8]])), .val (.int .i64 (tms [sms [r, d, 2], sms [r, d, 2], sms [r, d, 2], sms [d, 2], sms [k, 8]]))]
    (by kernel_rfl) (by kernel_rfl) (by kernel_rfl) (by decide) (by decide) (by rfl) ?_ ?_
  · refine ⟨?_, ?_, ?_, ?_, ?_, ?_, ?_, ?_, ?_, ?_, ?_, ?_, ?_, ?_, trivial⟩
    · exact ok_pure _ rfl fun ρ v R => by simp [execOp, go_sem, R.old 3 (by decide)]
    · exact ok_pure _ rfl fun ρ v R => by simp [execOp, go_sem, R.old 3 (by decide)]
    · exact ok_pure _ rfl fun ρ v R => by simp [execOp, go_sem, R.old 3 (by decide)]
    · exact ok_pure _ rfl fun ρ v R => by simp [execOp, go_sem, R.old 1 (by decide)]
    · exact ok_pure _ rfl fun ρ v R => by have x := cell_later R.b (cell_later hb1 x_d); simp [execOp, go_sem, R.dep 3 13 _ (by decide) rfl rfl, x]
    · exact ok_build 2 [d, 2] 3 rfl (fun v => rd_lit v _ _) fun ρ v R => by simp [execOp, go_sem, R.con, R.dep 4 14 _ (by decide) rfl rfl]
    · exact ok_call 53 _ rfl fun ρ v R => by
        obtain ⟨b, h3, h4⟩ := R.row 5 15 2 [d, 2] (by decide) rfl rfl
        exact ⟨_, by simp [execOp, go_sem, h3, R.fn], sum_lit [d, 2] 2 rfl (by decide) h4 mq2_6⟩
    · exact ok_pure _ rfl fun ρ v R => by simp [execOp, go_sem, R.old 1 (by decide)]
    · exact ok_pure _ rfl fun ρ v R => by have x := cell_later R.b (cell_later hb1 x_k); simp [execOp, go_sem, R.dep 7 17 _ (by decide) rfl rfl, x]
    · exact ok_build 2 [k, 8] 3 rfl (fun v => rd_lit v _ _) fun ρ v R => by simp [execOp, go_sem, R.con, R.dep 8 18 _ (by decide) rfl rfl]
    · exact ok_call 53 _ rfl fun ρ v R => by
        obtain ⟨b, h3, h4⟩ := R.row 9 19 2 [k, 8] (by decide) rfl rfl
        exact ⟨_, by simp [execOp, go_sem, h3, R.fn], sum_lit [k, 8] 2 rfl (by decide) h4 mq2_10⟩
    · exact ok_build 5 [sms [r, d, 2], sms [r, d, 2], sms [r, d, 2], sms [d, 2], sms [k, 8]] 3 rfl (fun v => rd_lit v _ _) fun ρ v R => by simp [execOp, go_sem, R.dep 0 10 _ (by decide) rfl rfl, R.dep 1 11 _ (by decide) rfl rfl, R.dep 10 20 _ (by decide) rfl rfl, R.dep 2 12 _ (by decide) rfl rfl, R.dep 6 16 _ (by decide) rfl rfl]
    · exact ok_call 49 _ rfl fun ρ v R => by
        obtain ⟨b, h3, h4⟩ := R.row 11 21 5 [sms [r, d, 2], sms [r, d, 2], sms [r, d, 2], sms [d, 2], sms [k, 8]] (by decide) rfl rfl
        exact ⟨_, by simp [execOp, go_sem, h3, R.fn], times_lit [sms [r, d, 2], sms [r, d, 2], sms [r, d, 2], sms [d, 2], sms [k, 8]] 5 rfl (by decide) h4 mq2_12⟩
    · exact ok_pure _ rfl fun ρ v R => by simp [execOp, go_sem, R.dep 12 22 _ (by decide) rfl rfl]
  intro vals w2 hb' hv
  have v0 : vals 0 = _ := hv (0, 10) (by decide)
  have v1 : vals 1 = _ := hv (1, 11) (by decide)
  have v2 : vals 2 = _ := hv (2, 12) (by decide)
  have v3 : vals 3 = _ := hv (3, 13) (by decide)
  have v4 : vals 4 = _ := hv (4, 14) (by decide)
  obtain ⟨b5, v5, -⟩ := hv (5, 15) (by decide)
  simp only at v5
  have v6 : vals 6 = _ := hv (6, 16) (by decide)
  have v7 : vals 7 = _ := hv (7, 17) (by decide)
  have v8 : vals 8 = _ := hv (8, 18) (by decide)
  obtain ⟨b9, v9, -⟩ := hv (9, 19) (by decide)
  simp only at v9
  have v10 : vals 10 = _ := hv (10, 20) (by decide)
  obtain ⟨b11, v11, -⟩ := hv (11, 21) (by decide)
  simp only at v11
  have v12 : vals 12 = _ := hv (12, 22) (by decide)
  have v13 : vals 13 = _ := hv (13, 2) (by decide)
  simp only [List.foldl, v0, v1, v2, v3, v4, v5, v6, v7, v8, v9, v10, v11, v12, v13, List.setIfInBounds_toArray, List.set_cons_succ, List.set_cons_zero]
  clear hv v0 v1 v2 v3 v4 v5 v6 v7 v8 v9 v10 v11 v12 v13
  have hb2 : Below W.heap.size W w2 := bnext' hb1 hb'
  clear hb'
  have y_r := cell_later hb2 x_r
  have y_d := cell_later hb2 x_d
  have y_k := cell_later hb2 x_k
  clear y_r y_d y_k
  have HBE : Hid (Below w.heap.size w w2) := bnext' hW hb2
  go_wp2
  go_ret
  exact ⟨rfl, HBE.out⟩
end Go.Proofs.YtcdfckjlmifjiaaGreat
/-
  math/bits.Len off the shelf.
-/
namespace Go.Proofs.YtcdfckjlmifjiaaGreat
open Go.RowKit
open Go.Shelf
set_option linter.unusedVariables false
set_option linter.unusedSimpArgs false

def renLen : Go.Shelf.Ren := ⟨fun | 125 => 55 | 128 => 69 | 129 => 77 | n => n, fun | 3 => 3 | 4 => 4 | 5 => 5 | 9 => 9 | 46 => 90 | 51 => 100 | 53 => 110 | n => n, fun n => n⟩
theorem laysLen : Lays.n125 Tryz.prog renLen :=
  { mixed := by kernel_rfl
    f125 := by kernel_rfl
    f128 := by kernel_rfl
    f129 := by kernel_rfl
    t3 := by kernel_rfl
    a3 := fun _ => by kernel_rfl
    z3 := fun _ => by kernel_rfl
    v3 := fun _ => by kernel_rfl
    t4 := by kernel_rfl
    a4 := fun _ => by kernel_rfl
    z4 := fun _ => by kernel_rfl
    v4 := fun _ => by kernel_rfl
    t5 := by kernel_rfl
    a5 := fun _ => by kernel_rfl
    z5 := fun _ => by kernel_rfl
    v5 := fun _ => by kernel_rfl
    t9 := by kernel_rfl
    a9 := fun _ => by kernel_rfl
    z9 := fun _ => by kernel_rfl
    v9 := fun _ => by kernel_rfl
    t46 := by kernel_rfl
    a46 := fun _ => by kernel_rfl
    z46 := fun _ => by kernel_rfl
    v46 := fun _ => by kernel_rfl
    t51 := by kernel_rfl
    a51 := fun _ => by kernel_rfl
    z51 := fun _ => by kernel_rfl
    v51 := fun _ => by kernel_rfl
    t53 := by kernel_rfl
    a53 := fun _ => by kernel_rfl
    z53 := fun _ => by kernel_rfl
    v53 := fun _ => by kernel_rfl }
theorem Len_any (x : Int) (w : World) (h0 : 0 ≤ x) (h1 : x ≤ 18446744073709551615) :
    Calls Tryz.prog 55 #[.int .u64 x] w fun e w' => e = .returned (.int .i64 (Lib.bitLen x.toNat)) ∧ w' = w := Any.bits_Len laysLen x w h0 h1
end Go.Proofs.YtcdfckjlmifjiaaGreat
/-
  The bits of a number that is not below 0: bits.Len against the reference's.
-/
namespace Go.Proofs.YtcdfckjlmifjiaaGreat
open Go.RowKit
set_option linter.unusedVariables false
theorem len_ib {x : Int} (h : InI x) : IB (Lib.bitLen x.toNat) x := by
  have h2 := h.2
  have hib := bitLenAux_ib 64 x.toNat (by omega)
  rwa [Int.toNat_of_nonneg h.1] at hib
theorem len_zb {x : Int} (h : InI x) : Lib.bitLen x.toNat = zb x := by
  have h1 := len_ib h
  have h2 := zb_ib x
  rw [show (x.natAbs : Int) = x by have := h.1; omega] at h2
  exact h1.uniq h2
theorem blen_le {x : Int} (h : InI x) : (Lib.bitLen x.toNat : Int) ≤ 64 := by
  have h1 := len_ib h
  rcases h1.2.2 with h2 | h2
  · omega
  · rcases Nat.lt_or_ge 64 (Lib.bitLen x.toNat) with h3 | h3
    · exfalso
      have h4 : (2 : Int) ^ 64 ≤ 2 ^ (Lib.bitLen x.toNat - 1) := p2_mono (by omega)
      have h5 := h.2
      omega
    · omega
end Go.Proofs.YtcdfckjlmifjiaaGreat
