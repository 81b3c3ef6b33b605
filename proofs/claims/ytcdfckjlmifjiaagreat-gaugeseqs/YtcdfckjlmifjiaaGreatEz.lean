/-
  estimate.Term.
-/
import Derived.Test.YtcdfckjlmifjiaaGreatFfEtEwFh
import Derived.Test.YtcdfckjlmifjiaaGreatExEuLeEy
import Derived.Deep.DeepFit
namespace Go.Proofs.YtcdfckjlmifjiaaGreat
open Go.RowKit
set_option linter.unusedVariables false
set_option linter.unusedSimpArgs false

set_option maxHeartbeats 4000000 in
set_option maxRecDepth 100000 in
/-- estimate.Term. -/
theorem eTerm_pos (w : World) (r d k la ba n : Int) (hr : InI r) (hd : InI d) (hk : InI k) (hla : InI la) (hba : InI ba) (hn : 0 ≤ n ∧ n ≤ 9223372036854775807) :
    Calls Tryz.prog 27 #[.agg #[.int .i64 r, .int .i64 d, .int .i64 k], .agg #[.int .i64 la, .int .i64 ba], .int .i64 n] w fun x w' => x = .returned (.int .i64 (max (tms [sms [max n 0, 1], sms [r, 1], sms [k, pms [sms [d, 1], (Lib.bitLen (Int.toNat (max n 0)) : Int) + 1], 8]]) (tms [sms [max n 0, 1], sms [ba, 1]]))) ∧ Below w.heap.size w w' := by
  have i0 : ¬ n < 0 := by omega
  have hN : InI (max n 0) := ⟨by omega, by omega⟩
  have cN : IntKind.u64.wrap (max n 0) = max n 0 := by rw [IntKind.wrap_u64]; omega
  have hW : Below w.heap.size w ((w.alloc (.cells #[.int .i64 r, .int .i64 d, .int .i64 k] 45)).alloc (.cells #[.int .i64 la, .int .i64 ba] 68)) := (((Below.refl _ _).alloc (by first | (simp; done) | (simp; omega)) _).alloc (by first | (simp; done) | (simp; omega)) _)
  have x_r : ((w.alloc (.cells #[.int .i64 r, .int .i64 d, .int .i64 k] 45)).alloc (.cells #[.int .i64 la, .int .i64 ba] 68)).cell? ⟨w.heap.size, 0, none⟩ = some (.int .i64 r) := by simp [go_sem]
  have x_d : ((w.alloc (.cells #[.int .i64 r, .int .i64 d, .int .i64 k] 45)).alloc (.cells #[.int .i64 la, .int .i64 ba] 68)).cell? ⟨w.heap.size, 1, none⟩ = some (.int .i64 d) := by simp [go_sem]
  have x_k : ((w.alloc (.cells #[.int .i64 r, .int .i64 d, .int .i64 k] 45)).alloc (.cells #[.int .i64 la, .int .i64 ba] 68)).cell? ⟨w.heap.size, 2, none⟩ = some (.int .i64 k) := by simp [go_sem]
  have x_la : ((w.alloc (.cells #[.int .i64 r, .int .i64 d, .int .i64 k] 45)).alloc (.cells #[.int .i64 la, .int .i64 ba] 68)).cell? ⟨w.heap.size + 1, 0, none⟩ = some (.int .i64 la) := by simp [go_sem]
  have x_ba : ((w.alloc (.cells #[.int .i64 r, .int .i64 d, .int .i64 k] 45)).alloc (.cells #[.int .i64 la, .int .i64 ba] 68)).cell? ⟨w.heap.size + 1, 1, none⟩ = some (.int .i64 ba) := by simp [go_sem]
  have sW : ((w.alloc (.cells #[.int .i64 r, .int .i64 d, .int .i64 k] 45)).alloc (.cells #[.int .i64 la, .int .i64 ba] 68)).heap.size = w.heap.size + 1 + 1 := by simp
  go_enter Tryz.func27, Tryz.ntmps27
  go_wp2_with fail
  generalize (w.alloc (.cells #[.int .i64 r, .int .i64 d, .int .i64 k] 45)).alloc (.cells #[.int .i64 la, .int .i64 ba] 68) = W at *
  generalize hNe : max n 0 = N at *
  have HNE : Hid (max n 0 = N) := hNe
  clear hNe i0
  have mc1 : ∀ x ∈ [N, 1], InI x := (List.forall_mem_cons.2 ⟨hN, (List.forall_mem_cons.2 ⟨inI_lit rfl, (List.forall_mem_nil _)⟩)⟩)
  have kc1 : InI (sms [N, 1]) := sms_in mc1
  have hrd : Rd (W.alloc (.cells #[.int .i64 N, .int .i64 1] 3)) (some ⟨W.heap.size, 0, none⟩) .i64 [N, 1] := rd_lit W [N, 1] 3
  rw [sW] at hrd
  go_fit (sum_lit [N, 1] 2 rfl (by decide) hrd mc1)
  rintro e_ w1 ⟨rfl, hb'⟩
  have hb1 : Below W.heap.size W w1 := bnext' ((Below.refl _ _).alloc (Nat.le_refl _) _) hb'
  clear hrd hb'
  have y_r := cell_later hb1 x_r
  have y_d := cell_later hb1 x_d
  have y_k := cell_later hb1 x_k
  have y_la := cell_later hb1 x_la
  have y_ba := cell_later hb1 x_ba
  go_wp2_with fail
  clear y_r y_d y_k y_la y_ba
  have mc2 : ∀ x ∈ [d, 1], InI x := (List.forall_mem_cons.2 ⟨hd, (List.forall_mem_cons.2 ⟨inI_lit rfl, (List.forall_mem_nil _)⟩)⟩)
  have kc2 : InI (sms [d, 1]) := sms_in mc2
  have hrd : Rd (w1.alloc (.cells #[.int .i64 d, .int .i64 1] 3)) (some ⟨w1.heap.size, 0, none⟩) .i64 [d, 1] := rd_lit w1 [d, 1] 3
  go_fit (sum_lit [d, 1] 2 rfl (by decide) hrd mc2)
  rintro e_ w2 ⟨rfl, hb'⟩
  have hb2 : Below W.heap.size W w2 := bnext' hb1 (bnext' ((Below.refl _ _).alloc (Nat.le_refl _) _) hb')
  clear hrd hb'
  have y_r := cell_later hb2 x_r
  have y_d := cell_later hb2 x_d
  have y_k := cell_later hb2 x_k
  have y_la := cell_later hb2 x_la
  have y_ba := cell_later hb2 x_ba
  go_wp2_with fail
  clear y_r y_d y_k y_la y_ba
  go_fit (Len_any N w2 (hN).1 (Int.le_trans (hN).2 (by decide)))
  rintro e_ w3 ⟨rfl, hw⟩
  subst w3
  have hbl : (Lib.bitLen (Int.toNat N) : Int) ≤ 64 := blen_le (x := N) (hN)
  generalize hble : (Lib.bitLen (Int.toNat N) : Int) = bl at *
  have HBL : Hid ((Lib.bitLen (Int.toNat N) : Int) = bl ∧ 0 ≤ bl) := ⟨hble, by omega⟩
  have hbl0 : 0 ≤ bl := HBL.out.2
  clear hble
  have vbl : wrap64 (bl + 1) = bl + 1 := by unfold wrap64; omega
  have kbl : InI (bl + 1) := ⟨by omega, by omega⟩
  have y_r := cell_later hb2 x_r
  have y_d := cell_later hb2 x_d
  have y_k := cell_later hb2 x_k
  have y_la := cell_later hb2 x_la
  have y_ba := cell_later hb2 x_ba
  go_wp2_with fail
  clear y_r y_d y_k y_la y_ba
  have mc4 : ∀ x ∈ [sms [d, 1], bl + 1], InI x := (List.forall_mem_cons.2 ⟨kc2, (List.forall_mem_cons.2 ⟨kbl, (List.forall_mem_nil _)⟩)⟩)
  have kc4 : InI (pms [sms [d, 1], bl + 1]) := pms_in mc4
  have hrd : Rd (w2.alloc (.cells #[.int .i64 (sms [d, 1]), .int .i64 (bl + 1)] 3)) (some ⟨w2.heap.size, 0, none⟩) .i64 [sms [d, 1], bl + 1] := rd_lit w2 [sms [d, 1], bl + 1] 3
  go_fit (prod_lit [sms [d, 1], bl + 1] 2 rfl (by decide) hrd mc4)
  rintro e_ w4 ⟨rfl, hb'⟩
  have hb4 : Below W.heap.size W w4 := bnext' hb2 (bnext' ((Below.refl _ _).alloc (Nat.le_refl _) _) hb')
  clear hrd hb'
  have y_r := cell_later hb4 x_r
  have y_d := cell_later hb4 x_d
  have y_k := cell_later hb4 x_k
  have y_la := cell_later hb4 x_la
  have y_ba := cell_later hb4 x_ba
  go_wp2_with fail
  clear y_r y_d y_k y_la y_ba
  have mq5_4 : ∀ x ∈ [r, 1], InI x := (List.forall_mem_cons.2 ⟨hr, (List.forall_mem_cons.2 ⟨inI_lit rfl, (List.forall_mem_nil _)⟩)⟩)
  have kq5_4 : InI (sms [r, 1]) := sms_in mq5_4
  have mq5_9 : ∀ x ∈ [k, pms [sms [d, 1], bl + 1], 8], InI x := (List.forall_mem_cons.2 ⟨hk, (List.forall_mem_cons.2 ⟨kc4, (List.forall_mem_cons.2 ⟨inI_lit rfl, (List.forall_mem_nil _)⟩)⟩)⟩)
  have kq5_9 : InI (sms [k, pms [sms [d, 1], bl + 1], 8]) := sms_in mq5_9
  have mq5_11 : ∀ x ∈ [sms [N, 1], sms [r, 1], sms [k, pms [sms [d, 1], bl + 1], 8]], InI x := (List.forall_mem_cons.2 ⟨kc1, (List.forall_mem_cons.2 ⟨kq5_4, (List.forall_mem_cons.2 ⟨kq5_9, (List.forall_mem_nil _)⟩)⟩)⟩)
  have kq5_11 : InI (tms [sms [N, 1], sms [r, 1], sms [k, pms [sms [d, 1], bl + 1], 8]]) := tms_in mq5_11
  have mq5_16 : ∀ x ∈ [ba, 1], InI x := (List.forall_mem_cons.2 ⟨hba, (List.forall_mem_cons.2 ⟨inI_lit rfl, (List.forall_mem_nil _)⟩)⟩)
  have kq5_16 : InI (sms [ba, 1]) := sms_in mq5_16
  have mq5_18 : ∀ x ∈ [sms [N, 1], sms [ba, 1]], InI x := (List.forall_mem_cons.2 ⟨kc1, (List.forall_mem_cons.2 ⟨kq5_16, (List.forall_mem_nil _)⟩)⟩)
  have kq5_18 : InI (tms [sms [N, 1], sms [ba, 1]]) := tms_in mq5_18
  have kq5_19 : InI (max (tms [sms [N, 1], sms [r, 1], sms [k, pms [sms [d, 1], bl + 1], 8]]) (tms [sms [N, 1], sms [ba, 1]])) := inI_max kq5_11 kq5_18
  refine region_ints [(0, 24), (1, 25), (2, 26), (3, 27), (4, 28), (5, 29), (6, 30), (7, 31), (8, 32), (9, 33), (10, 34), (11, 35), (12, 36), (13, 37), (14, 38), (15, 39), (16, 40), (17, 41), (18, 42), (19, 43), (20, 6)]
    [.val (.int .i64 (sms [N, 1])), .val (.pointer (some ⟨w.heap.size, 0, none⟩)), .val (.int .i64 (r)), .row 2 [r, 1], .val (.int .i64 (sms [r, 1])), .val (.pointer (some ⟨w.heap.size, 2, none⟩)), .val (.int .i64 (k)), .val (.int .i64 (pms [sms [d, 1], bl + 1])), .row 3 [k, pms [sms [d, 1], bl + 1], 8], .val (.int .i64 (sms [k, pms [sms [d, 1], bl + 1], 8])), .row 3 [sms [N, 1], sms [r, 1], sms [k, pms [sms [d, 1], bl + 1], 8]], .val (.int .i64 (tms [sms [N, 1], sms [r, 1], sms [k, pms [sms [d, 1], bl + 1], 8]])), .val (.int .i64 (sms [N, 1])), .val (.pointer (some ⟨w.heap.size + 1, 1, none⟩)), .val (.int .i64 (ba)), .row 2 [ba, 1], .val (.int .i64 (sms [ba, 1])), .row 2 [sms [N, 1], sms [ba, 1]], .val (.int .i64 (tms [sms [N, 1], sms [ba, 1]])), .val (.int .i64 (max (tms [sms [N, 1], sms [r, 1], sms [k, pms [sms [d, 1], bl + 1], 8]]) (tms [sms [N, 1], sms [ba, 1]]))), .val (.int .i64 (max (tms [sms [N, 1], sms [r, 1], sms [k, pms [sms [d, 1], bl + 1], 8]]) (tms [sms [N, 1], sms [ba, 1]])))]
    (by kernel_rfl) (by kernel_rfl) (by kernel_rfl) (by decide) (by decide) (by rfl) ?_ ?_
  · refine ⟨?_, ?_, ?_, ?_, ?_, ?_, ?_, ?_, ?_, ?_, ?_, ?_, ?_, ?_, ?_, ?_, ?_, ?_, ?_, ?_, ?_, trivial⟩
    · exact ok_pure _ rfl fun ρ v R => by simp [execOp, go_sem, R.old 7 (by decide)]
    · exact ok_pure _ rfl fun ρ v R => by simp [execOp, go_sem, R.old 3 (by decide)]
    · exact ok_pure _ rfl fun ρ v R => by have x := cell_later R.b (cell_later hb4 x_r); simp [execOp, go_sem, R.dep 1 25 _ (by decide) rfl rfl, x]
    · exact ok_build 2 [r, 1] 3 rfl (fun v => rd_lit v _ _) fun ρ v R => by simp [execOp, go_sem, R.con, R.dep 2 26 _ (by decide) rfl rfl]
    · exact ok_call 53 _ rfl fun ρ v R => by
        obtain ⟨b, h3, h4⟩ := R.row 3 27 2 [r, 1] (by decide) rfl rfl
        exact ⟨_, by simp [execOp, go_sem, h3, R.fn], sum_lit [r, 1] 2 rfl (by decide) h4 mq5_4⟩
    · exact ok_pure _ rfl fun ρ v R => by simp [execOp, go_sem, R.old 3 (by decide)]
    · exact ok_pure _ rfl fun ρ v R => by have x := cell_later R.b (cell_later hb4 x_k); simp [execOp, go_sem, R.dep 5 29 _ (by decide) rfl rfl, x]
    · exact ok_pure _ rfl fun ρ v R => by simp [execOp, go_sem, R.old 8 (by decide)]
    · exact ok_build 3 [k, pms [sms [d, 1], bl + 1], 8] 3 rfl (fun v => rd_lit v _ _) fun ρ v R => by simp [execOp, go_sem, R.con, R.dep 6 30 _ (by decide) rfl rfl, R.dep 7 31 _ (by decide) rfl rfl]
    · exact ok_call 53 _ rfl fun ρ v R => by
        obtain ⟨b, h3, h4⟩ := R.row 8 32 3 [k, pms [sms [d, 1], bl + 1], 8] (by decide) rfl rfl
        exact ⟨_, by simp [execOp, go_sem, h3, R.fn], sum_lit [k, pms [sms [d, 1], bl + 1], 8] 3 rfl (by decide) h4 mq5_9⟩
    · exact ok_build 3 [sms [N, 1], sms [r, 1], sms [k, pms [sms [d, 1], bl + 1], 8]] 3 rfl (fun v => rd_lit v _ _) fun ρ v R => by simp [execOp, go_sem, R.dep 0 24 _ (by decide) rfl rfl, R.dep 4 28 _ (by decide) rfl rfl, R.dep 9 33 _ (by decide) rfl rfl]
    · exact ok_call 49 _ rfl fun ρ v R => by
        obtain ⟨b, h3, h4⟩ := R.row 10 34 3 [sms [N, 1], sms [r, 1], sms [k, pms [sms [d, 1], bl + 1], 8]] (by decide) rfl rfl
        exact ⟨_, by simp [execOp, go_sem, h3, R.fn], times_lit [sms [N, 1], sms [r, 1], sms [k, pms [sms [d, 1], bl + 1], 8]] 3 rfl (by decide) h4 mq5_11⟩
    · exact ok_pure _ rfl fun ρ v R => by simp [execOp, go_sem, R.old 7 (by decide)]
    · exact ok_pure _ rfl fun ρ v R => by simp [execOp, go_sem, R.old 4 (by decide)]
    · exact ok_pure _ rfl fun ρ v R => by have x := cell_later R.b (cell_later hb4 x_ba); simp [execOp, go_sem, R.dep 13 37 _ (by decide) rfl rfl, x]
    · exact ok_build 2 [ba, 1] 3 rfl (fun v => rd_lit v _ _) fun ρ v R => by simp [execOp, go_sem, R.con, R.dep 14 38 _ (by decide) rfl rfl]
    · exact ok_call 53 _ rfl fun ρ v R => by
        obtain ⟨b, h3, h4⟩ := R.row 15 39 2 [ba, 1] (by decide) rfl rfl
        exact ⟨_, by simp [execOp, go_sem, h3, R.fn], sum_lit [ba, 1] 2 rfl (by decide) h4 mq5_16⟩
    · exact ok_build 2 [sms [N, 1], sms [ba, 1]] 3 rfl (fun v => rd_lit v _ _) fun ρ v R => by simp [execOp, go_sem, R.dep 12 36 _ (by decide) rfl rfl, R.dep 16 40 _ (by decide) rfl rfl]
    · exact ok_call 49 _ rfl fun ρ v R => by
        obtain ⟨b, h3, h4⟩ := R.row 17 41 2 [sms [N, 1], sms [ba, 1]] (by decide) rfl rfl
        exact ⟨_, by simp [execOp, go_sem, h3, R.fn], times_lit [sms [N, 1], sms [ba, 1]] 2 rfl (by decide) h4 mq5_18⟩
    · exact ok_pure _ rfl fun ρ v R => by simp [execOp, go_sem, R.dep 11 35 _ (by decide) rfl rfl, R.dep 18 42 _ (by decide) rfl rfl, if_max]
    · exact ok_pure _ rfl fun ρ v R => by simp [execOp, go_sem, R.dep 19 43 _ (by decide) rfl rfl]
  intro vals w5 hb' hv
  have v0 : vals 0 = _ := hv (0, 24) (by decide)
  have v1 : vals 1 = _ := hv (1, 25) (by decide)
  have v2 : vals 2 = _ := hv (2, 26) (by decide)
  obtain ⟨b3, v3, -⟩ := hv (3, 27) (by decide)
  simp only at v3
  have v4 : vals 4 = _ := hv (4, 28) (by decide)
  have v5 : vals 5 = _ := hv (5, 29) (by decide)
  have v6 : vals 6 = _ := hv (6, 30) (by decide)
  have v7 : vals 7 = _ := hv (7, 31) (by decide)
  obtain ⟨b8, v8, -⟩ := hv (8, 32) (by decide)
  simp only at v8
  have v9 : vals 9 = _ := hv (9, 33) (by decide)
  obtain ⟨b10, v10, -⟩ := hv (10, 34) (by decide)
  simp only at v10
  have v11 : vals 11 = _ := hv (11, 35) (by decide)
  have v12 : vals 12 = _ := hv (12, 36) (by decide)
  have v13 : vals 13 = _ := hv (13, 37) (by decide)
  have v14 : vals 14 = _ := hv (14, 38) (by decide)
  obtain ⟨b15, v15, -⟩ := hv (15, 39) (by decide)
  simp only at v15
  have v16 : vals 16 = _ := hv (16, 40) (by decide)
  obtain ⟨b17, v17, -⟩ := hv (17, 41) (by decide)
  simp only at v17
  have v18 : vals 18 = _ := hv (18, 42) (by decide)
  have v19 : vals 19 = _ := hv (19, 43) (by decide)
  have v20 : vals 20 = _ := hv (20, 6) (by decide)
  simp only [List.foldl, v0, v1, v2, v3, v4, v5, v6, v7, v8, v9, v10, v11, v12, v13, v14, v15, v16, v17, v18, v19, v20, List.setIfInBounds_toArray, List.set_cons_succ, List.set_cons_zero]
  clear hv v0 v1 v2 v3 v4 v5 v6 v7 v8 v9 v10 v11 v12 v13 v14 v15 v16 v17 v18 v19 v20
  have hb5 : Below W.heap.size W w5 := bnext' hb4 hb'
  clear hb'
  have y_r := cell_later hb5 x_r
  have y_d := cell_later hb5 x_d
  have y_k := cell_later hb5 x_k
  have y_la := cell_later hb5 x_la
  have y_ba := cell_later hb5 x_ba
  clear y_r y_d y_k y_la y_ba
  have HBE : Hid (Below w.heap.size w w5) := bnext' hW hb5
  go_wp2
  go_ret
  refine ⟨?_, HBE.out⟩
  first
    | (rw [HNE.out, HBL.out.1]; rfl)
    | (rw [HBL.out.1]; rfl)
set_option maxHeartbeats 4000000 in
set_option maxRecDepth 100000 in
/-- estimate.Term. -/
theorem eTerm_neg (w : World) (r d k la ba n : Int) (hr : InI r) (hd : InI d) (hk : InI k) (hla : InI la) (hba : InI ba) (hn : n < 0) :
    Calls Tryz.prog 27 #[.agg #[.int .i64 r, .int .i64 d, .int .i64 k], .agg #[.int .i64 la, .int .i64 ba], .int .i64 n] w fun x w' => x = .returned (.int .i64 (max (tms [sms [max n 0, 1], sms [r, 1], sms [k, pms [sms [d, 1], (Lib.bitLen (Int.toNat (max n 0)) : Int) + 1], 8]]) (tms [sms [max n 0, 1], sms [ba, 1]]))) ∧ Below w.heap.size w w' := by
  have i0 : n < 0 := hn
  have hN : InI (max n 0) := ⟨by omega, by omega⟩
  have cN : IntKind.u64.wrap (max n 0) = max n 0 := by rw [IntKind.wrap_u64]; omega
  have hW : Below w.heap.size w ((w.alloc (.cells #[.int .i64 r, .int .i64 d, .int .i64 k] 45)).alloc (.cells #[.int .i64 la, .int .i64 ba] 68)) := (((Below.refl _ _).alloc (by first | (simp; done) | (simp; omega)) _).alloc (by first | (simp; done) | (simp; omega)) _)
  have x_r : ((w.alloc (.cells #[.int .i64 r, .int .i64 d, .int .i64 k] 45)).alloc (.cells #[.int .i64 la, .int .i64 ba] 68)).cell? ⟨w.heap.size, 0, none⟩ = some (.int .i64 r) := by simp [go_sem]
  have x_d : ((w.alloc (.cells #[.int .i64 r, .int .i64 d, .int .i64 k] 45)).alloc (.cells #[.int .i64 la, .int .i64 ba] 68)).cell? ⟨w.heap.size, 1, none⟩ = some (.int .i64 d) := by simp [go_sem]
  have x_k : ((w.alloc (.cells #[.int .i64 r, .int .i64 d, .int .i64 k] 45)).alloc (.cells #[.int .i64 la, .int .i64 ba] 68)).cell? ⟨w.heap.size, 2, none⟩ = some (.int .i64 k) := by simp [go_sem]
  have x_la : ((w.alloc (.cells #[.int .i64 r, .int .i64 d, .int .i64 k] 45)).alloc (.cells #[.int .i64 la, .int .i64 ba] 68)).cell? ⟨w.heap.size + 1, 0, none⟩ = some (.int .i64 la) := by simp [go_sem]
  have x_ba : ((w.alloc (.cells #[.int .i64 r, .int .i64 d, .int .i64 k] 45)).alloc (.cells #[.int .i64 la, .int .i64 ba] 68)).cell? ⟨w.heap.size + 1, 1, none⟩ = some (.int .i64 ba) := by simp [go_sem]
  have sW : ((w.alloc (.cells #[.int .i64 r, .int .i64 d, .int .i64 k] 45)).alloc (.cells #[.int .i64 la, .int .i64 ba] 68)).heap.size = w.heap.size + 1 + 1 := by simp
  go_enter Tryz.func27, Tryz.ntmps27
  go_wp2_with fail
  generalize (w.alloc (.cells #[.int .i64 r, .int .i64 d, .int .i64 k] 45)).alloc (.cells #[.int .i64 la, .int .i64 ba] 68) = W at *
  generalize hNe : max n 0 = N at *
  have HNE : Hid (max n 0 = N) := hNe
  clear hNe i0
  have mc1 : ∀ x ∈ [N, 1], InI x := (List.forall_mem_cons.2 ⟨hN, (List.forall_mem_cons.2 ⟨inI_lit rfl, (List.forall_mem_nil _)⟩)⟩)
  have kc1 : InI (sms [N, 1]) := sms_in mc1
  have hrd : Rd (W.alloc (.cells #[.int .i64 N, .int .i64 1] 3)) (some ⟨W.heap.size, 0, none⟩) .i64 [N, 1] := rd_lit W [N, 1] 3
  rw [sW] at hrd
  go_fit (sum_lit [N, 1] 2 rfl (by decide) hrd mc1)
  rintro e_ w1 ⟨rfl, hb'⟩
  have hb1 : Below W.heap.size W w1 := bnext' ((Below.refl _ _).alloc (Nat.le_refl _) _) hb'
  clear hrd hb'
  have y_r := cell_later hb1 x_r
  have y_d := cell_later hb1 x_d
  have y_k := cell_later hb1 x_k
  have y_la := cell_later hb1 x_la
  have y_ba := cell_later hb1 x_ba
  go_wp2_with fail
  clear y_r y_d y_k y_la y_ba
  have mc2 : ∀ x ∈ [d, 1], InI x := (List.forall_mem_cons.2 ⟨hd, (List.forall_mem_cons.2 ⟨inI_lit rfl, (List.forall_mem_nil _)⟩)⟩)
  have kc2 : InI (sms [d, 1]) := sms_in mc2
  have hrd : Rd (w1.alloc (.cells #[.int .i64 d, .int .i64 1] 3)) (some ⟨w1.heap.size, 0, none⟩) .i64 [d, 1] := rd_lit w1 [d, 1] 3
  go_fit (sum_lit [d, 1] 2 rfl (by decide) hrd mc2)
  rintro e_ w2 ⟨rfl, hb'⟩
  have hb2 : Below W.heap.size W w2 := bnext' hb1 (bnext' ((Below.refl _ _).alloc (Nat.le_refl _) _) hb')
  clear hrd hb'
  have y_r := cell_later hb2 x_r
  have y_d := cell_later hb2 x_d
  have y_k := cell_later hb2 x_k
  have y_la := cell_later hb2 x_la
  have y_ba := cell_later hb2 x_ba
  go_wp2_with fail
  clear y_r y_d y_k y_la y_ba
  go_fit (Len_any N w2 (hN).1 (Int.le_trans (hN).2 (by decide)))
  rintro e_ w3 ⟨rfl, hw⟩
  subst w3
  have hbl : (Lib.bitLen (Int.toNat N) : Int) ≤ 64 := blen_le (x := N) (hN)
  generalize hble : (Lib.bitLen (Int.toNat N) : Int) = bl at *
  have HBL : Hid ((Lib.bitLen (Int.toNat N) : Int) = bl ∧ 0 ≤ bl) := ⟨hble, by omega⟩
  have hbl0 : 0 ≤ bl := HBL.out.2
  clear hble
  have vbl : wrap64 (bl + 1) = bl + 1 := by unfold wrap64; omega
  have kbl : InI (bl + 1) := ⟨by omega, by omega⟩
  have y_r := cell_later hb2 x_r
  have y_d := cell_later hb2 x_d
  have y_k := cell_later hb2 x_k
  have y_la := cell_later hb2 x_la
  have y_ba := cell_later hb2 x_ba
  go_wp2_with fail
  clear y_r y_d y_k y_la y_ba
  have mc4 : ∀ x ∈ [sms [d, 1], bl + 1], InI x := (List.forall_mem_cons.2 ⟨kc2, (List.forall_mem_cons.2 ⟨kbl, (List.forall_mem_nil _)⟩)⟩)
  have kc4 : InI (pms [sms [d, 1], bl + 1]) := pms_in mc4
  have hrd : Rd (w2.alloc (.cells #[.int .i64 (sms [d, 1]), .int .i64 (bl + 1)] 3)) (some ⟨w2.heap.size, 0, none⟩) .i64 [sms [d, 1], bl + 1] := rd_lit w2 [sms [d, 1], bl + 1] 3
  go_fit (prod_lit [sms [d, 1], bl + 1] 2 rfl (by decide) hrd mc4)
  rintro e_ w4 ⟨rfl, hb'⟩
  have hb4 : Below W.heap.size W w4 := bnext' hb2 (bnext' ((Below.refl _ _).alloc (Nat.le_refl _) _) hb')
  clear hrd hb'
  have y_r := cell_later hb4 x_r
  have y_d := cell_later hb4 x_d
  have y_k := cell_later hb4 x_k
  have y_la := cell_later hb4 x_la
  have y_ba := cell_later hb4 x_ba
  go_wp2_with fail
  clear y_r y_d y_k y_la y_ba
  have mq5_4 : ∀ x ∈ [r, 1], InI x := (List.forall_mem_cons.2 ⟨hr, (List.forall_mem_cons.2 ⟨inI_lit rfl, (List.forall_mem_nil _)⟩)⟩)
  have kq5_4 : InI (sms [r, 1]) := sms_in mq5_4
  have mq5_9 : ∀ x ∈ [k, pms [sms [d, 1], bl + 1], 8], InI x := (List.forall_mem_cons.2 ⟨hk, (List.forall_mem_cons.2 ⟨kc4, (List.forall_mem_cons.2 ⟨inI_lit rfl, (List.forall_mem_nil _)⟩)⟩)⟩)
  have kq5_9 : InI (sms [k, pms [sms [d, 1], bl + 1], 8]) := sms_in mq5_9
  have mq5_11 : ∀ x ∈ [sms [N, 1], sms [r, 1], sms [k, pms [sms [d, 1], bl + 1], 8]], InI x := (List.forall_mem_cons.2 ⟨kc1, (List.forall_mem_cons.2 ⟨kq5_4, (List.forall_mem_cons.2 ⟨kq5_9, (List.forall_mem_nil _)⟩)⟩)⟩)
  have kq5_11 : InI (tms [sms [N, 1], sms [r, 1], sms [k, pms [sms [d, 1], bl + 1], 8]]) := tms_in mq5_11
  have mq5_16 : ∀ x ∈ [ba, 1], InI x := (List.forall_mem_cons.2 ⟨hba, (List.forall_mem_cons.2 ⟨inI_lit rfl, (List.forall_mem_nil _)⟩)⟩)
  have kq5_16 : InI (sms [ba, 1]) := sms_in mq5_16
  have mq5_18 : ∀ x ∈ [sms [N, 1], sms [ba, 1]], InI x := (List.forall_mem_cons.2 ⟨kc1, (List.forall_mem_cons.2 ⟨kq5_16, (List.forall_mem_nil _)⟩)⟩)
  have kq5_18 : InI (tms [sms [N, 1], sms [ba, 1]]) := tms_in mq5_18
  have kq5_19 : InI (max (tms [sms [N, 1], sms [r, 1], sms [k, pms [sms [d, 1], bl + 1], 8]]) (tms [sms [N, 1], sms [ba, 1]])) := inI_max kq5_11 kq5_18
  refine region_ints [(0, 24), (1, 25), (2, 26), (3, 27), (4, 28), (5, 29), (6, 30), (7, 31), (8, 32), (9, 33), (10, 34), (11, 35), (12, 36), (13, 37), (14, 38), (15, 39), (16, 40), (17, 41), (18, 42), (19, 43), (20, 6)]
    [.val (.int .i64 (sms [N, 1])), .val (.pointer (some ⟨w.heap.size, 0, none⟩)), .val (.int .i64 (r)), .row 2 [r, 1], .val (.int .i64 (sms [r, 1])), .val (.pointer (some ⟨w.heap.size, 2, none⟩)), .val (.int .i64 (k)), .val (.int .i64 (pms [sms [d, 1], bl + 1])), .row 3 [k, pms [sms [d, 1], bl + 1], 8], .val (.int .i64 (sms [k, pms [sms [d, 1], bl + 1], 8])), .row 3 [sms [N, 1], sms [r, 1], sms [k, pms [sms [d, 1], bl + 1], 8]], .val (.int .i64 (tms [sms [N, 1], sms [r, 1], sms [k, pms [sms [d, 1], bl + 1], 8]])), .val (.int .i64 (sms [N, 1])), .val (.pointer (some ⟨w.heap.size + 1, 1, none⟩)), .val (.int .i64 (ba)), .row 2 [ba, 1], .val (.int .i64 (sms [ba, 1])), .row 2 [sms [N, 1], sms [ba, 1]], .val (.int .i64 (tms [sms [N, 1], sms [ba, 1]])), .val (.int .i64 (max (tms [sms [N, 1], sms [r, 1], sms [k, pms [sms [d, 1], bl + 1], 8]]) (tms [sms [N, 1], sms [ba, 1]]))), .val (.int .i64 (max (tms [sms [N, 1], sms [r, 1], sms [k, pms [sms [d, 1], bl + 1], 8]]) (tms [sms [N, 1], sms [ba, 1]])))]
    (by kernel_rfl) (by kernel_rfl) (by kernel_rfl) (by decide) (by decide) (by rfl) ?_ ?_
  · refine ⟨?_, ?_, ?_, ?_, ?_, ?_, ?_, ?_, ?_, ?_, ?_, ?_, ?_, ?_, ?_, ?_, ?_, ?_, ?_, ?_, ?_, trivial⟩
    · exact ok_pure _ rfl fun ρ v R => by simp [execOp, go_sem, R.old 7 (by decide)]
    · exact ok_pure _ rfl fun ρ v R => by simp [execOp, go_sem, R.old 3 (by decide)]
    · exact ok_pure _ rfl fun ρ v R => by have x := cell_later R.b (cell_later hb4 x_r); simp [execOp, go_sem, R.dep 1 25 _ (by decide) rfl rfl, x]
    · exact ok_build 2 [r, 1] 3 rfl (fun v => rd_lit v _ _) fun ρ v R => by simp [execOp, go_sem, R.con, R.dep 2 26 _ (by decide) rfl rfl]
    · exact ok_call 53 _ rfl fun ρ v R => by
        obtain ⟨b, h3, h4⟩ := R.row 3 27 2 [r, 1] (by decide) rfl rfl
        exact ⟨_, by simp [execOp, go_sem, h3, R.fn], sum_lit [r, 1] 2 rfl (by decide) h4 mq5_4⟩
    · exact ok_pure _ rfl fun ρ v R => by simp [execOp, go_sem, R.old 3 (by decide)]
    · exact ok_pure _ rfl fun ρ v R => by have x := cell_later R.b (cell_later hb4 x_k); simp [execOp, go_sem, R.dep 5 29 _ (by decide) rfl rfl, x]
    · exact ok_pure _ rfl fun ρ v R => by simp [execOp, go_sem, R.old 8 (by decide)]
    · exact ok_build 3 [k, pms [sms [d, 1], bl + 1], 8] 3 rfl (fun v => rd_lit v _ _) fun ρ v R => by simp [execOp, go_sem, R.con, R.dep 6 30 _ (by decide) rfl rfl, R.dep 7 31 _ (by decide) rfl rfl]
    · exact ok_call 53 _ rfl fun ρ v R => by
        obtain ⟨b, h3, h4⟩ := R.row 8 32 3 [k, pms [sms [d, 1], bl + 1], 8] (by decide) rfl rfl
        exact ⟨_, by simp [execOp, go_sem, h3, R.fn], sum_lit [k, pms [sms [d, 1], bl + 1], 8] 3 rfl (by decide) h4 mq5_9⟩
    · exact ok_build 3 [sms [N, 1], sms [r, 1], sms [k, pms [sms [d, 1], bl + 1], 8]] 3 rfl (fun v => rd_lit v _ _) fun ρ v R => by simp [execOp, go_sem, R.dep 0 24 _ (by decide) rfl rfl, R.dep 4 28 _ (by decide) rfl rfl, R.dep 9 33 _ (by decide) rfl rfl]
    · exact ok_call 49 _ rfl fun ρ v R => by
        obtain ⟨b, h3, h4⟩ := R.row 10 34 3 [sms [N, 1], sms [r, 1], sms [k, pms [sms [d, 1], bl + 1], 8]] (by decide) rfl rfl
        exact ⟨_, by simp [execOp, go_sem, h3, R.fn], times_lit [sms [N, 1], sms [r, 1], sms [k, pms [sms [d, 1], bl + 1], 8]] 3 rfl (by decide) h4 mq5_11⟩
    · exact ok_pure _ rfl fun ρ v R => by simp [execOp, go_sem, R.old 7 (by decide)]
    · exact ok_pure _ rfl fun ρ v R => by simp [execOp, go_sem, R.old 4 (by decide)]
    · exact ok_pure _ rfl fun ρ v R => by have x := cell_later R.b (cell_later hb4 x_ba); simp [execOp, go_sem, R.dep 13 37 _ (by decide) rfl rfl, x]
    · exact ok_build 2 [ba, 1] 3 rfl (fun v => rd_lit v _ _) fun ρ v R => by simp [execOp, go_sem, R.con, R.dep 14 38 _ (by decide) rfl rfl]
    · exact ok_call 53 _ rfl fun ρ v R => by
        obtain ⟨b, h3, h4⟩ := R.row 15 39 2 [ba, 1] (by decide) rfl rfl
        exact ⟨_, by simp [execOp, go_sem, h3, R.fn], sum_lit [ba, 1] 2 rfl (by decide) h4 mq5_16⟩
    · exact ok_build 2 [sms [N, 1], sms [ba, 1]] 3 rfl (fun v => rd_lit v _ _) fun ρ v R => by simp [execOp, go_sem, R.dep 12 36 _ (by decide) rfl rfl, R.dep 16 40 _ (by decide) rfl rfl]
    · exact ok_call 49 _ rfl fun ρ v R => by
        obtain ⟨b, h3, h4⟩ := R.row 17 41 2 [sms [N, 1], sms [ba, 1]] (by decide) rfl rfl
        exact ⟨_, by simp [execOp, go_sem, h3, R.fn], times_lit [sms [N, 1], sms [ba, 1]] 2 rfl (by decide) h4 mq5_18⟩
    · exact ok_pure _ rfl fun ρ v R => by simp [execOp, go_sem, R.dep 11 35 _ (by decide) rfl rfl, R.dep 18 42 _ (by decide) rfl rfl, if_max]
    · exact ok_pure _ rfl fun ρ v R => by simp [execOp, go_sem, R.dep 19 43 _ (by decide) rfl rfl]
  intro vals w5 hb' hv
  have v0 : vals 0 = _ := hv (0, 24) (by decide)
  have v1 : vals 1 = _ := hv (1, 25) (by decide)
  have v2 : vals 2 = _ := hv (2, 26) (by decide)
  obtain ⟨b3, v3, -⟩ := hv (3, 27) (by decide)
  simp only at v3
  have v4 : vals 4 = _ := hv (4, 28) (by decide)
  have v5 : vals 5 = _ := hv (5, 29) (by decide)
  have v6 : vals 6 = _ := hv (6, 30) (by decide)
  have v7 : vals 7 = _ := hv (7, 31) (by decide)
  obtain ⟨b8, v8, -⟩ := hv (8, 32) (by decide)
  simp only at v8
  have v9 : vals 9 = _ := hv (9, 33) (by decide)
  obtain ⟨b10, v10, -⟩ := hv (10, 34) (by decide)
  simp only at v10
  have v11 : vals 11 = _ := hv (11, 35) (by decide)
  have v12 : vals 12 = _ := hv (12, 36) (by decide)
  have v13 : vals 13 = _ := hv (13, 37) (by decide)
  have v14 : vals 14 = _ := hv (14, 38) (by decide)
  obtain ⟨b15, v15, -⟩ := hv (15, 39) (by decide)
  simp only at v15
  have v16 : vals 16 = _ := hv (16, 40) (by decide)
  obtain ⟨b17, v17, -⟩ := hv (17, 41) (by decide)
  simp only at v17
  have v18 : vals 18 = _ := hv (18, 42) (by decide)
  have v19 : vals 19 = _ := hv (19, 43) (by decide)
  have v20 : vals 20 = _ := hv (20, 6) (by decide)
  simp only [List.foldl, v0, v1, v2, v3, v4, v5, v6, v7, v8, v9, v10, v11, v12, v13, v14, v15, v16, v17, v18, v19, v20, List.setIfInBounds_toArray, List.set_cons_succ, List.set_cons_zero]
  clear hv v0 v1 v2 v3 v4 v5 v6 v7 v8 v9 v10 v11 v12 v13 v14 v15 v16 v17 v18 v19 v20
  have hb5 : Below W.heap.size W w5 := bnext' hb4 hb'
  clear hb'
  have y_r := cell_later hb5 x_r
  have y_d := cell_later hb5 x_d
  have y_k := cell_later hb5 x_k
  have y_la := cell_later hb5 x_la
  have y_ba := cell_later hb5 x_ba
  clear y_r y_d y_k y_la y_ba
  have HBE : Hid (Below w.heap.size w w5) := bnext' hW hb5
  go_wp2
  go_ret
  refine ⟨?_, HBE.out⟩
  first
    | (rw [HNE.out, HBL.out.1]; rfl)
    | (rw [HBL.out.1]; rfl)
theorem eTerm_any (w : World) (r d k la ba n : Int) (hr : InI r) (hd : InI d) (hk : InI k) (hla : InI la) (hba : InI ba) (hn : n ≤ 9223372036854775807) :
    Calls Tryz.prog 27 #[.agg #[.int .i64 r, .int .i64 d, .int .i64 k], .agg #[.int .i64 la, .int .i64 ba], .int .i64 n] w fun x w' => x = .returned (.int .i64 (max (tms [sms [max n 0, 1], sms [r, 1], sms [k, pms [sms [d, 1], (Lib.bitLen (Int.toNat (max n 0)) : Int) + 1], 8]]) (tms [sms [max n 0, 1], sms [ba, 1]]))) ∧ Below w.heap.size w w' := by
  rcases Int.lt_or_le n 0 with h | h
  · exact eTerm_neg w r d k la ba n hr hd hk hla hba h
  · exact eTerm_pos w r d k la ba n hr hd hk hla hba ⟨h, hn⟩
end Go.Proofs.YtcdfckjlmifjiaaGreat
