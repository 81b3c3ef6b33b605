/-
  gauge.Of.
-/
import Derived.Test.YtcdfckjlmifjiaaAw
import Derived.Test.YtcdfckjlmifjiaaAhAdDtAgWvUhAiVdRt
import Derived.Deep.DeepFit
namespace Go.Proofs.Ytcdfckjlmifjiaa
open Go.RowKit
set_option linter.unusedVariables false
set_option linter.unusedSimpArgs false

set_option maxHeartbeats 1000000 in
set_option maxRecDepth 100000 in
/-- gauge.Of. -/
theorem gOf_any {w : World} {B T K E D : Nat} {zss : List (List Int)} {h : Hdr} (H : HR D (EZ K E) w B T zss h) (hT : T ≤ w.heap.size) (hD : D ≤ 1000000) (hE : E ≤ 1000000) (hK : K ≤ 1000) :
    Calls Try.prog 11 #[.slice h.p h.n h.c] w fun e w' => e = .returned (.agg #[.int .i64 (max ((olen zss : Int) - 1) 0), .int .i64 (max (odeg zss) 0), .int .i64 (obit zss)]) ∧ Below w.heap.size w w' := by
  have h1 := fun w' (hb : Below w.heap.size w w') => oOrder_any ((lasts_HR (lasts_EZ K E)).below H hT hb) (Nat.le_trans hT hb.size) hD hE
  have h2 := fun w' (hb : Below w.heap.size w w') => oDegree_any ((lasts_HR (lasts_EZ K E)).below H hT hb) (Nat.le_trans hT hb.size) hD hE
  have h3 := fun w' (hb : Below w.heap.size w w') => oBits_any ((lasts_HR (lasts_EZ K E)).below H hT hb) (Nat.le_trans hT hb.size) hD hE hK
  obtain ⟨p, n, nc⟩ := h
  simp only at h1 h2 h3 ⊢
  clear H hT
  generalize (olen zss : Int) - 1 = r at *
  generalize odeg zss = d at *
  generalize (obit zss : Int) = k at *
  obtain ⟨r', hr'⟩ : ∃ r', max r 0 = r' := ⟨_, rfl⟩
  obtain ⟨d', hd'⟩ : ∃ d', max d 0 = d' := ⟨_, rfl⟩
  have h4 := fun w => eSize_any w r d k
  rw [hr', hd'] at h4
  rw [hr', hd']
  clear hr' hd'
  have hW : Below w.heap.size w (w.alloc (.cells #[.int .i64 0, .int .i64 0, .int .i64 0] 43)) := (Below.refl _ _).alloc (Nat.le_refl _) _
  have hG : (w.alloc (.cells #[.int .i64 0, .int .i64 0, .int .i64 0] 43)).heap[w.heap.size]? = some (.cells #[.int .i64 0, .int .i64 0, .int .i64 0] 43 (0, 0)) := heap_alloc_new w _
  go_enter Try.func11, Try.ntmps11
  go_wp2_with fail
  generalize w.alloc (.cells #[.int .i64 0, .int .i64 0, .int .i64 0] 43) = W at *
  go_fit (h1 W hW)
  rintro e w1 ⟨rfl, hb1⟩
  have hB1 := bnext' hW hb1
  have h2' := h2 w1 hB1
  go_wp2_with fail
  go_fit h2'
  rintro e w2 ⟨rfl, hb2⟩
  have hB2 := bnext' hB1 hb2
  have h3' := h3 w2 hB2
  go_wp2_with fail
  go_fit h3'
  rintro e w3 ⟨rfl, hb3⟩
  have hB3 := bnext' hB2 hb3
  have hV3 := bnext' hb1 (bnext' hb2 hb3)
  clear h1 h2 h3 h2' h3' hb1 hb2 hb3 hB2 hB1
  go_wp2_with fail
  go_fit (h4 w3)
  rintro e w4 ⟨rfl, hb4⟩
  have hG4 : w4.heap[w.heap.size]? = some (.cells #[.int .i64 0, .int .i64 0, .int .i64 0] 43 (0, 0)) := ((bnext' hV3 hb4).block _ (Array.getElem?_eq_some_iff.1 hG).1).trans hG
  have HB : Hid (Below w.heap.size w w4) := bnext' hB3 hb4
  have z0 : w4.cell? ⟨w.heap.size, 0, none⟩ = some (.int .i64 0) := by simp only [World.cell?]; rw [hG4]; rfl
  have z1 : w4.cell? ⟨w.heap.size, 1, none⟩ = some (.int .i64 0) := by simp only [World.cell?]; rw [hG4]; rfl
  have z2 : w4.cell? ⟨w.heap.size, 2, none⟩ = some (.int .i64 0) := by simp only [World.cell?]; rw [hG4]; rfl
  have f0 := frozen_of_row w4 _ 0 _ _ hG4
  have f1 := frozen_of_row w4 _ 1 _ _ hG4
  have f2 := frozen_of_row w4 _ 2 _ _ hG4
  clear hB3 hb4 hV3 hG hG4 hW
  clear h4
  go_wp2_with fail
  refine bodyPost_ret (v := .agg #[.int .i64 r', .int .i64 d', .int .i64 k]) (by simp [results, Try.results11, go_sem, z0, z1, z2]) rfl ⟨rfl, ?_⟩
  exact ((HB.out.setCell (p := ⟨w.heap.size, 0, none⟩) (Nat.le_refl _) _).setCell (p := ⟨w.heap.size, 1, none⟩) (Nat.le_refl _) _).setCell (p := ⟨w.heap.size, 2, none⟩) (Nat.le_refl _) _
end Go.Proofs.Ytcdfckjlmifjiaa
/-
  estimate.Divide.
-/
namespace Go.Proofs.Ytcdfckjlmifjiaa
open Go.RowKit
set_option linter.unusedVariables false
set_option linter.unusedSimpArgs false

set_option maxHeartbeats 4000000 in
set_option maxRecDepth 100000 in
/-- estimate.Divide. -/
theorem eDivide_any (w : World) (r d k s e l m : Int) (hr : InI r) (hd : InI d) (hk : InI k) (hs : InI s) (he : InI e) (hl : InI l) (hm : InI m) :
    Calls Try.prog 46 #[.agg #[.int .i64 r, .int .i64 d, .int .i64 k], .agg #[.int .i64 s, .int .i64 e, .int .i64 l], .int .i64 m] w fun x w' => x = .returned (.int .i64 (tms [sms [r, 1], sms [s, 1], sms [r, s, 2], sms [d, e, 2], sms [k, l, pms [sms [r, 1], sms [m, 2]], 8]])) ∧ Below w.heap.size w w' := by
  have hW : Below w.heap.size w ((w.alloc (.cells #[.int .i64 r, .int .i64 d, .int .i64 k] 43)).alloc (.cells #[.int .i64 s, .int .i64 e, .int .i64 l] 43)) := (((Below.refl _ _).alloc (by simp) _).alloc (by simp) _)
  have x_r : ((w.alloc (.cells #[.int .i64 r, .int .i64 d, .int .i64 k] 43)).alloc (.cells #[.int .i64 s, .int .i64 e, .int .i64 l] 43)).cell? ⟨w.heap.size, 0, none⟩ = some (.int .i64 r) := by simp [go_sem]
  have x_d : ((w.alloc (.cells #[.int .i64 r, .int .i64 d, .int .i64 k] 43)).alloc (.cells #[.int .i64 s, .int .i64 e, .int .i64 l] 43)).cell? ⟨w.heap.size, 1, none⟩ = some (.int .i64 d) := by simp [go_sem]
  have x_k : ((w.alloc (.cells #[.int .i64 r, .int .i64 d, .int .i64 k] 43)).alloc (.cells #[.int .i64 s, .int .i64 e, .int .i64 l] 43)).cell? ⟨w.heap.size, 2, none⟩ = some (.int .i64 k) := by simp [go_sem]
  have x_s : ((w.alloc (.cells #[.int .i64 r, .int .i64 d, .int .i64 k] 43)).alloc (.cells #[.int .i64 s, .int .i64 e, .int .i64 l] 43)).cell? ⟨w.heap.size + 1, 0, none⟩ = some (.int .i64 s) := by simp [go_sem]
  have x_e : ((w.alloc (.cells #[.int .i64 r, .int .i64 d, .int .i64 k] 43)).alloc (.cells #[.int .i64 s, .int .i64 e, .int .i64 l] 43)).cell? ⟨w.heap.size + 1, 1, none⟩ = some (.int .i64 e) := by simp [go_sem]
  have x_l : ((w.alloc (.cells #[.int .i64 r, .int .i64 d, .int .i64 k] 43)).alloc (.cells #[.int .i64 s, .int .i64 e, .int .i64 l] 43)).cell? ⟨w.heap.size + 1, 2, none⟩ = some (.int .i64 l) := by simp [go_sem]
  have sW : ((w.alloc (.cells #[.int .i64 r, .int .i64 d, .int .i64 k] 43)).alloc (.cells #[.int .i64 s, .int .i64 e, .int .i64 l] 43)).heap.size = w.heap.size + 1 + 1 := by simp
  go_enter Try.func46, Try.ntmps46
  go_wp2_with fail
  generalize (w.alloc (.cells #[.int .i64 r, .int .i64 d, .int .i64 k] 43)).alloc (.cells #[.int .i64 s, .int .i64 e, .int .i64 l] 43) = W at *
  have mc1 : ∀ x ∈ [r, 1], InI x := (List.forall_mem_cons.2 ⟨hr, (List.forall_mem_cons.2 ⟨inI_lit rfl, (List.forall_mem_nil _)⟩)⟩)
  have kc1 : InI (sms [r, 1]) := sms_in mc1
  have hrd : Rd (W.alloc (.cells #[.int .i64 r, .int .i64 1] 3)) (some ⟨W.heap.size, 0, none⟩) .i64 [r, 1] := rd_lit W [r, 1] 3
  rw [sW] at hrd
  go_fit (sum_lit [r, 1] 2 rfl (by decide) hrd mc1)
  rintro e_ w1 ⟨rfl, hb'⟩
  have hb1 : Below W.heap.size W w1 := bnext' ((Below.refl _ _).alloc (Nat.le_refl _) _) hb'
  clear hrd hb'
  have y_r := cell_later hb1 x_r
  have y_d := cell_later hb1 x_d
  have y_k := cell_later hb1 x_k
  have y_s := cell_later hb1 x_s
  have y_e := cell_later hb1 x_e
  have y_l := cell_later hb1 x_l
  go_wp2_with fail
  clear y_r y_d y_k y_s y_e y_l
  have mc2 : ∀ x ∈ [m, 2], InI x := (List.forall_mem_cons.2 ⟨hm, (List.forall_mem_cons.2 ⟨inI_lit rfl, (List.forall_mem_nil _)⟩)⟩)
  have kc2 : InI (sms [m, 2]) := sms_in mc2
  have hrd : Rd (w1.alloc (.cells #[.int .i64 m, .int .i64 2] 3)) (some ⟨w1.heap.size, 0, none⟩) .i64 [m, 2] := rd_lit w1 [m, 2] 3
  go_fit (sum_lit [m, 2] 2 rfl (by decide) hrd mc2)
  rintro e_ w2 ⟨rfl, hb'⟩
  have hb2 : Below W.heap.size W w2 := bnext' hb1 (bnext' ((Below.refl _ _).alloc (Nat.le_refl _) _) hb')
  clear hrd hb'
  have y_r := cell_later hb2 x_r
  have y_d := cell_later hb2 x_d
  have y_k := cell_later hb2 x_k
  have y_s := cell_later hb2 x_s
  have y_e := cell_later hb2 x_e
  have y_l := cell_later hb2 x_l
  go_wp2_with fail
  clear y_r y_d y_k y_s y_e y_l
  have mc3 : ∀ x ∈ [sms [r, 1], sms [m, 2]], InI x := (List.forall_mem_cons.2 ⟨kc1, (List.forall_mem_cons.2 ⟨kc2, (List.forall_mem_nil _)⟩)⟩)
  have kc3 : InI (pms [sms [r, 1], sms [m, 2]]) := pms_in mc3
  have hrd : Rd (w2.alloc (.cells #[.int .i64 (sms [r, 1]), .int .i64 (sms [m, 2])] 3)) (some ⟨w2.heap.size, 0, none⟩) .i64 [sms [r, 1], sms [m, 2]] := rd_lit w2 [sms [r, 1], sms [m, 2]] 3
  go_fit (prod_lit [sms [r, 1], sms [m, 2]] 2 rfl (by decide) hrd mc3)
  rintro e_ w3 ⟨rfl, hb'⟩
  have hb3 : Below W.heap.size W w3 := bnext' hb2 (bnext' ((Below.refl _ _).alloc (Nat.le_refl _) _) hb')
  clear hrd hb'
  have y_r := cell_later hb3 x_r
  have y_d := cell_later hb3 x_d
  have y_k := cell_later hb3 x_k
  have y_s := cell_later hb3 x_s
  have y_e := cell_later hb3 x_e
  have y_l := cell_later hb3 x_l
  go_wp2_with fail
  clear y_r y_d y_k y_s y_e y_l
  have mq4_4 : ∀ x ∈ [s, 1], InI x := (List.forall_mem_cons.2 ⟨hs, (List.forall_mem_cons.2 ⟨inI_lit rfl, (List.forall_mem_nil _)⟩)⟩)
  have kq4_4 : InI (sms [s, 1]) := sms_in mq4_4
  have mq4_10 : ∀ x ∈ [r, s, 2], InI x := (List.forall_mem_cons.2 ⟨hr, (List.forall_mem_cons.2 ⟨hs, (List.forall_mem_cons.2 ⟨inI_lit rfl, (List.forall_mem_nil _)⟩)⟩)⟩)
  have kq4_10 : InI (sms [r, s, 2]) := sms_in mq4_10
  have mq4_16 : ∀ x ∈ [d, e, 2], InI x := (List.forall_mem_cons.2 ⟨hd, (List.forall_mem_cons.2 ⟨he, (List.forall_mem_cons.2 ⟨inI_lit rfl, (List.forall_mem_nil _)⟩)⟩)⟩)
  have kq4_16 : InI (sms [d, e, 2]) := sms_in mq4_16
  have mq4_23 : ∀ x ∈ [k, l, pms [sms [r, 1], sms [m, 2]], 8], InI x := (List.forall_mem_cons.2 ⟨hk, (List.forall_mem_cons.2 ⟨hl, (List.forall_mem_cons.2 ⟨kc3, (List.forall_mem_cons.2 ⟨inI_lit rfl, (List.forall_mem_nil _)⟩)⟩)⟩)⟩)
  have kq4_23 : InI (sms [k, l, pms [sms [r, 1], sms [m, 2]], 8]) := sms_in mq4_23
  have mq4_25 : ∀ x ∈ [sms [r, 1], sms [s, 1], sms [r, s, 2], sms [d, e, 2], sms [k, l, pms [sms [r, 1], sms [m, 2]], 8]], InI x := (List.forall_mem_cons.2 ⟨kc1, (List.forall_mem_cons.2 ⟨kq4_4, (List.forall_mem_cons.2 ⟨kq4_10, (List.forall_mem_cons.2 ⟨kq4_16, (List.forall_mem_cons.2 ⟨kq4_23, (List.forall_mem_nil _)⟩)⟩)⟩)⟩)⟩)
  have kq4_25 : InI (tms [sms [r, 1], sms [s, 1], sms [r, s, 2], sms [d, e, 2], sms [k, l, pms [sms [r, 1], sms [m, 2]], 8]]) := tms_in mq4_25
  refine region_ints [(0, 19), (1, 20), (2, 21), (3, 22), (4, 23), (5, 24), (6, 25), (7, 26), (8, 27), (9, 28), (10, 29), (11, 30), (12, 31), (13, 32), (14, 33), (15, 34), (16, 35), (17, 36), (18, 37), (19, 38), (20, 39), (21, 40), (22, 41), (23, 42), (24, 43), (25, 44), (26, 6)]
    [.val (.int .i64 (sms [r, 1])), .val (.pointer (some ⟨w.heap.size + 1, 0, none⟩)), .val (.int .i64 (s)), .row 2 [s, 1], .val (.int .i64 (sms [s, 1])), .val (.pointer (some ⟨w.heap.size, 0, none⟩)), .val (.int .i64 (r)), .val (.pointer (some ⟨w.heap.size + 1, 0, none⟩)), .val (.int .i64 (s)), .row 3 [r, s, 2], .val (.int .i64 (sms [r, s, 2])), .val (.pointer (some ⟨w.heap.size, 1, none⟩)), .val (.int .i64 (d)), .val (.pointer (some ⟨w.heap.size + 1, 1, none⟩)), .val (.int .i64 (e)), .row 3 [d, e, 2], .val (.int .i64 (sms [d, e, 2])), .val (.pointer (some ⟨w.heap.size, 2, none⟩)), .val (.int .i64 (k)), .val (.pointer (some ⟨w.heap.size + 1, 2, none⟩)), .val (.int .i64 (l)), .val (.int .i64 (pms [sms [r, 1], sms [m, 2]])), .row 4 [k, l, pms [sms [r, 1], sms [m, 2]], 8], .val (.int .i64 (sms [k, l, pms [sms [r, 1], sms [m, 2]], 8])), .row 5 [sms [r, 1], sms [s, 1], sms [r, s, 2], sms [d, e, 2], sms [k, l, pms [sms [r, 1], sms [m, 2]], 8]], .val (.int .i64 (tms [sms [r, 1], sms [s, 1], sms [r, s, 2], sms [d, e, 2], sms [k, l, pms [sms [r, 1], sms [m, 2]], 8]])), .val (.int .i64 (tms [sms [r, 1], sms [s, 1], sms [r, s, 2], sms [d, e, 2], sms [k, l, pms [sms [r, 1], sms [m, 2]], 8]]))]
    (by kernel_rfl) (by kernel_rfl) (by kernel_rfl) (by decide) (by decide) (by rfl) ?_ ?_
  · refine ⟨?_, ?_, ?_, ?_, ?_, ?_, ?_, ?_, ?_, ?_, ?_, ?_, ?_, ?_, ?_, ?_, ?_, ?_, ?_, ?_, ?_, ?_, ?_, ?_, ?_, ?_, ?_, trivial⟩
    · exact ok_pure _ rfl fun ρ v R => by simp [execOp, go_sem, R.old 7 (by decide)]
    · exact ok_pure _ rfl fun ρ v R => by simp [execOp, go_sem, R.old 4 (by decide)]
    · exact ok_pure _ rfl fun ρ v R => by have x := cell_later R.b (cell_later hb3 x_s); simp [execOp, go_sem, R.dep 1 20 _ (by decide) rfl rfl, x]
    · exact ok_build 2 [s, 1] 3 rfl (fun v => rd_lit v _ _) fun ρ v R => by simp [execOp, go_sem, R.con, R.dep 2 21 _ (by decide) rfl rfl]
    · exact ok_call 54 _ rfl fun ρ v R => by
        obtain ⟨b, h3, h4⟩ := R.row 3 22 2 [s, 1] (by decide) rfl rfl
        exact ⟨_, by simp [execOp, go_sem, h3, R.fn], sum_lit [s, 1] 2 rfl (by decide) h4 mq4_4⟩
    · exact ok_pure _ rfl fun ρ v R => by simp [execOp, go_sem, R.old 3 (by decide)]
    · exact ok_pure _ rfl fun ρ v R => by have x := cell_later R.b (cell_later hb3 x_r); simp [execOp, go_sem, R.dep 5 24 _ (by decide) rfl rfl, x]
    · exact ok_pure _ rfl fun ρ v R => by simp [execOp, go_sem, R.old 4 (by decide)]
    · exact ok_pure _ rfl fun ρ v R => by have x := cell_later R.b (cell_later hb3 x_s); simp [execOp, go_sem, R.dep 7 26 _ (by decide) rfl rfl, x]
    · exact ok_build 3 [r, s, 2] 3 rfl (fun v => rd_lit v _ _) fun ρ v R => by simp [execOp, go_sem, R.con, R.dep 6 25 _ (by decide) rfl rfl, R.dep 8 27 _ (by decide) rfl rfl]
    · exact ok_call 54 _ rfl fun ρ v R => by
        obtain ⟨b, h3, h4⟩ := R.row 9 28 3 [r, s, 2] (by decide) rfl rfl
        exact ⟨_, by simp [execOp, go_sem, h3, R.fn], sum_lit [r, s, 2] 3 rfl (by decide) h4 mq4_10⟩
    · exact ok_pure _ rfl fun ρ v R => by simp [execOp, go_sem, R.old 3 (by decide)]
    · exact ok_pure _ rfl fun ρ v R => by have x := cell_later R.b (cell_later hb3 x_d); simp [execOp, go_sem, R.dep 11 30 _ (by decide) rfl rfl, x]
    · exact ok_pure _ rfl fun ρ v R => by simp [execOp, go_sem, R.old 4 (by decide)]
    · exact ok_pure _ rfl fun ρ v R => by have x := cell_later R.b (cell_later hb3 x_e); simp [execOp, go_sem, R.dep 13 32 _ (by decide) rfl rfl, x]
    · exact ok_build 3 [d, e, 2] 3 rfl (fun v => rd_lit v _ _) fun ρ v R => by simp [execOp, go_sem, R.con, R.dep 12 31 _ (by decide) rfl rfl, R.dep 14 33 _ (by decide) rfl rfl]
    · exact ok_call 54 _ rfl fun ρ v R => by
        obtain ⟨b, h3, h4⟩ := R.row 15 34 3 [d, e, 2] (by decide) rfl rfl
        exact ⟨_, by simp [execOp, go_sem, h3, R.fn], sum_lit [d, e, 2] 3 rfl (by decide) h4 mq4_16⟩
    · exact ok_pure _ rfl fun ρ v R => by simp [execOp, go_sem, R.old 3 (by decide)]
    · exact ok_pure _ rfl fun ρ v R => by have x := cell_later R.b (cell_later hb3 x_k); simp [execOp, go_sem, R.dep 17 36 _ (by decide) rfl rfl, x]
    · exact ok_pure _ rfl fun ρ v R => by simp [execOp, go_sem, R.old 4 (by decide)]
    · exact ok_pure _ rfl fun ρ v R => by have x := cell_later R.b (cell_later hb3 x_l); simp [execOp, go_sem, R.dep 19 38 _ (by decide) rfl rfl, x]
    · exact ok_pure _ rfl fun ρ v R => by simp [execOp, go_sem, R.old 8 (by decide)]
    · exact ok_build 4 [k, l, pms [sms [r, 1], sms [m, 2]], 8] 3 rfl (fun v => rd_lit v _ _) fun ρ v R => by simp [execOp, go_sem, R.con, R.dep 18 37 _ (by decide) rfl rfl, R.dep 20 39 _ (by decide) rfl rfl, R.dep 21 40 _ (by decide) rfl rfl]
    · exact ok_call 54 _ rfl fun ρ v R => by
        obtain ⟨b, h3, h4⟩ := R.row 22 41 4 [k, l, pms [sms [r, 1], sms [m, 2]], 8] (by decide) rfl rfl
        exact ⟨_, by simp [execOp, go_sem, h3, R.fn], sum_lit [k, l, pms [sms [r, 1], sms [m, 2]], 8] 4 rfl (by decide) h4 mq4_23⟩
    · exact ok_build 5 [sms [r, 1], sms [s, 1], sms [r, s, 2], sms [d, e, 2], sms [k, l, pms [sms [r, 1], sms [m, 2]], 8]] 3 rfl (fun v => rd_lit v _ _) fun ρ v R => by simp [execOp, go_sem, R.dep 0 19 _ (by decide) rfl rfl, R.dep 10 29 _ (by decide) rfl rfl, R.dep 16 35 _ (by decide) rfl rfl, R.dep 23 42 _ (by decide) rfl rfl, R.dep 4 23 _ (by decide) rfl rfl]
    · exact ok_call 49 _ rfl fun ρ v R => by
        obtain ⟨b, h3, h4⟩ := R.row 24 43 5 [sms [r, 1], sms [s, 1], sms [r, s, 2], sms [d, e, 2], sms [k, l, pms [sms [r, 1], sms [m, 2]], 8]] (by decide) rfl rfl
        exact ⟨_, by simp [execOp, go_sem, h3, R.fn], times_lit [sms [r, 1], sms [s, 1], sms [r, s, 2], sms [d, e, 2], sms [k, l, pms [sms [r, 1], sms [m, 2]], 8]] 5 rfl (by decide) h4 mq4_25⟩
    · exact ok_pure _ rfl fun ρ v R => by simp [execOp, go_sem, R.dep 25 44 _ (by decide) rfl rfl]
  intro vals w4 hb' hv
  have v0 : vals 0 = _ := hv (0, 19) (by decide)
  have v1 : vals 1 = _ := hv (1, 20) (by decide)
  have v2 : vals 2 = _ := hv (2, 21) (by decide)
  obtain ⟨b3, v3, -⟩ := hv (3, 22) (by decide)
  simp only at v3
  have v4 : vals 4 = _ := hv (4, 23) (by decide)
  have v5 : vals 5 = _ := hv (5, 24) (by decide)
  have v6 : vals 6 = _ := hv (6, 25) (by decide)
  have v7 : vals 7 = _ := hv (7, 26) (by decide)
  have v8 : vals 8 = _ := hv (8, 27) (by decide)
  obtain ⟨b9, v9, -⟩ := hv (9, 28) (by decide)
  simp only at v9
  have v10 : vals 10 = _ := hv (10, 29) (by decide)
  have v11 : vals 11 = _ := hv (11, 30) (by decide)
  have v12 : vals 12 = _ := hv (12, 31) (by decide)
  have v13 : vals 13 = _ := hv (13, 32) (by decide)
  have v14 : vals 14 = _ := hv (14, 33) (by decide)
  obtain ⟨b15, v15, -⟩ := hv (15, 34) (by decide)
  simp only at v15
  have v16 : vals 16 = _ := hv (16, 35) (by decide)
  have v17 : vals 17 = _ := hv (17, 36) (by decide)
  have v18 : vals 18 = _ := hv (18, 37) (by decide)
  have v19 : vals 19 = _ := hv (19, 38) (by decide)
  have v20 : vals 20 = _ := hv (20, 39) (by decide)
  have v21 : vals 21 = _ := hv (21, 40) (by decide)
  obtain ⟨b22, v22, -⟩ := hv (22, 41) (by decide)
  simp only at v22
  have v23 : vals 23 = _ := hv (23, 42) (by decide)
  obtain ⟨b24, v24, -⟩ := hv (24, 43) (by decide)
  simp only at v24
  have v25 : vals 25 = _ := hv (25, 44) (by decide)
  have v26 : vals 26 = _ := hv (26, 6) (by decide)
  simp only [List.foldl, v0, v1, v2, v3, v4, v5, v6, v7, v8, v9, v10, v11, v12, v13, v14, v15, v16, v17, v18, v19, v20, v21, v22, v23, v24, v25, v26, List.setIfInBounds_toArray, List.set_cons_succ, List.set_cons_zero]
  clear hv v0 v1 v2 v3 v4 v5 v6 v7 v8 v9 v10 v11 v12 v13 v14 v15 v16 v17 v18 v19 v20 v21 v22 v23 v24 v25 v26
  have hb4 : Below W.heap.size W w4 := bnext' hb3 hb'
  clear hb'
  have y_r := cell_later hb4 x_r
  have y_d := cell_later hb4 x_d
  have y_k := cell_later hb4 x_k
  have y_s := cell_later hb4 x_s
  have y_e := cell_later hb4 x_e
  have y_l := cell_later hb4 x_l
  clear y_r y_d y_k y_s y_e y_l
  have HBE : Hid (Below w.heap.size w w4) := bnext' hW hb4
  go_wp2
  go_ret
  exact ⟨rfl, HBE.out⟩
end Go.Proofs.Ytcdfckjlmifjiaa
