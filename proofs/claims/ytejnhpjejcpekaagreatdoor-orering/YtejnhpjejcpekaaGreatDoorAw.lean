/-
  estimate.Size, Mul; ore.size.
-/
import Derived.Test.YtejnhpjejcpekaaGreatDoorOrAv
import Derived.Test.YtejnhpjejcpekaaGreatDoorAiRzVdRtDhVeRsVfVcAjDqDrBmBqDuAkBrAl
import Derived.Test.YtejnhpjejcpekaaGreatDoorDyEoEq
import Derived.Test.YtejnhpjejcpekaaGreatDoorWdWeNi
import Derived.Deep.DeepFit
import Derived.Deep.DeepCutAuto
import Derived.Deep.RegionHeld3
namespace Go.Proofs.YtejnhpjejcpekaaGreatDoor
open Go.RowKit
set_option linter.unusedVariables false
set_option linter.unusedSimpArgs false
set_option maxHeartbeats 8000000
set_option maxRecDepth 100000 in
theorem eSize_any (w : World) (r d k : Int) :
    Calls Tryz.prog 128 #[.int .i64 r, .int .i64 d, .int .i64 k] w fun e w' => e = .returned (.agg #[.int .i64 (max r 0), .int .i64 (max d 0), .int .i64 k]) ∧ Below w.heap.size w w' := by
  obtain ⟨R, hR⟩ : ∃ R, max r 0 = R := ⟨_, rfl⟩
  obtain ⟨D, hD⟩ : ∃ D, max d 0 = D := ⟨_, rfl⟩
  rw [hR, hD]
  have HR : Hid (max r 0 = R ∧ max d 0 = D) := ⟨hR, hD⟩
  go_enter Tryz.func128, Tryz.ntmps128
  go_wp2_with fail
  all_goals
    refine bodyPost_ret (v := .agg #[.int .i64 R, .int .i64 D, .int .i64 k]) ?_ rfl ⟨rfl, (Below.refl _ _).alloc (Nat.le_refl _) _⟩
    obtain ⟨h1, h2⟩ := HR.out
    simp [results, Tryz.results128, go_sem]
    try omega
theorem rd_lit (w : World) (xs : List Int) (t : TypeId) : Rd (w.alloc (.cells ((xs.map (Value.int .i64)).toArray) t)) (some ⟨w.heap.size, 0, none⟩) .i64 xs := fun _ => ⟨w.heap.size, 0, rfl, fun j hj => by
  simp only [World.cell?, heap_alloc_new, Nat.zero_add]
  simp [gx, hj]⟩
theorem sum_lit {w : World} {b : Nat} (xs : List Int) (n : Nat) (hl : xs.length = n) (hn : n ≤ 100) (h : Rd w (some ⟨b, 0, none⟩) .i64 xs) (hx : ∀ x ∈ xs, InI x) :
    Calls Tryz.prog 125 #[.slice (some ⟨b, 0, none⟩) n n] w fun e w' => e = .returned (.int .i64 (sms xs)) ∧ Below w.heap.size w w' :=
  eSum_any hl h (by omega) fun j hj => by
    rw [gx_mem xs j (by omega)]
    exact hx _ (List.getElem_mem _)
theorem prod_lit {w : World} {b : Nat} (xs : List Int) (n : Nat) (hl : xs.length = n) (hn : n ≤ 100) (h : Rd w (some ⟨b, 0, none⟩) .i64 xs) (hx : ∀ x ∈ xs, InI x) :
    Calls Tryz.prog 126 #[.slice (some ⟨b, 0, none⟩) n n] w fun e w' => e = .returned (.int .i64 (pms xs)) ∧ Below w.heap.size w w' :=
  eProduct_any hl h (by omega) fun j hj => by
    rw [gx_mem xs j (by omega)]
    exact hx _ (List.getElem_mem _)
theorem times_lit {w : World} {b : Nat} (xs : List Int) (n : Nat) (hl : xs.length = n) (hn : n ≤ 100) (h : Rd w (some ⟨b, 0, none⟩) .i64 xs) (hx : ∀ x ∈ xs, InI x) :
    Calls Tryz.prog 127 #[.slice (some ⟨b, 0, none⟩) n n] w fun e w' => e = .returned (.int .i64 (tms xs)) ∧ Below w.heap.size w w' :=
  eTimes_any hl h (by omega) fun j hj => by
    rw [gx_mem xs j (by omega)]
    exact (hx _ (List.getElem_mem _)).2
theorem inI_lit {x : Int} (h : (decide (0 ≤ x) && decide (x ≤ 9223372036854775807)) = true) : InI x := by
  simp only [Bool.and_eq_true, decide_eq_true_eq] at h
  exact h
theorem sms_in {xs : List Int} (h : ∀ x ∈ xs, InI x) : InI (sms xs) := by
  have := fold_inv smf InT InI smf_bd xs 0 ⟨by decide, by decide⟩ h
  exact ⟨this.1, by have := this.2; unfold sms; omega⟩
theorem pms_in {xs : List Int} (h : ∀ x ∈ xs, InI x) : InI (pms xs) := by
  have := fold_inv pmf InT InI pmf_bd xs 1 ⟨by decide, by decide⟩ h
  exact ⟨this.1, by have := this.2; unfold pms; omega⟩
theorem tms_in {xs : List Int} (h : ∀ x ∈ xs, InI x) : InI (tms xs) := by
  have := tms_bd xs 1 (by decide) (by decide)
  unfold tms
  exact ⟨by omega, by omega⟩
set_option maxRecDepth 100000 in
theorem eMul_any (w : World) (r d k s e l m : Int) (hr : InI r) (hd : InI d) (hk : InI k) (hs : InI s) (he : InI e) (hl : InI l) (hm : InI m) :
    Calls Tryz.prog 59 #[.agg #[.int .i64 r, .int .i64 d, .int .i64 k], .agg #[.int .i64 s, .int .i64 e, .int .i64 l], .int .i64 m] w fun x w' => x = .returned (.int .i64 (tms [sms [r, 1], sms [s, 1], sms [d, e, 2], sms [k, l, sms [pms [sms [r, 1], sms [e, 1]], pms [r, sms [e, 1], m]], 8]])) ∧ Below w.heap.size w w' := by
  have hW : Below w.heap.size w ((w.alloc (.cells #[.int .i64 r, .int .i64 d, .int .i64 k] 107)).alloc (.cells #[.int .i64 s, .int .i64 e, .int .i64 l] 107)) := ((Below.refl _ _).alloc (Nat.le_refl _) _).alloc (by simp) _
  have xa : ((w.alloc (.cells #[.int .i64 r, .int .i64 d, .int .i64 k] 107)).alloc (.cells #[.int .i64 s, .int .i64 e, .int .i64 l] 107)).cell? ⟨w.heap.size, 0, none⟩ = some (.int .i64 r) := by simp [go_sem]
  have xad : ((w.alloc (.cells #[.int .i64 r, .int .i64 d, .int .i64 k] 107)).alloc (.cells #[.int .i64 s, .int .i64 e, .int .i64 l] 107)).cell? ⟨w.heap.size, 1, none⟩ = some (.int .i64 d) := by simp [go_sem]
  have xak : ((w.alloc (.cells #[.int .i64 r, .int .i64 d, .int .i64 k] 107)).alloc (.cells #[.int .i64 s, .int .i64 e, .int .i64 l] 107)).cell? ⟨w.heap.size, 2, none⟩ = some (.int .i64 k) := by simp [go_sem]
  have xbs : ((w.alloc (.cells #[.int .i64 r, .int .i64 d, .int .i64 k] 107)).alloc (.cells #[.int .i64 s, .int .i64 e, .int .i64 l] 107)).cell? ⟨w.heap.size + 1, 0, none⟩ = some (.int .i64 s) := by simp [go_sem]
  have xbl : ((w.alloc (.cells #[.int .i64 r, .int .i64 d, .int .i64 k] 107)).alloc (.cells #[.int .i64 s, .int .i64 e, .int .i64 l] 107)).cell? ⟨w.heap.size + 1, 2, none⟩ = some (.int .i64 l) := by simp [go_sem]
  have xb : ((w.alloc (.cells #[.int .i64 r, .int .i64 d, .int .i64 k] 107)).alloc (.cells #[.int .i64 s, .int .i64 e, .int .i64 l] 107)).cell? ⟨w.heap.size + 1, 1, none⟩ = some (.int .i64 e) := by simp [go_sem]
  go_enter Tryz.func59, Tryz.ntmps59
  go_wp2_with fail
  generalize (w.alloc (.cells #[.int .i64 r, .int .i64 d, .int .i64 k] 107)).alloc (.cells #[.int .i64 s, .int .i64 e, .int .i64 l] 107) = W at *
  have h1 : ∀ x ∈ [r, 1], InI x := by simp [hr]; simp [InI]
  have h2 : ∀ x ∈ [e, 1], InI x := by simp [he]; simp [InI]
  have k1 := sms_in h1
  have k2 := sms_in h2
  refine region_ints [(0, 10), (1, 11), (2, 12), (3, 13), (4, 14), (5, 15), (6, 16), (7, 17), (8, 7), (9, 8)]
    [.val (.pointer (some ⟨w.heap.size, 0, none⟩)), .val (.int .i64 r), .row 2 [r, 1], .val (.int .i64 (sms [r, 1])), .val (.pointer (some ⟨w.heap.size + 1, 1, none⟩)), .val (.int .i64 e), .row 2 [e, 1], .val (.int .i64 (sms [e, 1])), .val (.int .i64 (sms [r, 1])), .val (.int .i64 (sms [e, 1]))]
    (by kernel_rfl) (by kernel_rfl) (by kernel_rfl) (by decide) (by decide) (by rfl) ?_ ?_
  · refine ⟨?_, ?_, ?_, ?_, ?_, ?_, ?_, ?_, ?_, ?_, trivial⟩
    · exact ok_pure _ rfl fun ρ v R => by simp [execOp, go_sem, R.old 3 (by decide)]
    · exact ok_pure _ rfl fun ρ v R => by have x := cell_later R.b xa; simp [execOp, go_sem, R.dep 0 10 _ (by decide) rfl rfl, x]
    · exact ok_build 2 [r, 1] 3 rfl (fun v => rd_lit v _ _) fun ρ v R => by simp [execOp, go_sem, R.dep 1 11 _ (by decide) rfl rfl, R.con]
    · exact ok_call 125 _ rfl fun ρ v R => by
        obtain ⟨b, h3, h4⟩ := R.row 2 12 2 [r, 1] (by decide) rfl rfl
        exact ⟨_, by simp [execOp, go_sem, h3, R.fn], sum_lit [r, 1] 2 rfl (by decide) h4 h1⟩
    · exact ok_pure _ rfl fun ρ v R => by simp [execOp, go_sem, R.old 4 (by decide)]
    · exact ok_pure _ rfl fun ρ v R => by have x := cell_later R.b xb; simp [execOp, go_sem, R.dep 4 14 _ (by decide) rfl rfl, x]
    · exact ok_build 2 [e, 1] 3 rfl (fun v => rd_lit v _ _) fun ρ v R => by simp [execOp, go_sem, R.dep 5 15 _ (by decide) rfl rfl, R.con]
    · exact ok_call 125 _ rfl fun ρ v R => by
        obtain ⟨b, h3, h4⟩ := R.row 6 16 2 [e, 1] (by decide) rfl rfl
        exact ⟨_, by simp [execOp, go_sem, h3, R.fn], sum_lit [e, 1] 2 rfl (by decide) h4 h2⟩
    · exact ok_pure _ rfl fun ρ v R => by simp [execOp, go_sem, R.dep 3 13 _ (by decide) rfl rfl]
    · exact ok_pure _ rfl fun ρ v R => by simp [execOp, go_sem, R.dep 7 17 _ (by decide) rfl rfl]
  · intro vals w2 hb2 hv
    have v0 : vals 0 = _ := hv (0, 10) (by decide)
    have v1 : vals 1 = _ := hv (1, 11) (by decide)
    obtain ⟨b2, v2, -⟩ := hv (2, 12) (by decide)
    have v3 : vals 3 = _ := hv (3, 13) (by decide)
    have v4 : vals 4 = _ := hv (4, 14) (by decide)
    have v5 : vals 5 = _ := hv (5, 15) (by decide)
    obtain ⟨b6, v6, -⟩ := hv (6, 16) (by decide)
    have v7 : vals 7 = _ := hv (7, 17) (by decide)
    have v8 : vals 8 = _ := hv (8, 7) (by decide)
    have v9 : vals 9 = _ := hv (9, 8) (by decide)
    simp only at v2 v6
    simp only [List.foldl, v0, v1, v2, v3, v4, v5, v6, v7, v8, v9, List.setIfInBounds_toArray, List.set_cons_succ, List.set_cons_zero]
    clear hv v0 v1 v2 v3 v4 v5 v6 v7 v8 v9
    go_wp2_with fail
    have mb3 : ∀ x ∈ [sms [r, 1], sms [e, 1]], InI x := (List.forall_mem_cons.2 ⟨k1, (List.forall_mem_cons.2 ⟨k2, (List.forall_mem_nil _)⟩)⟩)
    have kb3 : InI (pms [sms [r, 1], sms [e, 1]]) := pms_in mb3
    have mb9 : ∀ x ∈ [r, sms [e, 1], m], InI x := (List.forall_mem_cons.2 ⟨hr, (List.forall_mem_cons.2 ⟨k2, (List.forall_mem_cons.2 ⟨hm, (List.forall_mem_nil _)⟩)⟩)⟩)
    have kb9 : InI (pms [r, sms [e, 1], m]) := pms_in mb9
    have mb11 : ∀ x ∈ [pms [sms [r, 1], sms [e, 1]], pms [r, sms [e, 1], m]], InI x := (List.forall_mem_cons.2 ⟨kb3, (List.forall_mem_cons.2 ⟨kb9, (List.forall_mem_nil _)⟩)⟩)
    have kb11 : InI (sms [pms [sms [r, 1], sms [e, 1]], pms [r, sms [e, 1], m]]) := sms_in mb11
    refine region_ints [(0, 18), (1, 19), (2, 20), (3, 21), (4, 22), (5, 23), (6, 24), (7, 25), (8, 26), (9, 27), (10, 28), (11, 29), (12, 9)]
      [.val (.int .i64 (sms [r, 1])), .val (.int .i64 (sms [e, 1])), .row 2 [sms [r, 1], sms [e, 1]], .val (.int .i64 (pms [sms [r, 1], sms [e, 1]])), .val (.pointer (some ⟨w.heap.size, 0, none⟩)), .val (.int .i64 (r)), .val (.int .i64 (sms [e, 1])), .val (.int .i64 (m)), .row 3 [r, sms [e, 1], m], .val (.int .i64 (pms [r, sms [e, 1], m])), .row 2 [pms [sms [r, 1], sms [e, 1]], pms [r, sms [e, 1], m]], .val (.int .i64 (sms [pms [sms [r, 1], sms [e, 1]], pms [r, sms [e, 1], m]])), .val (.int .i64 (sms [pms [sms [r, 1], sms [e, 1]], pms [r, sms [e, 1], m]]))]
      (by kernel_rfl) (by kernel_rfl) (by kernel_rfl) (by decide) (by decide) (by rfl) ?_ ?_
    · refine ⟨?_, ?_, ?_, ?_, ?_, ?_, ?_, ?_, ?_, ?_, ?_, ?_, ?_, trivial⟩
      · exact ok_pure _ rfl fun ρ v R => by simp [execOp, go_sem, R.old 7 (by decide)]
      · exact ok_pure _ rfl fun ρ v R => by simp [execOp, go_sem, R.old 8 (by decide)]
      · exact ok_build 2 [sms [r, 1], sms [e, 1]] 3 rfl (fun v => rd_lit v _ _) fun ρ v R => by simp [execOp, go_sem, R.dep 0 18 _ (by decide) rfl rfl, R.dep 1 19 _ (by decide) rfl rfl]
      · exact ok_call 126 _ rfl fun ρ v R => by
          obtain ⟨b, h3, h4⟩ := R.row 2 20 2 [sms [r, 1], sms [e, 1]] (by decide) rfl rfl
          exact ⟨_, by simp [execOp, go_sem, h3, R.fn], prod_lit [sms [r, 1], sms [e, 1]] 2 rfl (by decide) h4 mb3⟩
      · exact ok_pure _ rfl fun ρ v R => by simp [execOp, go_sem, R.old 3 (by decide)]
      · exact ok_pure _ rfl fun ρ v R => by have x := cell_later R.b (cell_later hb2 xa); simp [execOp, go_sem, R.dep 4 22 _ (by decide) rfl rfl, x]
      · exact ok_pure _ rfl fun ρ v R => by simp [execOp, go_sem, R.old 8 (by decide)]
      · exact ok_pure _ rfl fun ρ v R => by simp [execOp, go_sem, R.old 2 (by decide)]
      · exact ok_build 3 [r, sms [e, 1], m] 3 rfl (fun v => rd_lit v _ _) fun ρ v R => by simp [execOp, go_sem, R.dep 5 23 _ (by decide) rfl rfl, R.dep 6 24 _ (by decide) rfl rfl, R.dep 7 25 _ (by decide) rfl rfl]
      · exact ok_call 126 _ rfl fun ρ v R => by
          obtain ⟨b, h3, h4⟩ := R.row 8 26 3 [r, sms [e, 1], m] (by decide) rfl rfl
          exact ⟨_, by simp [execOp, go_sem, h3, R.fn], prod_lit [r, sms [e, 1], m] 3 rfl (by decide) h4 mb9⟩
      · exact ok_build 2 [pms [sms [r, 1], sms [e, 1]], pms [r, sms [e, 1], m]] 3 rfl (fun v => rd_lit v _ _) fun ρ v R => by simp [execOp, go_sem, R.dep 3 21 _ (by decide) rfl rfl, R.dep 9 27 _ (by decide) rfl rfl]
      · exact ok_call 125 _ rfl fun ρ v R => by
          obtain ⟨b, h3, h4⟩ := R.row 10 28 2 [pms [sms [r, 1], sms [e, 1]], pms [r, sms [e, 1], m]] (by decide) rfl rfl
          exact ⟨_, by simp [execOp, go_sem, h3, R.fn], sum_lit [pms [sms [r, 1], sms [e, 1]], pms [r, sms [e, 1], m]] 2 rfl (by decide) h4 mb11⟩
      · exact ok_pure _ rfl fun ρ v R => by simp [execOp, go_sem, R.dep 11 29 _ (by decide) rfl rfl]
    · intro vals w3 hb3 hv
      have v0 : vals 0 = _ := hv (0, 18) (by decide)
      have v1 : vals 1 = _ := hv (1, 19) (by decide)
      obtain ⟨b2, v2, -⟩ := hv (2, 20) (by decide)
      simp only at v2
      have v3 : vals 3 = _ := hv (3, 21) (by decide)
      have v4 : vals 4 = _ := hv (4, 22) (by decide)
      have v5 : vals 5 = _ := hv (5, 23) (by decide)
      have v6 : vals 6 = _ := hv (6, 24) (by decide)
      have v7 : vals 7 = _ := hv (7, 25) (by decide)
      obtain ⟨b8, v8, -⟩ := hv (8, 26) (by decide)
      simp only at v8
      have v9 : vals 9 = _ := hv (9, 27) (by decide)
      obtain ⟨b10, v10, -⟩ := hv (10, 28) (by decide)
      simp only at v10
      have v11 : vals 11 = _ := hv (11, 29) (by decide)
      have v12 : vals 12 = _ := hv (12, 9) (by decide)
      simp only [List.foldl, v0, v1, v2, v3, v4, v5, v6, v7, v8, v9, v10, v11, v12, List.setIfInBounds_toArray, List.set_cons_succ, List.set_cons_zero]
      clear hv v0 v1 v2 v3 v4 v5 v6 v7 v8 v9 v10 v11 v12
      go_wp2_with fail
      have mc4 : ∀ x ∈ [s, 1], InI x := (List.forall_mem_cons.2 ⟨hs, (List.forall_mem_cons.2 ⟨inI_lit rfl, (List.forall_mem_nil _)⟩)⟩)
      have kc4 : InI (sms [s, 1]) := sms_in mc4
      have mc10 : ∀ x ∈ [d, e, 2], InI x := (List.forall_mem_cons.2 ⟨hd, (List.forall_mem_cons.2 ⟨he, (List.forall_mem_cons.2 ⟨inI_lit rfl, (List.forall_mem_nil _)⟩)⟩)⟩)
      have kc10 : InI (sms [d, e, 2]) := sms_in mc10
      have mc17 : ∀ x ∈ [k, l, sms [pms [sms [r, 1], sms [e, 1]], pms [r, sms [e, 1], m]], 8], InI x := (List.forall_mem_cons.2 ⟨hk, (List.forall_mem_cons.2 ⟨hl, (List.forall_mem_cons.2 ⟨kb11, (List.forall_mem_cons.2 ⟨inI_lit rfl, (List.forall_mem_nil _)⟩)⟩)⟩)⟩)
      have kc17 : InI (sms [k, l, sms [pms [sms [r, 1], sms [e, 1]], pms [r, sms [e, 1], m]], 8]) := sms_in mc17
      have mc19 : ∀ x ∈ [sms [r, 1], sms [s, 1], sms [d, e, 2], sms [k, l, sms [pms [sms [r, 1], sms [e, 1]], pms [r, sms [e, 1], m]], 8]], InI x := (List.forall_mem_cons.2 ⟨k1, (List.forall_mem_cons.2 ⟨kc4, (List.forall_mem_cons.2 ⟨kc10, (List.forall_mem_cons.2 ⟨kc17, (List.forall_mem_nil _)⟩)⟩)⟩)⟩)
      have kc19 : InI (tms [sms [r, 1], sms [s, 1], sms [d, e, 2], sms [k, l, sms [pms [sms [r, 1], sms [e, 1]], pms [r, sms [e, 1], m]], 8]]) := tms_in mc19
      refine region_ints [(0, 30), (1, 31), (2, 32), (3, 33), (4, 34), (5, 35), (6, 36), (7, 37), (8, 38), (9, 39), (10, 40), (11, 41), (12, 42), (13, 43), (14, 44), (15, 45), (16, 46), (17, 47), (18, 48), (19, 49), (20, 6)]
        [.val (.int .i64 (sms [r, 1])), .val (.pointer (some ⟨w.heap.size + 1, 0, none⟩)), .val (.int .i64 (s)), .row 2 [s, 1], .val (.int .i64 (sms [s, 1])), .val (.pointer (some ⟨w.heap.size, 1, none⟩)), .val (.int .i64 (d)), .val (.pointer (some ⟨w.heap.size + 1, 1, none⟩)), .val (.int .i64 (e)), .row 3 [d, e, 2], .val (.int .i64 (sms [d, e, 2])), .val (.pointer (some ⟨w.heap.size, 2, none⟩)), .val (.int .i64 (k)), .val (.pointer (some ⟨w.heap.size + 1, 2, none⟩)), .val (.int .i64 (l)), .val (.int .i64 (sms [pms [sms [r, 1], sms [e, 1]], pms [r, sms [e, 1], m]])), .row 4 [k, l, sms [pms [sms [r, 1], sms [e, 1]], pms [r, sms [e, 1], m]], 8], .val (.int .i64 (sms [k, l, sms [pms [sms [r, 1], sms [e, 1]], pms [r, sms [e, 1], m]], 8])), .row 4 [sms [r, 1], sms [s, 1], sms [d, e, 2], sms [k, l, sms [pms [sms [r, 1], sms [e, 1]], pms [r, sms [e, 1], m]], 8]], .val (.int .i64 (tms [sms [r, 1], sms [s, 1], sms [d, e, 2], sms [k, l, sms [pms [sms [r, 1], sms [e, 1]], pms [r, sms [e, 1], m]], 8]])), .val (.int .i64 (tms [sms [r, 1], sms [s, 1], sms [d, e, 2], sms [k, l, sms [pms [sms [r, 1], sms [e, 1]], pms [r, sms [e, 1], m]], 8]]))]
        (by kernel_rfl) (by kernel_rfl) (by kernel_rfl) (by decide) (by decide) (by rfl) ?_ ?_
      · refine ⟨?_, ?_, ?_, ?_, ?_, ?_, ?_, ?_, ?_, ?_, ?_, ?_, ?_, ?_, ?_, ?_, ?_, ?_, ?_, ?_, ?_, trivial⟩
        · exact ok_pure _ rfl fun ρ v R => by simp [execOp, go_sem, R.old 7 (by decide)]
        · exact ok_pure _ rfl fun ρ v R => by simp [execOp, go_sem, R.old 4 (by decide)]
        · exact ok_pure _ rfl fun ρ v R => by have x := cell_later R.b (cell_later hb3 (cell_later hb2 xbs)); simp [execOp, go_sem, R.dep 1 31 _ (by decide) rfl rfl, x]
        · exact ok_build 2 [s, 1] 3 rfl (fun v => rd_lit v _ _) fun ρ v R => by simp [execOp, go_sem, R.con, R.dep 2 32 _ (by decide) rfl rfl]
        · exact ok_call 125 _ rfl fun ρ v R => by
            obtain ⟨b, h3, h4⟩ := R.row 3 33 2 [s, 1] (by decide) rfl rfl
            exact ⟨_, by simp [execOp, go_sem, h3, R.fn], sum_lit [s, 1] 2 rfl (by decide) h4 mc4⟩
        · exact ok_pure _ rfl fun ρ v R => by simp [execOp, go_sem, R.old 3 (by decide)]
        · exact ok_pure _ rfl fun ρ v R => by have x := cell_later R.b (cell_later hb3 (cell_later hb2 xad)); simp [execOp, go_sem, R.dep 5 35 _ (by decide) rfl rfl, x]
        · exact ok_pure _ rfl fun ρ v R => by simp [execOp, go_sem, R.old 4 (by decide)]
        · exact ok_pure _ rfl fun ρ v R => by have x := cell_later R.b (cell_later hb3 (cell_later hb2 xb)); simp [execOp, go_sem, R.dep 7 37 _ (by decide) rfl rfl, x]
        · exact ok_build 3 [d, e, 2] 3 rfl (fun v => rd_lit v _ _) fun ρ v R => by simp [execOp, go_sem, R.con, R.dep 6 36 _ (by decide) rfl rfl, R.dep 8 38 _ (by decide) rfl rfl]
        · exact ok_call 125 _ rfl fun ρ v R => by
            obtain ⟨b, h3, h4⟩ := R.row 9 39 3 [d, e, 2] (by decide) rfl rfl
            exact ⟨_, by simp [execOp, go_sem, h3, R.fn], sum_lit [d, e, 2] 3 rfl (by decide) h4 mc10⟩
        · exact ok_pure _ rfl fun ρ v R => by simp [execOp, go_sem, R.old 3 (by decide)]
        · exact ok_pure _ rfl fun ρ v R => by have x := cell_later R.b (cell_later hb3 (cell_later hb2 xak)); simp [execOp, go_sem, R.dep 11 41 _ (by decide) rfl rfl, x]
        · exact ok_pure _ rfl fun ρ v R => by simp [execOp, go_sem, R.old 4 (by decide)]
        · exact ok_pure _ rfl fun ρ v R => by have x := cell_later R.b (cell_later hb3 (cell_later hb2 xbl)); simp [execOp, go_sem, R.dep 13 43 _ (by decide) rfl rfl, x]
        · exact ok_pure _ rfl fun ρ v R => by simp [execOp, go_sem, R.old 9 (by decide)]
        · exact ok_build 4 [k, l, sms [pms [sms [r, 1], sms [e, 1]], pms [r, sms [e, 1], m]], 8] 3 rfl (fun v => rd_lit v _ _) fun ρ v R => by simp [execOp, go_sem, R.con, R.dep 12 42 _ (by decide) rfl rfl, R.dep 14 44 _ (by decide) rfl rfl, R.dep 15 45 _ (by decide) rfl rfl]
        · exact ok_call 125 _ rfl fun ρ v R => by
            obtain ⟨b, h3, h4⟩ := R.row 16 46 4 [k, l, sms [pms [sms [r, 1], sms [e, 1]], pms [r, sms [e, 1], m]], 8] (by decide) rfl rfl
            exact ⟨_, by simp [execOp, go_sem, h3, R.fn], sum_lit [k, l, sms [pms [sms [r, 1], sms [e, 1]], pms [r, sms [e, 1], m]], 8] 4 rfl (by decide) h4 mc17⟩
        · exact ok_build 4 [sms [r, 1], sms [s, 1], sms [d, e, 2], sms [k, l, sms [pms [sms [r, 1], sms [e, 1]], pms [r, sms [e, 1], m]], 8]] 3 rfl (fun v => rd_lit v _ _) fun ρ v R => by simp [execOp, go_sem, R.dep 0 30 _ (by decide) rfl rfl, R.dep 10 40 _ (by decide) rfl rfl, R.dep 17 47 _ (by decide) rfl rfl, R.dep 4 34 _ (by decide) rfl rfl]
        · exact ok_call 127 _ rfl fun ρ v R => by
            obtain ⟨b, h3, h4⟩ := R.row 18 48 4 [sms [r, 1], sms [s, 1], sms [d, e, 2], sms [k, l, sms [pms [sms [r, 1], sms [e, 1]], pms [r, sms [e, 1], m]], 8]] (by decide) rfl rfl
            exact ⟨_, by simp [execOp, go_sem, h3, R.fn], times_lit [sms [r, 1], sms [s, 1], sms [d, e, 2], sms [k, l, sms [pms [sms [r, 1], sms [e, 1]], pms [r, sms [e, 1], m]], 8]] 4 rfl (by decide) h4 mc19⟩
        · exact ok_pure _ rfl fun ρ v R => by simp [execOp, go_sem, R.dep 19 49 _ (by decide) rfl rfl]
      · intro vals w4 hb4 hv
        have v0 : vals 0 = _ := hv (0, 30) (by decide)
        have v1 : vals 1 = _ := hv (1, 31) (by decide)
        have v2 : vals 2 = _ := hv (2, 32) (by decide)
        obtain ⟨b3, v3, -⟩ := hv (3, 33) (by decide)
        simp only at v3
        have v4 : vals 4 = _ := hv (4, 34) (by decide)
        have v5 : vals 5 = _ := hv (5, 35) (by decide)
        have v6 : vals 6 = _ := hv (6, 36) (by decide)
        have v7 : vals 7 = _ := hv (7, 37) (by decide)
        have v8 : vals 8 = _ := hv (8, 38) (by decide)
        obtain ⟨b9, v9, -⟩ := hv (9, 39) (by decide)
        simp only at v9
        have v10 : vals 10 = _ := hv (10, 40) (by decide)
        have v11 : vals 11 = _ := hv (11, 41) (by decide)
        have v12 : vals 12 = _ := hv (12, 42) (by decide)
        have v13 : vals 13 = _ := hv (13, 43) (by decide)
        have v14 : vals 14 = _ := hv (14, 44) (by decide)
        have v15 : vals 15 = _ := hv (15, 45) (by decide)
        obtain ⟨b16, v16, -⟩ := hv (16, 46) (by decide)
        simp only at v16
        have v17 : vals 17 = _ := hv (17, 47) (by decide)
        obtain ⟨b18, v18, -⟩ := hv (18, 48) (by decide)
        simp only at v18
        have v19 : vals 19 = _ := hv (19, 49) (by decide)
        have v20 : vals 20 = _ := hv (20, 6) (by decide)
        simp only [List.foldl, v0, v1, v2, v3, v4, v5, v6, v7, v8, v9, v10, v11, v12, v13, v14, v15, v16, v17, v18, v19, v20, List.setIfInBounds_toArray, List.set_cons_succ, List.set_cons_zero]
        clear hv v0 v1 v2 v3 v4 v5 v6 v7 v8 v9 v10 v11 v12 v13 v14 v15 v16 v17 v18 v19 v20
        have HBE : Hid (Below w.heap.size w w4) := bnext' hW (bnext' hb2 (bnext' hb3 hb4))
        go_wp2
        go_ret
        exact ⟨rfl, HBE.out⟩
end Go.Proofs.YtejnhpjejcpekaaGreatDoor
