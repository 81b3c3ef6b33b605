/-
  ore.size; estimate.Apply.
-/
import Derived.Test.YtcdfckjlmifjiaaAw
import Derived.Test.YtcdfckjlmifjiaaAhAdDtAgWvUhAiVdRt
import Derived.Deep.DeepFit
import Derived.Test.YtcdfckjlmifjiaaEkEh
import Derived.Test.YtcdfckjlmifjiaaOrAv
namespace Go.Proofs.Ytcdfckjlmifjiaa
open Go.RowKit
set_option linter.unusedVariables false
set_option linter.unusedSimpArgs false

set_option maxHeartbeats 4000000 in
set_option maxRecDepth 100000 in
/-- estimate.Apply. -/
theorem eApply_any (w : World) (r d k g l m : Int) (hr : InI r) (hd : InI d) (hk : InI k) (hg : -1 ≤ g ∧ g ≤ 1000000000) (hl : InI l) (hm : InI m) :
    Calls Try.prog 41 #[.agg #[.int .i64 r, .int .i64 d, .int .i64 k], .int .i64 g, .int .i64 l, .int .i64 m] w fun x w' => x = .returned (.int .i64 (tms [sms [r, 1], sms [d, g + 3], sms [k, l, pms [sms [r, 1], g + 2, sms [m, 8]]]])) ∧ Below w.heap.size w w' := by
  have hW : Below w.heap.size w (w.alloc (.cells #[.int .i64 r, .int .i64 d, .int .i64 k] 43)) := (Below.refl _ _).alloc (Nat.le_refl _) _
  have xa : (w.alloc (.cells #[.int .i64 r, .int .i64 d, .int .i64 k] 43)).cell? ⟨w.heap.size, 0, none⟩ = some (.int .i64 r) := by simp [go_sem]
  have xad : (w.alloc (.cells #[.int .i64 r, .int .i64 d, .int .i64 k] 43)).cell? ⟨w.heap.size, 1, none⟩ = some (.int .i64 d) := by simp [go_sem]
  have xak : (w.alloc (.cells #[.int .i64 r, .int .i64 d, .int .i64 k] 43)).cell? ⟨w.heap.size, 2, none⟩ = some (.int .i64 k) := by simp [go_sem]
  go_enter Try.func41, Try.ntmps41
  go_wp2_with fail
  have sW : (w.alloc (.cells #[.int .i64 r, .int .i64 d, .int .i64 k] 43)).heap.size = w.heap.size + 1 := by simp
  generalize w.alloc (.cells #[.int .i64 r, .int .i64 d, .int .i64 k] 43) = W at *
  have h1 : ∀ x ∈ [r, 1], InI x := by simp [hr]; simp [InI]
  have k1 := sms_in h1
  have hrd := rd_two W r 1 3
  rw [sW] at hrd
  go_fit (sum_lit [r, 1] 2 rfl (by decide) hrd h1)
  rintro e w2 ⟨rfl, hb2'⟩
  have hb2 : Below W.heap.size W w2 := bnext' ((Below.refl _ _).alloc (Nat.le_refl _) _) hb2'
  clear hrd hb2'
  have v1 : wrap64 (g + 2) = g + 2 := by unfold wrap64; omega
  have v2 : wrap64 (g + 3) = g + 3 := by unfold wrap64; omega
  have g2 : InI (g + 2) := ⟨by omega, by omega⟩
  have g3 : InI (g + 3) := ⟨by omega, by omega⟩
  have h2 : ∀ x ∈ [m, 8], InI x := (List.forall_mem_cons.2 ⟨hm, (List.forall_mem_cons.2 ⟨inI_lit rfl, (List.forall_mem_nil _)⟩)⟩)
  have k2 := sms_in h2
  go_wp2_with fail
  go_fit (sum_lit [m, 8] 2 rfl (by decide) (rd_two w2 m 8 _) h2)
  rintro e w3 ⟨rfl, hb3'⟩
  have hb3 : Below W.heap.size W w3 := bnext' hb2 (bnext' ((Below.refl _ _).alloc (Nat.le_refl _) _) hb3')
  clear hb3'
  have h3 : ∀ x ∈ [sms [r, 1], g + 2, sms [m, 8]], InI x := (List.forall_mem_cons.2 ⟨k1, (List.forall_mem_cons.2 ⟨g2, (List.forall_mem_cons.2 ⟨k2, (List.forall_mem_nil _)⟩)⟩)⟩)
  have k3 := pms_in h3
  have hrd : Rd (w3.alloc (.cells #[.int .i64 (sms [r, 1]), .int .i64 (g + 2), .int .i64 (sms [m, 8])] 3)) (some ⟨w3.heap.size, 0, none⟩) .i64 [sms [r, 1], g + 2, sms [m, 8]] := rd_lit w3 [sms [r, 1], g + 2, sms [m, 8]] 3
  go_wp2_with fail
  go_fit (prod_lit [sms [r, 1], g + 2, sms [m, 8]] 3 rfl (by decide) hrd h3)
  rintro e w4 ⟨rfl, hb4'⟩
  have hb4 : Below W.heap.size W w4 := bnext' hb3 (bnext' ((Below.refl _ _).alloc (Nat.le_refl _) _) hb4')
  clear hb4' hrd
  go_wp2_with fail
  have zc4 : IntKind.i64.wrap (g + 3) = g + 3 := by rw [IntKind.wrap_i64]; omega
  have mc6 : ∀ x ∈ [d, g + 3], InI x := (List.forall_mem_cons.2 ⟨hd, (List.forall_mem_cons.2 ⟨g3, (List.forall_mem_nil _)⟩)⟩)
  have kc6 : InI (sms [d, g + 3]) := sms_in mc6
  have mc12 : ∀ x ∈ [k, l, pms [sms [r, 1], g + 2, sms [m, 8]]], InI x := (List.forall_mem_cons.2 ⟨hk, (List.forall_mem_cons.2 ⟨hl, (List.forall_mem_cons.2 ⟨k3, (List.forall_mem_nil _)⟩)⟩)⟩)
  have kc12 : InI (sms [k, l, pms [sms [r, 1], g + 2, sms [m, 8]]]) := sms_in mc12
  have mc14 : ∀ x ∈ [sms [r, 1], sms [d, g + 3], sms [k, l, pms [sms [r, 1], g + 2, sms [m, 8]]]], InI x := (List.forall_mem_cons.2 ⟨k1, (List.forall_mem_cons.2 ⟨kc6, (List.forall_mem_cons.2 ⟨kc12, (List.forall_mem_nil _)⟩)⟩)⟩)
  have kc14 : InI (tms [sms [r, 1], sms [d, g + 3], sms [k, l, pms [sms [r, 1], g + 2, sms [m, 8]]]]) := tms_in mc14
  refine region_ints [(0, 23), (1, 24), (2, 25), (3, 26), (4, 27), (5, 28), (6, 29), (7, 30), (8, 31), (9, 32), (10, 33), (11, 34), (12, 35), (13, 36), (14, 37), (15, 8)]
    [.val (.int .i64 (sms [r, 1])), .val (.pointer (some ⟨w.heap.size, 1, none⟩)), .val (.int .i64 (d)), .val (.int .i64 (g)), .val (.int .i64 (g + 3)), .row 2 [d, g + 3], .val (.int .i64 (sms [d, g + 3])), .val (.pointer (some ⟨w.heap.size, 2, none⟩)), .val (.int .i64 (k)), .val (.int .i64 (l)), .val (.int .i64 (pms [sms [r, 1], g + 2, sms [m, 8]])), .row 3 [k, l, pms [sms [r, 1], g + 2, sms [m, 8]]], .val (.int .i64 (sms [k, l, pms [sms [r, 1], g + 2, sms [m, 8]]])), .row 3 [sms [r, 1], sms [d, g + 3], sms [k, l, pms [sms [r, 1], g + 2, sms [m, 8]]]], .val (.int .i64 (tms [sms [r, 1], sms [d, g + 3], sms [k, l, pms [sms [r, 1], g + 2, sms [m, 8]]]])), .val (.int .i64 (tms [sms [r, 1], sms [d, g + 3], sms [k, l, pms [sms [r, 1], g + 2, sms [m, 8]]]]))]
    (by kernel_rfl) (by kernel_rfl) (by kernel_rfl) (by decide) (by decide) (by rfl) ?_ ?_
  · refine ⟨?_, ?_, ?_, ?_, ?_, ?_, ?_, ?_, ?_, ?_, ?_, ?_, ?_, ?_, ?_, ?_, trivial⟩
    · exact ok_pure _ rfl fun ρ v R => by simp [execOp, go_sem, R.old 9 (by decide)]
    · exact ok_pure _ rfl fun ρ v R => by simp [execOp, go_sem, R.old 4 (by decide)]
    · exact ok_pure _ rfl fun ρ v R => by have x := cell_later R.b (cell_later hb4 xad); simp [execOp, go_sem, R.dep 1 24 _ (by decide) rfl rfl, x]
    · exact ok_pure _ rfl fun ρ v R => by simp [execOp, go_sem, R.old 1 (by decide)]
    · exact ok_pure _ rfl fun ρ v R => by simp [execOp, go_sem, R.con, R.dep 3 26 _ (by decide) rfl rfl, zc4]
    · exact ok_build 2 [d, g + 3] 3 rfl (fun v => rd_lit v _ _) fun ρ v R => by simp [execOp, go_sem, R.dep 2 25 _ (by decide) rfl rfl, R.dep 4 27 _ (by decide) rfl rfl]
    · exact ok_call 54 _ rfl fun ρ v R => by
        obtain ⟨b, h3, h4⟩ := R.row 5 28 2 [d, g + 3] (by decide) rfl rfl
        exact ⟨_, by simp [execOp, go_sem, h3, R.fn], sum_lit [d, g + 3] 2 rfl (by decide) h4 mc6⟩
    · exact ok_pure _ rfl fun ρ v R => by simp [execOp, go_sem, R.old 4 (by decide)]
    · exact ok_pure _ rfl fun ρ v R => by have x := cell_later R.b (cell_later hb4 xak); simp [execOp, go_sem, R.dep 7 30 _ (by decide) rfl rfl, x]
    · exact ok_pure _ rfl fun ρ v R => by simp [execOp, go_sem, R.old 2 (by decide)]
    · exact ok_pure _ rfl fun ρ v R => by simp [execOp, go_sem, R.old 10 (by decide)]
    · exact ok_build 3 [k, l, pms [sms [r, 1], g + 2, sms [m, 8]]] 3 rfl (fun v => rd_lit v _ _) fun ρ v R => by simp [execOp, go_sem, R.dep 10 33 _ (by decide) rfl rfl, R.dep 8 31 _ (by decide) rfl rfl, R.dep 9 32 _ (by decide) rfl rfl]
    · exact ok_call 54 _ rfl fun ρ v R => by
        obtain ⟨b, h3, h4⟩ := R.row 11 34 3 [k, l, pms [sms [r, 1], g + 2, sms [m, 8]]] (by decide) rfl rfl
        exact ⟨_, by simp [execOp, go_sem, h3, R.fn], sum_lit [k, l, pms [sms [r, 1], g + 2, sms [m, 8]]] 3 rfl (by decide) h4 mc12⟩
    · exact ok_build 3 [sms [r, 1], sms [d, g + 3], sms [k, l, pms [sms [r, 1], g + 2, sms [m, 8]]]] 3 rfl (fun v => rd_lit v _ _) fun ρ v R => by simp [execOp, go_sem, R.dep 0 23 _ (by decide) rfl rfl, R.dep 12 35 _ (by decide) rfl rfl, R.dep 6 29 _ (by decide) rfl rfl]
    · exact ok_call 49 _ rfl fun ρ v R => by
        obtain ⟨b, h3, h4⟩ := R.row 13 36 3 [sms [r, 1], sms [d, g + 3], sms [k, l, pms [sms [r, 1], g + 2, sms [m, 8]]]] (by decide) rfl rfl
        exact ⟨_, by simp [execOp, go_sem, h3, R.fn], times_lit [sms [r, 1], sms [d, g + 3], sms [k, l, pms [sms [r, 1], g + 2, sms [m, 8]]]] 3 rfl (by decide) h4 mc14⟩
    · exact ok_pure _ rfl fun ρ v R => by simp [execOp, go_sem, R.dep 14 37 _ (by decide) rfl rfl]
  · intro vals w5 hb5 hv
    have v0 : vals 0 = _ := hv (0, 23) (by decide)
    have v1 : vals 1 = _ := hv (1, 24) (by decide)
    have v2 : vals 2 = _ := hv (2, 25) (by decide)
    have v3 : vals 3 = _ := hv (3, 26) (by decide)
    have v4 : vals 4 = _ := hv (4, 27) (by decide)
    obtain ⟨b5, v5, -⟩ := hv (5, 28) (by decide)
    simp only at v5
    have v6 : vals 6 = _ := hv (6, 29) (by decide)
    have v7 : vals 7 = _ := hv (7, 30) (by decide)
    have v8 : vals 8 = _ := hv (8, 31) (by decide)
    have v9 : vals 9 = _ := hv (9, 32) (by decide)
    have v10 : vals 10 = _ := hv (10, 33) (by decide)
    obtain ⟨b11, v11, -⟩ := hv (11, 34) (by decide)
    simp only at v11
    have v12 : vals 12 = _ := hv (12, 35) (by decide)
    obtain ⟨b13, v13, -⟩ := hv (13, 36) (by decide)
    simp only at v13
    have v14 : vals 14 = _ := hv (14, 37) (by decide)
    have v15 : vals 15 = _ := hv (15, 8) (by decide)
    simp only [List.foldl, v0, v1, v2, v3, v4, v5, v6, v7, v8, v9, v10, v11, v12, v13, v14, v15, List.setIfInBounds_toArray, List.set_cons_succ, List.set_cons_zero]
    clear hv v0 v1 v2 v3 v4 v5 v6 v7 v8 v9 v10 v11 v12 v13 v14 v15
    have HBE : Hid (Below w.heap.size w w5) := bnext' hW (bnext' hb4 hb5)
    go_wp2
    go_ret
    exact ⟨rfl, HBE.out⟩
end Go.Proofs.Ytcdfckjlmifjiaa
/-
  gauge.Apply.
-/
namespace Go.Proofs.Ytcdfckjlmifjiaa
open Go.RowKit
set_option linter.unusedVariables false
set_option linter.unusedSimpArgs false
set_option maxHeartbeats 4000000 in
set_option maxRecDepth 100000 in
theorem gApply_lay {w : World} {p q : Option Addr} {n nc m mc : Nat} {e0 : Ent} {za : Value} {g0 l0 m0 V : Int} (h1 : ∀ w', Below w.heap.size w w' → Calls Try.prog 11 #[.slice p n nc] w' fun e w2 => e = .returned za ∧ Below w'.heap.size w' w2) (h2 : ∀ w', Below w.heap.size w w' → Calls Try.prog 42 #[.slice q m mc] w' fun e w2 => e = .returned (.int .i64 g0) ∧ Below w'.heap.size w' w2) (h5 : ∀ w', Below w.heap.size w w' → Calls Try.prog 43 #[.slice q m mc] w' fun e w2 => e = .returned (.int .i64 l0) ∧ Below w'.heap.size w' w2)
    (h3 : ∀ w', Below w.heap.size w w' → Calls Try.prog 37 #[.agg #[.bool e0.s, .slice e0.p e0.n e0.c]] w' fun e w2 => e = .returned (.int .i64 m0) ∧ Below w'.heap.size w' w2) (h4 : ∀ w', Calls Try.prog 41 #[za, .int .i64 g0, .int .i64 l0, .int .i64 m0] w' fun e w2 => e = .returned (.int .i64 V) ∧ Below w'.heap.size w' w2) :
    Calls Try.prog 15 #[.slice p n nc, .slice q m mc, .agg #[.bool e0.s, .slice e0.p e0.n e0.c]] w fun x w' => x = .returned (.int .i64 V) ∧ Below w.heap.size w w' := by
  have hW : Below w.heap.size w (w.alloc (.cells #[.bool e0.s, .slice e0.p e0.n e0.c] 28)) := (Below.refl _ _).alloc (Nat.le_refl _) _
  have c0 : (w.alloc (.cells #[.bool e0.s, .slice e0.p e0.n e0.c] 28)).cell? ⟨w.heap.size, 0, none⟩ = some (.bool e0.s) := by simp [go_sem]
  have c1 : (w.alloc (.cells #[.bool e0.s, .slice e0.p e0.n e0.c] 28)).cell? ⟨w.heap.size, 1, none⟩ = some (.slice e0.p e0.n e0.c) := by simp [go_sem]
  go_enter Try.func15, Try.ntmps15
  go_wp2_with fail
  generalize w.alloc (.cells #[.bool e0.s, .slice e0.p e0.n e0.c] 28) = W at *
  refine region_ints [(0, 7), (1, 8), (2, 9), (3, 10), (4, 11), (5, 12), (6, 13), (7, 14), (8, 15), (9, 6)]
    [.val (Value.slice p n nc), .val (za), .val (Value.slice q m mc), .val (Value.int IntKind.i64 g0), .val (Value.slice q m mc), .val (Value.int IntKind.i64 l0), .val (Value.agg #[Value.bool e0.s, Value.slice e0.p e0.n e0.c]), .val (Value.int IntKind.i64 m0), .val (Value.int IntKind.i64 V), .val (Value.int IntKind.i64 V)]
    (by kernel_rfl) (by kernel_rfl) (by kernel_rfl) (by decide) (by decide) (by rfl) ?_ ?_
  · refine ⟨?_, ?_, ?_, ?_, ?_, ?_, ?_, ?_, ?_, ?_, trivial⟩
    · exact ok_pure _ rfl fun ρ v R => by simp [execOp, go_sem, R.old 0 (by decide)]
    · exact ok_call 11 _ rfl fun ρ v R => ⟨_, by simp [execOp, go_sem, R.dep 0 7 _ (by decide) rfl rfl, R.fn], h1 _ (bnext' hW R.b)⟩
    · exact ok_pure _ rfl fun ρ v R => by simp [execOp, go_sem, R.old 1 (by decide)]
    · exact ok_call 42 _ rfl fun ρ v R => ⟨_, by simp [execOp, go_sem, R.dep 2 9 _ (by decide) rfl rfl, R.fn], h2 _ (bnext' hW R.b)⟩
    · exact ok_pure _ rfl fun ρ v R => by simp [execOp, go_sem, R.old 1 (by decide)]
    · exact ok_call 43 _ rfl fun ρ v R => ⟨_, by simp [execOp, go_sem, R.dep 4 11 _ (by decide) rfl rfl, R.fn], h5 _ (bnext' hW R.b)⟩
    · exact ok_pure _ rfl fun ρ v R => by have x0 := cell_later R.b c0; have x1 := cell_later R.b c1; simp [execOp, go_sem, R.old 5 (by decide), x0, x1]
    · exact ok_call 37 _ rfl fun ρ v R => ⟨_, by simp [execOp, go_sem, R.dep 6 13 _ (by decide) rfl rfl, R.fn], h3 _ (bnext' hW R.b)⟩
    · exact ok_call 41 _ rfl fun ρ v R => ⟨_, by simp [execOp, go_sem, R.dep 1 8 _ (by decide) rfl rfl, R.dep 3 10 _ (by decide) rfl rfl, R.dep 5 12 _ (by decide) rfl rfl, R.dep 7 14 _ (by decide) rfl rfl, R.fn], h4 _⟩
    · exact ok_pure _ rfl fun ρ v R => by simp [execOp, go_sem, R.dep 8 15 _ (by decide) rfl rfl]
  intro vals w2 hb2 hv
  have v0 : vals 0 = _ := hv (0, 7) (by decide)
  have v1 : vals 1 = _ := hv (1, 8) (by decide)
  have v2 : vals 2 = _ := hv (2, 9) (by decide)
  have v3 : vals 3 = _ := hv (3, 10) (by decide)
  have v4 : vals 4 = _ := hv (4, 11) (by decide)
  have v5 : vals 5 = _ := hv (5, 12) (by decide)
  have v6 : vals 6 = _ := hv (6, 13) (by decide)
  have v7 : vals 7 = _ := hv (7, 14) (by decide)
  have v8 : vals 8 = _ := hv (8, 15) (by decide)
  have v9 : vals 9 = _ := hv (9, 6) (by decide)
  simp only [List.foldl, v0, v1, v2, v3, v4, v5, v6, v7, v8, v9, List.setIfInBounds_toArray, List.set_cons_succ, List.set_cons_zero]
  clear hv v0 v1 v2 v3 v4 v5 v6 v7 v8 v9
  have HBE : Hid (Below w.heap.size w w2) := bnext' hW hb2
  clear h1 h2 h3 h4 h5
  go_wp2
  go_ret
  exact ⟨rfl, HBE.out⟩
end Go.Proofs.Ytcdfckjlmifjiaa
/-
  ashlarref9.By, Times (out of Or).
-/
namespace Go.Proofs.Ytcdfckjlmifjiaa
open Go.RowKit
set_option linter.unusedVariables false
set_option linter.unusedSimpArgs false

set_option maxHeartbeats 1000000 in
/-- ashlarref9.By. -/
theorem rBy_any {w : World} (a b : Int) (ha : 1 ≤ a) (ha' : a ≤ 4611686018427387904) (hb : 1 ≤ b) :
    Calls Try.prog 40 #[.int .i64 a, .int .i64 b] w fun e w' => e = .returned (.int .i64 (min (a * b) 4611686018427387904)) ∧ w' = w := by
  have i1 : ¬ (4611686018427387904 < a) := by omega
  have i2 : (a != 0) = true := by rw [bne_iff_ne]; omega
  have i5 : a ≠ 0 := by omega
  have key : b ≤ 4611686018427387904 / a ↔ b * a ≤ 4611686018427387904 := Int.le_ediv_iff_mul_le (by omega)
  rw [Int.mul_comm b a] at key
  have hpos : 1 ≤ a * b := Int.mul_le_mul ha hb (by decide) (by omega)
  rcases Int.lt_or_le (4611686018427387904 / a) b with h | h
  · have HE : Hid (min (a * b) 4611686018427387904 = 4611686018427387904) := by
      have : ¬ a * b ≤ 4611686018427387904 := fun hh => by have := key.2 hh; omega
      show min (a * b) 4611686018427387904 = 4611686018427387904
      omega
    clear key hpos
    rw [HE.out]
    go_enter Try.func40, Try.ntmps40
    go_wp2
    go_ret
    exact ⟨rfl, rfl⟩
  · have h' := key.1 h
    have HE : Hid (min (a * b) 4611686018427387904 = a * b) := by
      show min (a * b) 4611686018427387904 = a * b
      omega
    have i4 : wrap64 (a * b) = a * b := by unfold wrap64; omega
    have i3 : ¬ (4611686018427387904 / a < b) := by omega
    clear key hpos h h'
    rw [HE.out]
    go_enter Try.func40, Try.ntmps40
    go_wp2
    go_ret
    exact ⟨rfl, rfl⟩
set_option maxHeartbeats 1000000 in
set_option maxRecDepth 100000 in
/-- ashlarref9.Times. -/
theorem rTimes_any {w : World} {p : Option Addr} {n nc : Nat} {xs : List Int} (hl : xs.length = n) (hX : Rd w p .i64 xs) (hn : n ≤ 1000000) :
    Calls Try.prog 22 #[.slice p n nc] w fun e w' => e = .returned (.int .i64 (tms xs)) ∧ w' = w := by
  have HX : Hid (xs.length = n ∧ Rd w p .i64 xs) := ⟨hl, hX⟩
  clear hl hX
  go_enter Try.func22, Try.ntmps22
  go_wp2_with fail
  go_loopw [3, 4] (fun cv iv wr => ∃ k : Nat, k ≤ n ∧ iv = .int .i64 k ∧ cv = .int .i64 (tms (xs.take k)) ∧ wr = w) (fun _ iv _ => n - (intOf iv).toNat)
  case atStart => exact ⟨0, Nat.zero_le _, by go_num, rfl, rfl⟩
  case round =>
    obtain ⟨k, hk, rfl, rfl, rfl⟩ := hrel
    obtain ⟨hl, hX⟩ := HX.out
    obtain ⟨d1, d2⟩ := tms_bd (xs.take k) 1 (by decide) (by decide)
    rcases Nat.lt_or_ge k n with hlt | hge
    · obtain ⟨b, o, hp, hc⟩ := hX (by omega)
      subst hp
      have c0 := hc k (by omega)
      have HP : Hid (tms (xs.take (k + 1)) = tmf (tms (xs.take k)) (gx xs k)) := tms_take 1 xs k (by omega)
      generalize gx xs k = x at *
      have d1' : 1 ≤ tms (xs.take k) := d1
      have d2' : tms (xs.take k) ≤ 4611686018427387904 := d2
      clear d1 d2
      generalize tms (xs.take k) = c at *
      have i1 : (k : Int) < (n : Int) := by omega
      clear hc hl hX
      rcases Int.lt_or_le 1 x with h1 | h1
      · have HP' : Hid (tms (xs.take (k + 1)) = min (c * x) 4611686018427387904) := by
          have h3 : max x 1 = x := by omega
          have h4 := HP.out
          unfold tmf at h4
          rw [h3] at h4
          exact h4
        clear HP
        go_wp2_with fail
        refine (rBy_any c x d1' d2' (by omega)).mono ?_
        rintro e w1 ⟨rfl, rfl⟩
        go_wp2_with fail
        refine ⟨⟨k + 1, by omega, by go_num, by rw [HP'.out], by first | rfl | trivial⟩, by simp [intOf]; omega⟩
      · have h2 : ¬ (1 < x) := by omega
        have HP' : Hid (tms (xs.take (k + 1)) = c) := by
          have h3 : max x 1 = 1 := by omega
          have h4 := HP.out
          unfold tmf at h4
          rw [h3, Int.mul_one] at h4
          show tms (xs.take (k + 1)) = c
          omega
        go_wp2_with fail
        refine ⟨⟨k + 1, by omega, by go_num, by rw [HP'.out], by first | rfl | trivial⟩, by simp [intOf]; omega⟩
    · obtain rfl : k = n := by omega
      have HE : Hid (tms (xs.take k) = tms xs) := by rw [List.take_of_length_le (by omega)]; rfl
      have i1 : ¬ (k : Int) < (k : Int) := by omega
      clear hX hl d1 d2
      go_wp2
      go_ret
      exact ⟨by rw [← HE.out]; rfl, rfl⟩
end Go.Proofs.Ytcdfckjlmifjiaa
