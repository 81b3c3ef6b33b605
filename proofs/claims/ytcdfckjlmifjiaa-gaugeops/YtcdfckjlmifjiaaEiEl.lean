/-
  estimate.Common.
-/
import Derived.Test.YtcdfckjlmifjiaaAw
import Derived.Deep.DeepFit
import Derived.Test.YtcdfckjlmifjiaaEkEh
namespace Go.Proofs.Ytcdfckjlmifjiaa
open Go.RowKit
set_option linter.unusedVariables false
set_option linter.unusedSimpArgs false

set_option maxHeartbeats 4000000 in
set_option maxRecDepth 100000 in
/-- estimate.Common. -/
theorem eCommon_any (w : World) (r d k s e l m : Int) (hr : InI r) (hd : InI d) (hk : InI k) (hs : InI s) (he : InI e) (hl : InI l) (hm : InI m) :
    Calls Try.prog 47 #[.agg #[.int .i64 r, .int .i64 d, .int .i64 k], .agg #[.int .i64 s, .int .i64 e, .int .i64 l], .int .i64 m] w fun x w' => x = .returned (.int .i64 (tms [sms [r, s, 2], sms [r, s, 2], sms [r, s, 2], sms [pms [sms [r, s, 2], sms [d, e]], 2], sms [k, l, pms [sms [r, s, 1], sms [m, 2]], 8]])) ∧ Below w.heap.size w w' := by
  have hW : Below w.heap.size w ((w.alloc (.cells #[.int .i64 r, .int .i64 d, .int .i64 k] 43)).alloc (.cells #[.int .i64 s, .int .i64 e, .int .i64 l] 43)) := (((Below.refl _ _).alloc (by simp) _).alloc (by simp) _)
  have x_r : ((w.alloc (.cells #[.int .i64 r, .int .i64 d, .int .i64 k] 43)).alloc (.cells #[.int .i64 s, .int .i64 e, .int .i64 l] 43)).cell? ⟨w.heap.size, 0, none⟩ = some (.int .i64 r) := by simp [go_sem]
  have x_d : ((w.alloc (.cells #[.int .i64 r, .int .i64 d, .int .i64 k] 43)).alloc (.cells #[.int .i64 s, .int .i64 e, .int .i64 l] 43)).cell? ⟨w.heap.size, 1, none⟩ = some (.int .i64 d) := by simp [go_sem]
  have x_k : ((w.alloc (.cells #[.int .i64 r, .int .i64 d, .int .i64 k] 43)).alloc (.cells #[.int .i64 s, .int .i64 e, .int .i64 l] 43)).cell? ⟨w.heap.size, 2, none⟩ = some (.int .i64 k) := by simp [go_sem]
  have x_s : ((w.alloc (.cells #[.int .i64 r, .int .i64 d, .int .i64 k] 43)).alloc (.cells #[.int .i64 s, .int .i64 e, .int .i64 l] 43)).cell? ⟨w.heap.size + 1, 0, none⟩ = some (.int .i64 s) := by simp [go_sem]
  have x_e : ((w.alloc (.cells #[.int .i64 r, .int .i64 d, .int .i64 k] 43)).alloc (.cells #[.int .i64 s, .int .i64 e, .int .i64 l] 43)).cell? ⟨w.heap.size + 1, 1, none⟩ = some (.int .i64 e) := by simp [go_sem]
  have x_l : ((w.alloc (.cells #[.int .i64 r, .int .i64 d, .int .i64 k] 43)).alloc (.cells #[.int .i64 s, .int .i64 e, .int .i64 l] 43)).cell? ⟨w.heap.size + 1, 2, none⟩ = some (.int .i64 l) := by simp [go_sem]
  have sW : ((w.alloc (.cells #[.int .i64 r, .int .i64 d, .int .i64 k] 43)).alloc (.cells #[.int .i64 s, .int .i64 e, .int .i64 l] 43)).heap.size = w.heap.size + 1 + 1 := by simp
  go_enter Try.func47, Try.ntmps47
  go_wp2_with fail
  generalize (w.alloc (.cells #[.int .i64 r, .int .i64 d, .int .i64 k] 43)).alloc (.cells #[.int .i64 s, .int .i64 e, .int .i64 l] 43) = W at *
  have mc1 : ∀ x ∈ [r, s, 2], InI x := (List.forall_mem_cons.2 ⟨hr, (List.forall_mem_cons.2 ⟨hs, (List.forall_mem_cons.2 ⟨inI_lit rfl, (List.forall_mem_nil _)⟩)⟩)⟩)
  have kc1 : InI (sms [r, s, 2]) := sms_in mc1
  have hrd : Rd (W.alloc (.cells #[.int .i64 r, .int .i64 s, .int .i64 2] 3)) (some ⟨W.heap.size, 0, none⟩) .i64 [r, s, 2] := rd_lit W [r, s, 2] 3
  rw [sW] at hrd
  go_fit (sum_lit [r, s, 2] 3 rfl (by decide) hrd mc1)
  rintro e_ w1 ⟨rfl, hb'⟩
  have hb1 : Below W.heap.size W w1 := bnext' ((Below.refl _ _).alloc (Nat.le_refl _) _) hb'
  clear hrd hb'
  have y_r := cell_later hb1 x_r
  have y_d := cell_later hb1 x_d
  have y_k := cell_later hb1 x_k
  have y_s := cell_later hb1 x_s
  have y_e := cell_later hb1 x_e
  have y_l := cell_later hb1 x_l
  go_wp2_with fail
  clear y_r y_d y_k y_s y_e y_l
  have mc2 : ∀ x ∈ [d, e], InI x := (List.forall_mem_cons.2 ⟨hd, (List.forall_mem_cons.2 ⟨he, (List.forall_mem_nil _)⟩)⟩)
  have kc2 : InI (sms [d, e]) := sms_in mc2
  have hrd : Rd (w1.alloc (.cells #[.int .i64 d, .int .i64 e] 3)) (some ⟨w1.heap.size, 0, none⟩) .i64 [d, e] := rd_lit w1 [d, e] 3
  go_fit (sum_lit [d, e] 2 rfl (by decide) hrd mc2)
  rintro e_ w2 ⟨rfl, hb'⟩
  have hb2 : Below W.heap.size W w2 := bnext' hb1 (bnext' ((Below.refl _ _).alloc (Nat.le_refl _) _) hb')
  clear hrd hb'
  have y_r := cell_later hb2 x_r
  have y_d := cell_later hb2 x_d
  have y_k := cell_later hb2 x_k
  have y_s := cell_later hb2 x_s
  have y_e := cell_later hb2 x_e
  have y_l := cell_later hb2 x_l
  go_wp2_with fail
  clear y_r y_d y_k y_s y_e y_l
  have mc3 : ∀ x ∈ [sms [r, s, 2], sms [d, e]], InI x := (List.forall_mem_cons.2 ⟨kc1, (List.forall_mem_cons.2 ⟨kc2, (List.forall_mem_nil _)⟩)⟩)
  have kc3 : InI (pms [sms [r, s, 2], sms [d, e]]) := pms_in mc3
  have hrd : Rd (w2.alloc (.cells #[.int .i64 (sms [r, s, 2]), .int .i64 (sms [d, e])] 3)) (some ⟨w2.heap.size, 0, none⟩) .i64 [sms [r, s, 2], sms [d, e]] := rd_lit w2 [sms [r, s, 2], sms [d, e]] 3
  go_fit (prod_lit [sms [r, s, 2], sms [d, e]] 2 rfl (by decide) hrd mc3)
  rintro e_ w3 ⟨rfl, hb'⟩
  have hb3 : Below W.heap.size W w3 := bnext' hb2 (bnext' ((Below.refl _ _).alloc (Nat.le_refl _) _) hb')
  clear hrd hb'
  have y_r := cell_later hb3 x_r
  have y_d := cell_later hb3 x_d
  have y_k := cell_later hb3 x_k
  have y_s := cell_later hb3 x_s
  have y_e := cell_later hb3 x_e
  have y_l := cell_later hb3 x_l
  go_wp2_with fail
  clear y_r y_d y_k y_s y_e y_l
  have mc4 : ∀ x ∈ [pms [sms [r, s, 2], sms [d, e]], 2], InI x := (List.forall_mem_cons.2 ⟨kc3, (List.forall_mem_cons.2 ⟨inI_lit rfl, (List.forall_mem_nil _)⟩)⟩)
  have kc4 : InI (sms [pms [sms [r, s, 2], sms [d, e]], 2]) := sms_in mc4
  have hrd : Rd (w3.alloc (.cells #[.int .i64 (pms [sms [r, s, 2], sms [d, e]]), .int .i64 2] 3)) (some ⟨w3.heap.size, 0, none⟩) .i64 [pms [sms [r, s, 2], sms [d, e]], 2] := rd_lit w3 [pms [sms [r, s, 2], sms [d, e]], 2] 3
  go_fit (sum_lit [pms [sms [r, s, 2], sms [d, e]], 2] 2 rfl (by decide) hrd mc4)
  rintro e_ w4 ⟨rfl, hb'⟩
  have hb4 : Below W.heap.size W w4 := bnext' hb3 (bnext' ((Below.refl _ _).alloc (Nat.le_refl _) _) hb')
  clear hrd hb'
  have y_r := cell_later hb4 x_r
  have y_d := cell_later hb4 x_d
  have y_k := cell_later hb4 x_k
  have y_s := cell_later hb4 x_s
  have y_e := cell_later hb4 x_e
  have y_l := cell_later hb4 x_l
  go_wp2_with fail
  clear y_r y_d y_k y_s y_e y_l
  have mc5 : ∀ x ∈ [r, s, 1], InI x := (List.forall_mem_cons.2 ⟨hr, (List.forall_mem_cons.2 ⟨hs, (List.forall_mem_cons.2 ⟨inI_lit rfl, (List.forall_mem_nil _)⟩)⟩)⟩)
  have kc5 : InI (sms [r, s, 1]) := sms_in mc5
  have hrd : Rd (w4.alloc (.cells #[.int .i64 r, .int .i64 s, .int .i64 1] 3)) (some ⟨w4.heap.size, 0, none⟩) .i64 [r, s, 1] := rd_lit w4 [r, s, 1] 3
  go_fit (sum_lit [r, s, 1] 3 rfl (by decide) hrd mc5)
  rintro e_ w5 ⟨rfl, hb'⟩
  have hb5 : Below W.heap.size W w5 := bnext' hb4 (bnext' ((Below.refl _ _).alloc (Nat.le_refl _) _) hb')
  clear hrd hb'
  have y_r := cell_later hb5 x_r
  have y_d := cell_later hb5 x_d
  have y_k := cell_later hb5 x_k
  have y_s := cell_later hb5 x_s
  have y_e := cell_later hb5 x_e
  have y_l := cell_later hb5 x_l
  go_wp2_with fail
  clear y_r y_d y_k y_s y_e y_l
  have mc6 : ∀ x ∈ [m, 2], InI x := (List.forall_mem_cons.2 ⟨hm, (List.forall_mem_cons.2 ⟨inI_lit rfl, (List.forall_mem_nil _)⟩)⟩)
  have kc6 : InI (sms [m, 2]) := sms_in mc6
  have hrd : Rd (w5.alloc (.cells #[.int .i64 m, .int .i64 2] 3)) (some ⟨w5.heap.size, 0, none⟩) .i64 [m, 2] := rd_lit w5 [m, 2] 3
  go_fit (sum_lit [m, 2] 2 rfl (by decide) hrd mc6)
  rintro e_ w6 ⟨rfl, hb'⟩
  have hb6 : Below W.heap.size W w6 := bnext' hb5 (bnext' ((Below.refl _ _).alloc (Nat.le_refl _) _) hb')
  clear hrd hb'
  have y_r := cell_later hb6 x_r
  have y_d := cell_later hb6 x_d
  have y_k := cell_later hb6 x_k
  have y_s := cell_later hb6 x_s
  have y_e := cell_later hb6 x_e
  have y_l := cell_later hb6 x_l
  go_wp2_with fail
  clear y_r y_d y_k y_s y_e y_l
  have mc7 : ∀ x ∈ [sms [r, s, 1], sms [m, 2]], InI x := (List.forall_mem_cons.2 ⟨kc5, (List.forall_mem_cons.2 ⟨kc6, (List.forall_mem_nil _)⟩)⟩)
  have kc7 : InI (pms [sms [r, s, 1], sms [m, 2]]) := pms_in mc7
  have hrd : Rd (w6.alloc (.cells #[.int .i64 (sms [r, s, 1]), .int .i64 (sms [m, 2])] 3)) (some ⟨w6.heap.size, 0, none⟩) .i64 [sms [r, s, 1], sms [m, 2]] := rd_lit w6 [sms [r, s, 1], sms [m, 2]] 3
  go_fit (prod_lit [sms [r, s, 1], sms [m, 2]] 2 rfl (by decide) hrd mc7)
  rintro e_ w7 ⟨rfl, hb'⟩
  have hb7 : Below W.heap.size W w7 := bnext' hb6 (bnext' ((Below.refl _ _).alloc (Nat.le_refl _) _) hb')
  clear hrd hb'
  have y_r := cell_later hb7 x_r
  have y_d := cell_later hb7 x_d
  have y_k := cell_later hb7 x_k
  have y_s := cell_later hb7 x_s
  have y_e := cell_later hb7 x_e
  have y_l := cell_later hb7 x_l
  go_wp2_with fail
  clear y_r y_d y_k y_s y_e y_l
  have mc8 : ∀ x ∈ [k, l, pms [sms [r, s, 1], sms [m, 2]], 8], InI x := (List.forall_mem_cons.2 ⟨hk, (List.forall_mem_cons.2 ⟨hl, (List.forall_mem_cons.2 ⟨kc7, (List.forall_mem_cons.2 ⟨inI_lit rfl, (List.forall_mem_nil _)⟩)⟩)⟩)⟩)
  have kc8 : InI (sms [k, l, pms [sms [r, s, 1], sms [m, 2]], 8]) := sms_in mc8
  have hrd : Rd (w7.alloc (.cells #[.int .i64 k, .int .i64 l, .int .i64 (pms [sms [r, s, 1], sms [m, 2]]), .int .i64 8] 3)) (some ⟨w7.heap.size, 0, none⟩) .i64 [k, l, pms [sms [r, s, 1], sms [m, 2]], 8] := rd_lit w7 [k, l, pms [sms [r, s, 1], sms [m, 2]], 8] 3
  go_fit (sum_lit [k, l, pms [sms [r, s, 1], sms [m, 2]], 8] 4 rfl (by decide) hrd mc8)
  rintro e_ w8 ⟨rfl, hb'⟩
  have hb8 : Below W.heap.size W w8 := bnext' hb7 (bnext' ((Below.refl _ _).alloc (Nat.le_refl _) _) hb')
  clear hrd hb'
  have y_r := cell_later hb8 x_r
  have y_d := cell_later hb8 x_d
  have y_k := cell_later hb8 x_k
  have y_s := cell_later hb8 x_s
  have y_e := cell_later hb8 x_e
  have y_l := cell_later hb8 x_l
  go_wp2_with fail
  clear y_r y_d y_k y_s y_e y_l
  have mc9 : ∀ x ∈ [sms [r, s, 2], sms [r, s, 2], sms [r, s, 2], sms [pms [sms [r, s, 2], sms [d, e]], 2], sms [k, l, pms [sms [r, s, 1], sms [m, 2]], 8]], InI x := (List.forall_mem_cons.2 ⟨kc1, (List.forall_mem_cons.2 ⟨kc1, (List.forall_mem_cons.2 ⟨kc1, (List.forall_mem_cons.2 ⟨kc4, (List.forall_mem_cons.2 ⟨kc8, (List.forall_mem_nil _)⟩)⟩)⟩)⟩)⟩)
  have kc9 : InI (tms [sms [r, s, 2], sms [r, s, 2], sms [r, s, 2], sms [pms [sms [r, s, 2], sms [d, e]], 2], sms [k, l, pms [sms [r, s, 1], sms [m, 2]], 8]]) := tms_in mc9
  have hrd : Rd (w8.alloc (.cells #[.int .i64 (sms [r, s, 2]), .int .i64 (sms [r, s, 2]), .int .i64 (sms [r, s, 2]), .int .i64 (sms [pms [sms [r, s, 2], sms [d, e]], 2]), .int .i64 (sms [k, l, pms [sms [r, s, 1], sms [m, 2]], 8])] 3)) (some ⟨w8.heap.size, 0, none⟩) .i64 [sms [r, s, 2], sms [r, s, 2], sms [r, s, 2], sms [pms [sms [r, s, 2], sms [d, e]], 2], sms [k, l, pms [sms [r, s, 1], sms [m, 2]], 8]] := rd_lit w8 [sms [r, s, 2], sms [r, s, 2], sms [r, s, 2], sms [pms [sms [r, s, 2], sms [d, e]], 2], sms [k, l, pms [sms [r, s, 1], sms [m, 2]], 8]] 3
  go_fit (times_lit [sms [r, s, 2], sms [r, s, 2], sms [r, s, 2], sms [pms [sms [r, s, 2], sms [d, e]], 2], sms [k, l, pms [sms [r, s, 1], sms [m, 2]], 8]] 5 rfl (by decide) hrd mc9)
  rintro e_ w9 ⟨rfl, hb'⟩
  have hb9 : Below W.heap.size W w9 := bnext' hb8 (bnext' ((Below.refl _ _).alloc (Nat.le_refl _) _) hb')
  clear hrd hb'
  have y_r := cell_later hb9 x_r
  have y_d := cell_later hb9 x_d
  have y_k := cell_later hb9 x_k
  have y_s := cell_later hb9 x_s
  have y_e := cell_later hb9 x_e
  have y_l := cell_later hb9 x_l
  go_wp2_with fail
  clear y_r y_d y_k y_s y_e y_l
  have HBE : Hid (Below w.heap.size w w9) := bnext' hW hb9
  go_wp2
  go_ret
  exact ⟨rfl, HBE.out⟩
end Go.Proofs.Ytcdfckjlmifjiaa
/-
  gauge.Mul, Divide, Common.
-/
namespace Go.Proofs.Ytcdfckjlmifjiaa
open Go.RowKit
set_option linter.unusedVariables false
set_option linter.unusedSimpArgs false

set_option maxHeartbeats 4000000 in
set_option maxRecDepth 100000 in
theorem gMul_lay {w : World} {p q : Option Addr} {n nc m mc : Nat} {e0 : Ent} {za zb' : Value} {m0 V : Int} (h1 : ∀ w', Below w.heap.size w w' → Calls Try.prog 11 #[.slice p n nc] w' fun e w2 => e = .returned za ∧ Below w'.heap.size w' w2) (h2 : ∀ w', Below w.heap.size w w' → Calls Try.prog 11 #[.slice q m mc] w' fun e w2 => e = .returned zb' ∧ Below w'.heap.size w' w2)
    (h3 : ∀ w', Below w.heap.size w w' → Calls Try.prog 37 #[.agg #[.bool e0.s, .slice e0.p e0.n e0.c]] w' fun e w2 => e = .returned (.int .i64 m0) ∧ Below w'.heap.size w' w2) (h4 : ∀ w', Calls Try.prog 36 #[za, zb', .int .i64 m0] w' fun e w2 => e = .returned (.int .i64 V) ∧ Below w'.heap.size w' w2) :
    Calls Try.prog 13 #[.slice p n nc, .slice q m mc, .agg #[.bool e0.s, .slice e0.p e0.n e0.c]] w fun x w' => x = .returned (.int .i64 V) ∧ Below w.heap.size w w' := by
  have hW : Below w.heap.size w (w.alloc (.cells #[.bool e0.s, .slice e0.p e0.n e0.c] 28)) := (Below.refl _ _).alloc (Nat.le_refl _) _
  have c0 : (w.alloc (.cells #[.bool e0.s, .slice e0.p e0.n e0.c] 28)).cell? ⟨w.heap.size, 0, none⟩ = some (.bool e0.s) := by simp [go_sem]
  have c1 : (w.alloc (.cells #[.bool e0.s, .slice e0.p e0.n e0.c] 28)).cell? ⟨w.heap.size, 1, none⟩ = some (.slice e0.p e0.n e0.c) := by simp [go_sem]
  go_enter Try.func13, Try.ntmps13
  go_wp2_with fail
  generalize w.alloc (.cells #[.bool e0.s, .slice e0.p e0.n e0.c] 28) = W at *
  refine region_ints [(0, 7), (1, 8), (2, 9), (3, 10), (4, 11), (5, 12), (6, 13), (7, 6)]
    [.val (.slice p n nc), .val za, .val (.slice q m mc), .val zb', .val (.agg #[.bool e0.s, .slice e0.p e0.n e0.c]), .val (.int .i64 m0), .val (.int .i64 V), .val (.int .i64 V)]
    (by kernel_rfl) (by kernel_rfl) (by kernel_rfl) (by decide) (by decide) (by rfl) ?_ ?_
  · refine ⟨?_, ?_, ?_, ?_, ?_, ?_, ?_, ?_, trivial⟩
    · exact ok_pure _ rfl fun ρ v R => by simp [execOp, go_sem, R.old 0 (by decide)]
    · exact ok_call 11 _ rfl fun ρ v R => ⟨_, by simp [execOp, go_sem, R.dep 0 7 _ (by decide) rfl rfl, R.fn], h1 _ (bnext' hW R.b)⟩
    · exact ok_pure _ rfl fun ρ v R => by simp [execOp, go_sem, R.old 1 (by decide)]
    · exact ok_call 11 _ rfl fun ρ v R => ⟨_, by simp [execOp, go_sem, R.dep 2 9 _ (by decide) rfl rfl, R.fn], h2 _ (bnext' hW R.b)⟩
    · exact ok_pure _ rfl fun ρ v R => by have x0 := cell_later R.b c0; have x1 := cell_later R.b c1; simp [execOp, go_sem, R.old 5 (by decide), x0, x1]
    · exact ok_call 37 _ rfl fun ρ v R => ⟨_, by simp [execOp, go_sem, R.dep 4 11 _ (by decide) rfl rfl, R.fn], h3 _ (bnext' hW R.b)⟩
    · exact ok_call 36 _ rfl fun ρ v R => ⟨_, by simp [execOp, go_sem, R.dep 1 8 _ (by decide) rfl rfl, R.dep 3 10 _ (by decide) rfl rfl, R.dep 5 12 _ (by decide) rfl rfl, R.fn], h4 _⟩
    · exact ok_pure _ rfl fun ρ v R => by simp [execOp, go_sem, R.dep 6 13 _ (by decide) rfl rfl]
  intro vals w2 hb2 hv
  have v0 : vals 0 = _ := hv (0, 7) (by decide)
  have v1 : vals 1 = _ := hv (1, 8) (by decide)
  have v2 : vals 2 = _ := hv (2, 9) (by decide)
  have v3 : vals 3 = _ := hv (3, 10) (by decide)
  have v4 : vals 4 = _ := hv (4, 11) (by decide)
  have v5 : vals 5 = _ := hv (5, 12) (by decide)
  have v6 : vals 6 = _ := hv (6, 13) (by decide)
  have v7 : vals 7 = _ := hv (7, 6) (by decide)
  simp only [List.foldl, v0, v1, v2, v3, v4, v5, v6, v7, List.setIfInBounds_toArray, List.set_cons_succ, List.set_cons_zero]
  clear hv v0 v1 v2 v3 v4 v5 v6 v7
  have HBE : Hid (Below w.heap.size w w2) := bnext' hW hb2
  clear h1 h2 h3 h4
  go_wp2
  go_ret
  exact ⟨rfl, HBE.out⟩
set_option maxHeartbeats 4000000 in
set_option maxRecDepth 100000 in
theorem gDivide_lay {w : World} {p q : Option Addr} {n nc m mc : Nat} {e0 : Ent} {za zb' : Value} {m0 V : Int} (h1 : ∀ w', Below w.heap.size w w' → Calls Try.prog 11 #[.slice p n nc] w' fun e w2 => e = .returned za ∧ Below w'.heap.size w' w2) (h2 : ∀ w', Below w.heap.size w w' → Calls Try.prog 11 #[.slice q m mc] w' fun e w2 => e = .returned zb' ∧ Below w'.heap.size w' w2)
    (h3 : ∀ w', Below w.heap.size w w' → Calls Try.prog 37 #[.agg #[.bool e0.s, .slice e0.p e0.n e0.c]] w' fun e w2 => e = .returned (.int .i64 m0) ∧ Below w'.heap.size w' w2) (h4 : ∀ w', Calls Try.prog 46 #[za, zb', .int .i64 m0] w' fun e w2 => e = .returned (.int .i64 V) ∧ Below w'.heap.size w' w2) :
    Calls Try.prog 17 #[.slice p n nc, .slice q m mc, .agg #[.bool e0.s, .slice e0.p e0.n e0.c]] w fun x w' => x = .returned (.int .i64 V) ∧ Below w.heap.size w w' := by
  have hW : Below w.heap.size w (w.alloc (.cells #[.bool e0.s, .slice e0.p e0.n e0.c] 28)) := (Below.refl _ _).alloc (Nat.le_refl _) _
  have c0 : (w.alloc (.cells #[.bool e0.s, .slice e0.p e0.n e0.c] 28)).cell? ⟨w.heap.size, 0, none⟩ = some (.bool e0.s) := by simp [go_sem]
  have c1 : (w.alloc (.cells #[.bool e0.s, .slice e0.p e0.n e0.c] 28)).cell? ⟨w.heap.size, 1, none⟩ = some (.slice e0.p e0.n e0.c) := by simp [go_sem]
  go_enter Try.func17, Try.ntmps17
  go_wp2_with fail
  generalize w.alloc (.cells #[.bool e0.s, .slice e0.p e0.n e0.c] 28) = W at *
  refine region_ints [(0, 7), (1, 8), (2, 9), (3, 10), (4, 11), (5, 12), (6, 13), (7, 6)]
    [.val (.slice p n nc), .val za, .val (.slice q m mc), .val zb', .val (.agg #[.bool e0.s, .slice e0.p e0.n e0.c]), .val (.int .i64 m0), .val (.int .i64 V), .val (.int .i64 V)]
    (by kernel_rfl) (by kernel_rfl) (by kernel_rfl) (by decide) (by decide) (by rfl) ?_ ?_
  · refine ⟨?_, ?_, ?_, ?_, ?_, ?_, ?_, ?_, trivial⟩
    · exact ok_pure _ rfl fun ρ v R => by simp [execOp, go_sem, R.old 0 (by decide)]
    · exact ok_call 11 _ rfl fun ρ v R => ⟨_, by simp [execOp, go_sem, R.dep 0 7 _ (by decide) rfl rfl, R.fn], h1 _ (bnext' hW R.b)⟩
    · exact ok_pure _ rfl fun ρ v R => by simp [execOp, go_sem, R.old 1 (by decide)]
    · exact ok_call 11 _ rfl fun ρ v R => ⟨_, by simp [execOp, go_sem, R.dep 2 9 _ (by decide) rfl rfl, R.fn], h2 _ (bnext' hW R.b)⟩
    · exact ok_pure _ rfl fun ρ v R => by have x0 := cell_later R.b c0; have x1 := cell_later R.b c1; simp [execOp, go_sem, R.old 5 (by decide), x0, x1]
    · exact ok_call 37 _ rfl fun ρ v R => ⟨_, by simp [execOp, go_sem, R.dep 4 11 _ (by decide) rfl rfl, R.fn], h3 _ (bnext' hW R.b)⟩
    · exact ok_call 46 _ rfl fun ρ v R => ⟨_, by simp [execOp, go_sem, R.dep 1 8 _ (by decide) rfl rfl, R.dep 3 10 _ (by decide) rfl rfl, R.dep 5 12 _ (by decide) rfl rfl, R.fn], h4 _⟩
    · exact ok_pure _ rfl fun ρ v R => by simp [execOp, go_sem, R.dep 6 13 _ (by decide) rfl rfl]
  intro vals w2 hb2 hv
  have v0 : vals 0 = _ := hv (0, 7) (by decide)
  have v1 : vals 1 = _ := hv (1, 8) (by decide)
  have v2 : vals 2 = _ := hv (2, 9) (by decide)
  have v3 : vals 3 = _ := hv (3, 10) (by decide)
  have v4 : vals 4 = _ := hv (4, 11) (by decide)
  have v5 : vals 5 = _ := hv (5, 12) (by decide)
  have v6 : vals 6 = _ := hv (6, 13) (by decide)
  have v7 : vals 7 = _ := hv (7, 6) (by decide)
  simp only [List.foldl, v0, v1, v2, v3, v4, v5, v6, v7, List.setIfInBounds_toArray, List.set_cons_succ, List.set_cons_zero]
  clear hv v0 v1 v2 v3 v4 v5 v6 v7
  have HBE : Hid (Below w.heap.size w w2) := bnext' hW hb2
  clear h1 h2 h3 h4
  go_wp2
  go_ret
  exact ⟨rfl, HBE.out⟩
set_option maxHeartbeats 4000000 in
set_option maxRecDepth 100000 in
theorem gCommon_lay {w : World} {p q : Option Addr} {n nc m mc : Nat} {e0 : Ent} {za zb' : Value} {m0 V : Int} (h1 : ∀ w', Below w.heap.size w w' → Calls Try.prog 11 #[.slice p n nc] w' fun e w2 => e = .returned za ∧ Below w'.heap.size w' w2) (h2 : ∀ w', Below w.heap.size w w' → Calls Try.prog 11 #[.slice q m mc] w' fun e w2 => e = .returned zb' ∧ Below w'.heap.size w' w2)
    (h3 : ∀ w', Below w.heap.size w w' → Calls Try.prog 37 #[.agg #[.bool e0.s, .slice e0.p e0.n e0.c]] w' fun e w2 => e = .returned (.int .i64 m0) ∧ Below w'.heap.size w' w2) (h4 : ∀ w', Calls Try.prog 47 #[za, zb', .int .i64 m0] w' fun e w2 => e = .returned (.int .i64 V) ∧ Below w'.heap.size w' w2) :
    Calls Try.prog 19 #[.slice p n nc, .slice q m mc, .agg #[.bool e0.s, .slice e0.p e0.n e0.c]] w fun x w' => x = .returned (.int .i64 V) ∧ Below w.heap.size w w' := by
  have hW : Below w.heap.size w (w.alloc (.cells #[.bool e0.s, .slice e0.p e0.n e0.c] 28)) := (Below.refl _ _).alloc (Nat.le_refl _) _
  have c0 : (w.alloc (.cells #[.bool e0.s, .slice e0.p e0.n e0.c] 28)).cell? ⟨w.heap.size, 0, none⟩ = some (.bool e0.s) := by simp [go_sem]
  have c1 : (w.alloc (.cells #[.bool e0.s, .slice e0.p e0.n e0.c] 28)).cell? ⟨w.heap.size, 1, none⟩ = some (.slice e0.p e0.n e0.c) := by simp [go_sem]
  go_enter Try.func19, Try.ntmps19
  go_wp2_with fail
  generalize w.alloc (.cells #[.bool e0.s, .slice e0.p e0.n e0.c] 28) = W at *
  refine region_ints [(0, 7), (1, 8), (2, 9), (3, 10), (4, 11), (5, 12), (6, 13), (7, 6)]
    [.val (.slice p n nc), .val za, .val (.slice q m mc), .val zb', .val (.agg #[.bool e0.s, .slice e0.p e0.n e0.c]), .val (.int .i64 m0), .val (.int .i64 V), .val (.int .i64 V)]
    (by kernel_rfl) (by kernel_rfl) (by kernel_rfl) (by decide) (by decide) (by rfl) ?_ ?_
  · refine ⟨?_, ?_, ?_, ?_, ?_, ?_, ?_, ?_, trivial⟩
    · exact ok_pure _ rfl fun ρ v R => by simp [execOp, go_sem, R.old 0 (by decide)]
    · exact ok_call 11 _ rfl fun ρ v R => ⟨_, by simp [execOp, go_sem, R.dep 0 7 _ (by decide) rfl rfl, R.fn], h1 _ (bnext' hW R.b)⟩
    · exact ok_pure _ rfl fun ρ v R => by simp [execOp, go_sem, R.old 1 (by decide)]
    · exact ok_call 11 _ rfl fun ρ v R => ⟨_, by simp [execOp, go_sem, R.dep 2 9 _ (by decide) rfl rfl, R.fn], h2 _ (bnext' hW R.b)⟩
    · exact ok_pure _ rfl fun ρ v R => by have x0 := cell_later R.b c0; have x1 := cell_later R.b c1; simp [execOp, go_sem, R.old 5 (by decide), x0, x1]
    · exact ok_call 37 _ rfl fun ρ v R => ⟨_, by simp [execOp, go_sem, R.dep 4 11 _ (by decide) rfl rfl, R.fn], h3 _ (bnext' hW R.b)⟩
    · exact ok_call 47 _ rfl fun ρ v R => ⟨_, by simp [execOp, go_sem, R.dep 1 8 _ (by decide) rfl rfl, R.dep 3 10 _ (by decide) rfl rfl, R.dep 5 12 _ (by decide) rfl rfl, R.fn], h4 _⟩
    · exact ok_pure _ rfl fun ρ v R => by simp [execOp, go_sem, R.dep 6 13 _ (by decide) rfl rfl]
  intro vals w2 hb2 hv
  have v0 : vals 0 = _ := hv (0, 7) (by decide)
  have v1 : vals 1 = _ := hv (1, 8) (by decide)
  have v2 : vals 2 = _ := hv (2, 9) (by decide)
  have v3 : vals 3 = _ := hv (3, 10) (by decide)
  have v4 : vals 4 = _ := hv (4, 11) (by decide)
  have v5 : vals 5 = _ := hv (5, 12) (by decide)
  have v6 : vals 6 = _ := hv (6, 13) (by decide)
  have v7 : vals 7 = _ := hv (7, 6) (by decide)
  simp only [List.foldl, v0, v1, v2, v3, v4, v5, v6, v7, List.setIfInBounds_toArray, List.set_cons_succ, List.set_cons_zero]
  clear hv v0 v1 v2 v3 v4 v5 v6 v7
  have HBE : Hid (Below w.heap.size w w2) := bnext' hW hb2
  clear h1 h2 h3 h4
  go_wp2
  go_ret
  exact ⟨rfl, HBE.out⟩
end Go.Proofs.Ytcdfckjlmifjiaa
