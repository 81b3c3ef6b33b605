/-
  ore.size; estimate.Apply.
-/
import Derived.Test.YtejnhpjejcpekaaGreatDoorAvAw
import Derived.Test.YtejnhpjejcpekaaGreatDoorAcDsAeAfBnBoBrBpAh
import Derived.Deep.DeepFit
import Derived.Test.YtejnhpjejcpekaaGreatDoorHxCbNgNk
import Derived.Test.YtejnhpjejcpekaaGreatDoorKqOr
import Derived.Test.YtejnhpjejcpekaaGreatDoorUiWiWj
namespace Go.Proofs.YtejnhpjejcpekaaGreatDoor
open Go.RowKit
set_option linter.unusedVariables false
set_option linter.unusedSimpArgs false
set_option maxHeartbeats 8000000
set_option maxRecDepth 100000 in
theorem osize_any {w : World} {B T K E D : Nat} {zss : List (List Int)} {h : Hdr} (H : HR D (EZ K E) w B T zss h) (hT : T ≤ w.heap.size) (hD : D ≤ 1000000) (hE : E ≤ 1000000) (hK : K ≤ 1000) :
    Calls Tryz.prog 60 #[.slice h.p h.n h.c] w fun e w' => e = .returned (.agg #[.int .i64 (max ((olen zss : Int) - 1) 0), .int .i64 (max (odeg zss) 0), .int .i64 (obit zss)]) ∧ Below w.heap.size w w' := by
  have h1 := fun w' (hb : Below w.heap.size w w') => oOrder_any ((lasts_HR (lasts_EZ K E)).below H hT hb) (Nat.le_trans hT hb.size) hD hE
  have h2 := fun w' (hb : Below w.heap.size w w') => oDegree_any ((lasts_HR (lasts_EZ K E)).below H hT hb) (Nat.le_trans hT hb.size) hD hE
  have h3 := fun w' (hb : Below w.heap.size w w') => oBits_any ((lasts_HR (lasts_EZ K E)).below H hT hb) (Nat.le_trans hT hb.size) hD hE hK
  obtain ⟨p, n, nc⟩ := h
  simp only at h1 h2 h3 ⊢
  clear H hT
  generalize (olen zss : Int) - 1 = r at *
  generalize odeg zss = d at *
  generalize (obit zss : Int) = k at *
  obtain ⟨r', hr'⟩ : ∃ r', max r 0 = r' := ⟨_, rfl⟩
  obtain ⟨d', hd'⟩ : ∃ d', max d 0 = d' := ⟨_, rfl⟩
  have h4 := fun w => eSize_any w r d k
  rw [hr', hd'] at h4
  rw [hr', hd']
  clear hr' hd'
  have hW : Below w.heap.size w (w.alloc (.cells #[.int .i64 0, .int .i64 0, .int .i64 0] 107)) := (Below.refl _ _).alloc (Nat.le_refl _) _
  have hG : (w.alloc (.cells #[.int .i64 0, .int .i64 0, .int .i64 0] 107)).heap[w.heap.size]? = some (.cells #[.int .i64 0, .int .i64 0, .int .i64 0] 107 (0, 0)) := heap_alloc_new w _
  go_enter Tryz.func60, Tryz.ntmps60
  go_wp2_with fail
  generalize w.alloc (.cells #[.int .i64 0, .int .i64 0, .int .i64 0] 107) = W at *
  go_fit (h1 W hW)
  rintro e w1 ⟨rfl, hb1⟩
  have hB1 := bnext' hW hb1
  have h2' := h2 w1 hB1
  go_wp2_with fail
  go_fit h2'
  rintro e w2 ⟨rfl, hb2⟩
  have hB2 := bnext' hB1 hb2
  have h3' := h3 w2 hB2
  go_wp2_with fail
  go_fit h3'
  rintro e w3 ⟨rfl, hb3⟩
  have hB3 := bnext' hB2 hb3
  have hV3 := bnext' hb1 (bnext' hb2 hb3)
  clear h1 h2 h3 h2' h3' hb1 hb2 hb3 hB2 hB1
  go_wp2_with fail
  go_fit (h4 w3)
  rintro e w4 ⟨rfl, hb4⟩
  have hG4 : w4.heap[w.heap.size]? = some (.cells #[.int .i64 0, .int .i64 0, .int .i64 0] 107 (0, 0)) := ((bnext' hV3 hb4).block _ (Array.getElem?_eq_some_iff.1 hG).1).trans hG
  have HB : Hid (Below w.heap.size w w4) := bnext' hB3 hb4
  have z0 : w4.cell? ⟨w.heap.size, 0, none⟩ = some (.int .i64 0) := by simp only [World.cell?]; rw [hG4]; rfl
  have z1 : w4.cell? ⟨w.heap.size, 1, none⟩ = some (.int .i64 0) := by simp only [World.cell?]; rw [hG4]; rfl
  have z2 : w4.cell? ⟨w.heap.size, 2, none⟩ = some (.int .i64 0) := by simp only [World.cell?]; rw [hG4]; rfl
  have f0 := frozen_of_row w4 _ 0 _ _ hG4
  have f1 := frozen_of_row w4 _ 1 _ _ hG4
  have f2 := frozen_of_row w4 _ 2 _ _ hG4
  clear hB3 hb4 hV3 hG hG4 hW
  clear h4
  go_wp2_with fail
  refine bodyPost_ret (v := .agg #[.int .i64 r', .int .i64 d', .int .i64 k]) (by simp [results, Tryz.results60, go_sem, z0, z1, z2]) rfl ⟨rfl, ?_⟩
  exact ((HB.out.setCell (p := ⟨w.heap.size, 0, none⟩) (Nat.le_refl _) _).setCell (p := ⟨w.heap.size, 1, none⟩) (Nat.le_refl _) _).setCell (p := ⟨w.heap.size, 2, none⟩) (Nat.le_refl _) _
set_option maxRecDepth 100000 in
theorem eApply_any (w : World) (r d k g l m : Int) (hr : InI r) (hd : InI d) (hk : InI k) (hg : -1 ≤ g ∧ g ≤ 1000000000) (hl : InI l) (hm : InI m) :
    Calls Tryz.prog 73 #[.agg #[.int .i64 r, .int .i64 d, .int .i64 k], .int .i64 g, .int .i64 l, .int .i64 m] w fun x w' => x = .returned (.int .i64 (tms [sms [r, 1], sms [d, g + 3], sms [k, l, pms [sms [r, 1], g + 2, sms [m, 8]]]])) ∧ Below w.heap.size w w' := by
  have hW : Below w.heap.size w (w.alloc (.cells #[.int .i64 r, .int .i64 d, .int .i64 k] 107)) := (Below.refl _ _).alloc (Nat.le_refl _) _
  have xa : (w.alloc (.cells #[.int .i64 r, .int .i64 d, .int .i64 k] 107)).cell? ⟨w.heap.size, 0, none⟩ = some (.int .i64 r) := by simp [go_sem]
  have xad : (w.alloc (.cells #[.int .i64 r, .int .i64 d, .int .i64 k] 107)).cell? ⟨w.heap.size, 1, none⟩ = some (.int .i64 d) := by simp [go_sem]
  have xak : (w.alloc (.cells #[.int .i64 r, .int .i64 d, .int .i64 k] 107)).cell? ⟨w.heap.size, 2, none⟩ = some (.int .i64 k) := by simp [go_sem]
  go_enter Tryz.func73, Tryz.ntmps73
  go_wp2_with fail
  have sW : (w.alloc (.cells #[.int .i64 r, .int .i64 d, .int .i64 k] 107)).heap.size = w.heap.size + 1 := by simp
  generalize w.alloc (.cells #[.int .i64 r, .int .i64 d, .int .i64 k] 107) = W at *
  have h1 : ∀ x ∈ [r, 1], InI x := by simp [hr]; simp [InI]
  have k1 := sms_in h1
  have hrd := rd_two W r 1 3
  rw [sW] at hrd
  go_fit (sum_lit [r, 1] 2 rfl (by decide) hrd h1)
  rintro e w2 ⟨rfl, hb2'⟩
  have hb2 : Below W.heap.size W w2 := bnext' ((Below.refl _ _).alloc (Nat.le_refl _) _) hb2'
  clear hrd hb2'
  have v1 : wrap64 (g + 2) = g + 2 := by unfold wrap64; omega
  have v2 : wrap64 (g + 3) = g + 3 := by unfold wrap64; omega
  have g2 : InI (g + 2) := ⟨by omega, by omega⟩
  have g3 : InI (g + 3) := ⟨by omega, by omega⟩
  have h2 : ∀ x ∈ [m, 8], InI x := (List.forall_mem_cons.2 ⟨hm, (List.forall_mem_cons.2 ⟨inI_lit rfl, (List.forall_mem_nil _)⟩)⟩)
  have k2 := sms_in h2
  go_wp2_with fail
  go_fit (sum_lit [m, 8] 2 rfl (by decide) (rd_two w2 m 8 _) h2)
  rintro e w3 ⟨rfl, hb3'⟩
  have hb3 : Below W.heap.size W w3 := bnext' hb2 (bnext' ((Below.refl _ _).alloc (Nat.le_refl _) _) hb3')
  clear hb3'
  have h3 : ∀ x ∈ [sms [r, 1], g + 2, sms [m, 8]], InI x := (List.forall_mem_cons.2 ⟨k1, (List.forall_mem_cons.2 ⟨g2, (List.forall_mem_cons.2 ⟨k2, (List.forall_mem_nil _)⟩)⟩)⟩)
  have k3 := pms_in h3
  have hrd : Rd (w3.alloc (.cells #[.int .i64 (sms [r, 1]), .int .i64 (g + 2), .int .i64 (sms [m, 8])] 3)) (some ⟨w3.heap.size, 0, none⟩) .i64 [sms [r, 1], g + 2, sms [m, 8]] := rd_lit w3 [sms [r, 1], g + 2, sms [m, 8]] 3
  go_wp2_with fail
  go_fit (prod_lit [sms [r, 1], g + 2, sms [m, 8]] 3 rfl (by decide) hrd h3)
  rintro e w4 ⟨rfl, hb4'⟩
  have hb4 : Below W.heap.size W w4 := bnext' hb3 (bnext' ((Below.refl _ _).alloc (Nat.le_refl _) _) hb4')
  clear hb4' hrd
  go_wp2_with fail
  have zc4 : IntKind.i64.wrap (g + 3) = g + 3 := by rw [IntKind.wrap_i64]; omega
  have mc6 : ∀ x ∈ [d, g + 3], InI x := (List.forall_mem_cons.2 ⟨hd, (List.forall_mem_cons.2 ⟨g3, (List.forall_mem_nil _)⟩)⟩)
  have kc6 : InI (sms [d, g + 3]) := sms_in mc6
  have mc12 : ∀ x ∈ [k, l, pms [sms [r, 1], g + 2, sms [m, 8]]], InI x := (List.forall_mem_cons.2 ⟨hk, (List.forall_mem_cons.2 ⟨hl, (List.forall_mem_cons.2 ⟨k3, (List.forall_mem_nil _)⟩)⟩)⟩)
  have kc12 : InI (sms [k, l, pms [sms [r, 1], g + 2, sms [m, 8]]]) := sms_in mc12
  have mc14 : ∀ x ∈ [sms [r, 1], sms [d, g + 3], sms [k, l, pms [sms [r, 1], g + 2, sms [m, 8]]]], InI x := (List.forall_mem_cons.2 ⟨k1, (List.forall_mem_cons.2 ⟨kc6, (List.forall_mem_cons.2 ⟨kc12, (List.forall_mem_nil _)⟩)⟩)⟩)
  have kc14 : InI (tms [sms [r, 1], sms [d, g + 3], sms [k, l, pms [sms [r, 1], g + 2, sms [m, 8]]]]) := tms_in mc14
  refine region_ints [(0, 23), (1, 24), (2, 25), (3, 26), (4, 27), (5, 28), (6, 29), (7, 30), (8, 31), (9, 32), (10, 33), (11, 34), (12, 35), (13, 36), (14, 37), (15, 8)]
    [.val (.int .i64 (sms [r, 1])), .val (.pointer (some ⟨w.heap.size, 1, none⟩)), .val (.int .i64 (d)), .val (.int .i64 (g)), .val (.int .i64 (g + 3)), .row 2 [d, g + 3], .val (.int .i64 (sms [d, g + 3])), .val (.pointer (some ⟨w.heap.size, 2, none⟩)), .val (.int .i64 (k)), .val (.int .i64 (l)), .val (.int .i64 (pms [sms [r, 1], g + 2, sms [m, 8]])), .row 3 [k, l, pms [sms [r, 1], g + 2, sms [m, 8]]], .val (.int .i64 (sms [k, l, pms [sms [r, 1], g + 2, sms [m, 8]]])), .row 3 [sms [r, 1], sms [d, g + 3], sms [k, l, pms [sms [r, 1], g + 2, sms [m, 8]]]], .val (.int .i64 (tms [sms [r, 1], sms [d, g + 3], sms [k, l, pms [sms [r, 1], g + 2, sms [m, 8]]]])), .val (.int .i64 (tms [sms [r, 1], sms [d, g + 3], sms [k, l, pms [sms [r, 1], g + 2, sms [m, 8]]]]))]
    (by kernel_rfl) (by kernel_rfl) (by kernel_rfl) (by decide) (by decide) (by rfl) ?_ ?_
  · refine ⟨?_, ?_, ?_, ?_, ?_, ?_, ?_, ?_, ?_, ?_, ?_, ?_, ?_, ?_, ?_, ?_, trivial⟩
    · exact ok_pure _ rfl fun ρ v R => by simp [execOp, go_sem, R.old 9 (by decide)]
    · exact ok_pure _ rfl fun ρ v R => by simp [execOp, go_sem, R.old 4 (by decide)]
    · exact ok_pure _ rfl fun ρ v R => by have x := cell_later R.b (cell_later hb4 xad); simp [execOp, go_sem, R.dep 1 24 _ (by decide) rfl rfl, x]
    · exact ok_pure _ rfl fun ρ v R => by simp [execOp, go_sem, R.old 1 (by decide)]
    · exact ok_pure _ rfl fun ρ v R => by simp [execOp, go_sem, R.con, R.dep 3 26 _ (by decide) rfl rfl, zc4]
    · exact ok_build 2 [d, g + 3] 3 rfl (fun v => rd_lit v _ _) fun ρ v R => by simp [execOp, go_sem, R.dep 2 25 _ (by decide) rfl rfl, R.dep 4 27 _ (by decide) rfl rfl]
    · exact ok_call 125 _ rfl fun ρ v R => by
        obtain ⟨b, h3, h4⟩ := R.row 5 28 2 [d, g + 3] (by decide) rfl rfl
        exact ⟨_, by simp [execOp, go_sem, h3, R.fn], sum_lit [d, g + 3] 2 rfl (by decide) h4 mc6⟩
    · exact ok_pure _ rfl fun ρ v R => by simp [execOp, go_sem, R.old 4 (by decide)]
    · exact ok_pure _ rfl fun ρ v R => by have x := cell_later R.b (cell_later hb4 xak); simp [execOp, go_sem, R.dep 7 30 _ (by decide) rfl rfl, x]
    · exact ok_pure _ rfl fun ρ v R => by simp [execOp, go_sem, R.old 2 (by decide)]
    · exact ok_pure _ rfl fun ρ v R => by simp [execOp, go_sem, R.old 10 (by decide)]
    · exact ok_build 3 [k, l, pms [sms [r, 1], g + 2, sms [m, 8]]] 3 rfl (fun v => rd_lit v _ _) fun ρ v R => by simp [execOp, go_sem, R.dep 10 33 _ (by decide) rfl rfl, R.dep 8 31 _ (by decide) rfl rfl, R.dep 9 32 _ (by decide) rfl rfl]
    · exact ok_call 125 _ rfl fun ρ v R => by
        obtain ⟨b, h3, h4⟩ := R.row 11 34 3 [k, l, pms [sms [r, 1], g + 2, sms [m, 8]]] (by decide) rfl rfl
        exact ⟨_, by simp [execOp, go_sem, h3, R.fn], sum_lit [k, l, pms [sms [r, 1], g + 2, sms [m, 8]]] 3 rfl (by decide) h4 mc12⟩
    · exact ok_build 3 [sms [r, 1], sms [d, g + 3], sms [k, l, pms [sms [r, 1], g + 2, sms [m, 8]]]] 3 rfl (fun v => rd_lit v _ _) fun ρ v R => by simp [execOp, go_sem, R.dep 0 23 _ (by decide) rfl rfl, R.dep 12 35 _ (by decide) rfl rfl, R.dep 6 29 _ (by decide) rfl rfl]
    · exact ok_call 127 _ rfl fun ρ v R => by
        obtain ⟨b, h3, h4⟩ := R.row 13 36 3 [sms [r, 1], sms [d, g + 3], sms [k, l, pms [sms [r, 1], g + 2, sms [m, 8]]]] (by decide) rfl rfl
        exact ⟨_, by simp [execOp, go_sem, h3, R.fn], times_lit [sms [r, 1], sms [d, g + 3], sms [k, l, pms [sms [r, 1], g + 2, sms [m, 8]]]] 3 rfl (by decide) h4 mc14⟩
    · exact ok_pure _ rfl fun ρ v R => by simp [execOp, go_sem, R.dep 14 37 _ (by decide) rfl rfl]
  · intro vals w5 hb5 hv
    have v0 : vals 0 = _ := hv (0, 23) (by decide)
    have v1 : vals 1 = _ := hv (1, 24) (by decide)
    have v2 : vals 2 = _ := hv (2, 25) (by decide)
    have v3 : vals 3 = _ := hv (3, 26) (by decide)
    have v4 : vals 4 = _ := hv (4, 27) (by decide)
    obtain ⟨b5, v5, -⟩ := hv (5, 28) (by decide)
    simp only at v5
    have v6 : vals 6 = _ := hv (6, 29) (by decide)
    have v7 : vals 7 = _ := hv (7, 30) (by decide)
    have v8 : vals 8 = _ := hv (8, 31) (by decide)
    have v9 : vals 9 = _ := hv (9, 32) (by decide)
    have v10 : vals 10 = _ := hv (10, 33) (by decide)
    obtain ⟨b11, v11, -⟩ := hv (11, 34) (by decide)
    simp only at v11
    have v12 : vals 12 = _ := hv (12, 35) (by decide)
    obtain ⟨b13, v13, -⟩ := hv (13, 36) (by decide)
    simp only at v13
    have v14 : vals 14 = _ := hv (14, 37) (by decide)
    have v15 : vals 15 = _ := hv (15, 8) (by decide)
    simp only [List.foldl, v0, v1, v2, v3, v4, v5, v6, v7, v8, v9, v10, v11, v12, v13, v14, v15, List.setIfInBounds_toArray, List.set_cons_succ, List.set_cons_zero]
    clear hv v0 v1 v2 v3 v4 v5 v6 v7 v8 v9 v10 v11 v12 v13 v14 v15
    have HBE : Hid (Below w.heap.size w w5) := bnext' hW (bnext' hb4 hb5)
    go_wp2
    go_ret
    exact ⟨rfl, HBE.out⟩
def estA (zss : List (List Int)) (zs : List Int) (y : Int) : Int := tms [sms [max ((olen zss : Int) - 1) 0, 1], sms [max (odeg zss) 0, ((tlen zs : Int) - 1) + 3], sms [(obit zss : Int), (pb zs : Int), pms [sms [max ((olen zss : Int) - 1) 0, 1], ((tlen zs : Int) - 1) + 2, sms [(zb y : Int), 8]]]]
def LetOK (J g : Nat) (al y : Int) : Prop := ∀ (v : World) (K : Nat) (p : Option Addr) (n nc : Nat) (es : List Ent) (zf : List Int), RuleQ v g al y → PA v K p n nc es zf → n ≤ 15 → K ≤ 60 → Calls Tryz.prog J #[.pointer (some ⟨g, 0, none⟩), .slice p n nc] v (PnP (LTR al y zf) (K + n * 2) v)
theorem let_sigma {g : Nat} {al y : Int} (h : ¬ al = 2) : LetOK 63 g al y := fun v K p n nc es zf h1 h2 h3 h4 => by
  rw [LTR, if_neg h]
  exact oSigma_all h1 h2 h3 h4
theorem let_delta {g : Nat} {y : Int} : LetOK 64 g 2 y := fun v K p n nc es zf h1 h2 h3 h4 => by
  rw [LTR, if_pos rfl]
  exact oDelta_all h1 h2 h3 h4
theorem obd_of {w : World} {B T K E D : Nat} {zss : List (List Int)} {h : Hdr} (H : HR D (EZ K E) w B T zss h) (hE : E ≤ 1000000 := by decide) : odeg zss ≤ E ∧ obit zss ≤ 32 * K := by
  have h1 := (odeg_bd zss (hr_len H) zss.length (Nat.le_refl _)).2
  obtain ⟨hs, k⟩ := H
  have h2 := obit_bd (E := 32 * K) zss (fun j hj => by
    obtain ⟨es, hP, hn, -, -⟩ := k.ev j (by rw [← k.tl]; exact hj)
    exact pb_le hP (by omega)) zss.length (Nat.le_refl _)
  rw [List.take_length] at h1 h2
  exact ⟨h1, h2⟩
theorem len_add (a b : List Int) : (tr (pz (· + ·) a b)).length ≤ max a.length b.length := by
  rw [length_tr]
  refine Nat.le_trans (tlen_le _) ?_
  simp [pz]
set_option maxRecDepth 100000 in
theorem rows_gen {w : World} {K L : Nat} {p q : Option Addr} {n nc m mc : Nat} {es fs : List Ent} {zs ys : List Int} (h : PA w K p n nc es zs) (k : PA w L q m mc fs ys) (hn : n ≤ 1000) (hm : m ≤ 1000) (hn1 : 1 ≤ n) (hm1 : 1 ≤ m) (hK : K ≤ 400) (hL : L ≤ 400) :
    Calls Tryz.prog 223 #[.slice p n nc, .slice q m mc] w fun r w' => ∃ u us, r = .returned (.slice u (n + m - 1) (n + m - 1)) ∧ us.length = n + m - 1 ∧ PL w' u us ∧ Go.Proofs.YtejnhpjejcpekaaGreatDoor.From w.heap.size u ∧ (∀ t, t < n + m - 1 → NV w.heap.size w' (K + L + 1) (ps zs ys n t) (ge us t)) ∧ Below w.heap.size w w' := by
  have hel := h.el
  have hfl := k.el
  have hzl := h.zl
  have hyl := k.zl
  obtain ⟨N, hN⟩ : ∃ N, N = n + m - 1 := ⟨_, rfl⟩
  rw [← hN]
  have hNI : (n : Int) + (m : Int) - 1 = (N : Int) := by omega
  have w1 : IntKind.i64.wrap ((n : Int) + (m : Int)) = (n : Int) + (m : Int) := by rw [IntKind.wrap_i64]; omega
  have w2 : IntKind.i64.wrap (N : Int) = (N : Int) := by rw [IntKind.wrap_i64]; omega
  have HN : Hid (N = n + m - 1) := hN
  have hN3 : N ≤ 2000 := by omega
  clear hN
  have hmk := mk_poly N (by omega)
  go_enter Tryz.func223, Tryz.ntmps223
  go_wp2_with fail
  have hR0 := Row2.new w 26 (ezs N)
  have hW0 : Below w.heap.size w (w.alloc (.cells (ca2 (ezs N)) 26)) := (Below.refl _ _).alloc (Nat.le_refl _) _
  have hs0 : w.heap.size + 1 ≤ (w.alloc (.cells (ca2 (ezs N)) 26)).heap.size := by simp
  generalize w.alloc (.cells (ca2 (ezs N)) 26) = W0 at *
  clear hmk
  have HX : Hid (∀ i, ((gx zs i).natAbs : Int) < pw K) := h.gbd
  have HY : Hid (∀ i, ((gx ys i).natAbs : Int) < pw L) := k.gbd
  go_loopw [6, 7, 8, 9, 19] (fun iv av jv bv kv wr => ∃ i : Nat, i ≤ n ∧ kv = .int .i64 i ∧ Hid (PrI (ps zs ys i) (K + L + 1) w.heap.size N W0 wr)) (fun _ _ _ _ kv _ => n - (intOf kv).toNat)
  case atStart => exact ⟨0, Nat.zero_le _, by go_num, ezs N, hR0, length_ezs N, fun t ht => by rw [ge_ezs]; exact NV.ez _ _ _, Below.refl _ _⟩
  case round =>
    obtain ⟨i, hi, rfl, H⟩ := hrel
    rcases Nat.lt_or_ge i n with hlt | hge
    · have hBw : Below w.heap.size w wr := by
        obtain ⟨es', hR, hel', hev, hB⟩ := H.out
        exact hW0.trans hB
      have hPA := h.below hBw
      obtain ⟨b, o, hp, hc⟩ := hPA.pl (by omega)
      subst hp
      obtain ⟨c0, c1⟩ := hc i (by omega)
      have hv := hPA.ev i hlt
      clear hc hPA
      go_wp2_with fail
      have hal := bel_al (o := .cells #[.bool (ge es i).s, .slice (ge es i).p (ge es i).n (ge es i).c] 26) (Below.refl wr.heap.size wr)
      have hX1 : Bx (wr.alloc (.cells #[.bool (ge es i).s, .slice (ge es i).p (ge es i).n (ge es i).c] 26)) wr.heap.size (.bool (ge es i).s) (.slice (ge es i).p (ge es i).n (ge es i).c) := Bx.new _ _ _ rfl
      have hv1 := hv.below hal
      have HP : Hid (PrI (ps zs ys i) (K + L + 1) w.heap.size N W0 (wr.alloc (.cells #[.bool (ge es i).s, .slice (ge es i).p (ge es i).n (ge es i).c] 26))) := by
        obtain ⟨es', hR, hel', hev, hB⟩ := H.out
        exact ⟨es', hR.below hal hR.lt, hel', fun t ht => (hev t ht).below hal, hB.trans (hal.mono hBw.size)⟩
      have hB1 := bnext hBw (Nat.le_refl _) hal
      have hga : w.heap.size < wr.heap.size := by
        obtain ⟨es', hR, -⟩ := H.out
        exact hR.lt
      clear H hal hv hBw c0 c1
      generalize wr.alloc (.cells #[.bool (ge es i).s, .slice (ge es i).p (ge es i).n (ge es i).c] 26) = W1 at *
      generalize wr.heap.size = ga at *
      refine (isZero_any hv1).mono ?_
      rintro r v1 ⟨rfl, hb1⟩
      have hX2 := hX1.later hb1
      have hv2 := hv1.below hb1
      have hB2 := bnext hB1 (Nat.le_refl _) hb1
      have HP2 : Hid (PrI (ps zs ys i) (K + L + 1) w.heap.size N W0 v1) := by
        obtain ⟨es', hR, hel', hev, hB⟩ := HP.out
        exact ⟨es', hR.below hb1 hR.lt, hel', fun t ht => (hev t ht).below hb1, hB.trans (hb1.mono hB1.size)⟩
      clear hX1 hv1 hB1 HP hb1
      have hcs : Hid (gx zs i = 0 ∨ ¬ gx zs i = 0) := Classical.em _
      rcases hcs.out with hz | hz
      · rw [decide_eq_true hz]
        have HZ : Hid (gx zs i = 0) := hz
        clear hz hcs
        go_wp2
        go_roundw
        case rel =>
          obtain ⟨es', hR, hel', hev, hB⟩ := HP2.out
          exact ⟨i + 1, by omega, by go_num, es', hR, hel', fun t ht => by rw [ps_none _ _ _ _ HZ.out]; exact hev t ht, hB⟩
        case measure => simp [intOf]; omega
      · rw [decide_eq_false hz]
        clear hz hcs
        go_wp2_with fail
        go_loopw [8, 9, 28] (fun jv bv kv w3 => ∃ j : Nat, j ≤ m ∧ kv = .int .i64 j ∧ Hid (PrI (pj zs ys i j) (K + L + 1) w.heap.size N W0 w3 ∧ Bx w3 ga (.bool (ge es i).s) (.slice (ge es i).p (ge es i).n (ge es i).c) ∧ EV w3 K (gx zs i) (ge es i) ∧ Below w.heap.size w w3)) (fun _ _ kv _ => m - (intOf kv).toNat)
        case atStart =>
          obtain ⟨es', hR, hel', hev, hB⟩ := HP2.out
          exact ⟨0, Nat.zero_le _, by go_num, ⟨es', hR, hel', fun t ht => by rw [pj_zero]; exact hev t ht, hB⟩, hX2, hv2, hB2⟩
        case round =>
          obtain ⟨j, hj, rfl, HJ⟩ := hrel
          rcases Nat.lt_or_ge j m with hjm | hjm
          · have hBw : Below w.heap.size w wr := HJ.out.2.2.2
            have hQA := k.below hBw
            obtain ⟨c, r, hq, hd⟩ := hQA.pl (by omega)
            subst hq
            obtain ⟨d0, d1⟩ := hd j (by omega)
            have hu := hQA.ev j hjm
            clear hd hQA
            obtain ⟨t, ht⟩ : ∃ t, t = i + j := ⟨_, rfl⟩
            have hwt : IntKind.i64.wrap ((i : Int) + (j : Int)) = (t : Int) := by rw [IntKind.wrap_i64]; omega
            have htN : t < N := by have := HN.out; omega
            have HT : Hid (t = i + j) := ht
            clear ht
            go_upto_region 9 with fail
            have hal := bel_al (o := .cells #[.bool (ge fs j).s, .slice (ge fs j).p (ge fs j).n (ge fs j).c] 26) (Below.refl wr.heap.size wr)
            have hYb : Bx (wr.alloc (.cells #[.bool (ge fs j).s, .slice (ge fs j).p (ge fs j).n (ge fs j).c] 26)) wr.heap.size (.bool (ge fs j).s) (.slice (ge fs j).p (ge fs j).n (ge fs j).c) := Bx.new _ _ _ rfl
            obtain ⟨⟨us, hR, hul, hev, hB⟩, hXa, hva, -⟩ := HJ.out
            have hR1 := hR.below hal hR.lt
            have hev1 : ∀ t, t < N → NV (w.heap.size + 1) (wr.alloc (.cells #[.bool (ge fs j).s, .slice (ge fs j).p (ge fs j).n (ge fs j).c] 26)) (K + L + 1) (pj zs ys i j t) (ge us t) := fun t ht => (hev t ht).below hal
            have hB1 := hB.trans (hal.mono hBw.size)
            have hXa1 := hXa.later hal
            have hva1 := hva.below hal
            have hu1 := hu.below hal
            have hBw1 := bnext hBw (Nat.le_refl _) hal
            have hgb : w.heap.size < wr.heap.size := hR.lt
            clear HJ hR hev hB hXa hva hu hBw hal d0 d1
            generalize wr.alloc (.cells #[.bool (ge fs j).s, .slice (ge fs j).p (ge fs j).n (ge fs j).c] 26) = W2 at *
            generalize wr.heap.size = gb at *
            obtain ⟨x0, x1⟩ := hR1.cell t (by omega)
            obtain ⟨a0, a1, -, -⟩ := id hXa1
            obtain ⟨b0, b1, -, -⟩ := id hYb
            have HE : Hid (∀ t, t < N → NV (w.heap.size + 1) W2 (K + L + 1) (pj zs ys i j t) (ge us t)) := hev1
            clear hev1
            have hoff : Hid (0 < (ge es i).n → Off w.heap.size (ge es i).p) := fun h0 => by obtain ⟨xs, q1, -⟩ := h.ev i hlt; exact q1.rd.off (Nat.le_refl _) (by rw [q1.len]; exact h0)
            have hpb : Hid (((pj zs ys i (j + 1) t).natAbs : Int) < pw (K + L + 1)) := pj_bd HX.out HY.out i (j + 1) t (by omega)
            go_region_with (first
              | (go_at_call 115; refine (Mul_ev6 hva1.drew hu1.drew (by omega) (by omega)).mono ?_; rintro r v2 ⟨e1, rfl, hN1, hb2⟩; have hV2 := undrew hb2; have hR2 := hR1.below hV2 hR1.lt; obtain ⟨y0, y1⟩ := hR2.cell t (by omega))
              | (go_at_call 148; refine (Add_ev (((HE.out t htN).below hV2).ev (by omega)) (hN1.ev (by omega))).mono ?_; rintro r v3 ⟨e2, rfl, hN2, hb3⟩; have hR3 := hR2.below hb3 hR2.lt; obtain ⟨z0, z1⟩ := hR3.cell t (by omega); have f0 := hR3.frozen (t * 2); have f1 := hR3.frozen (t * 2 + 1)))
            all_goals
              have hstep := rows_step (zs := zs) (ys := ys) (i := i) (j := j) hR1 hul HE.out hB1 hXa1 hva1 hBw1 hga hoff.out hpb.out HT.out htN hW0.size hs0 hV2 hb3 hN2
              have HST := (show Hid _ from hstep)
              clear hstep x0 x1 a0 a1 b0 b1 y0 y1 hR1 hB1 hXa1 hva1 hu1 hBw1 hYb HE hN1 hN2 hR2 hR3
              go_wp2
              refine ⟨⟨j + 1, by omega, by go_num, HST.out⟩, by simp [intOf]; omega⟩
          · obtain rfl : j = m := by omega
            have HQ : Hid (PrI (ps zs ys (i + 1)) (K + L + 1) w.heap.size N W0 wr) := by
              obtain ⟨⟨us, hR, hul, hev, hB⟩, -⟩ := HJ.out
              exact ⟨us, hR, hul, fun t ht => by rw [← pj_all, hyl]; exact hev t ht, hB⟩
            clear HJ hjm
            go_wp2
            refine ⟨⟨i + 1, by omega, by go_num, HQ.out⟩, by simp [intOf]; omega⟩
    · obtain rfl : i = n := by omega
      have HQ : Hid (PrI (ps zs ys i) (K + L + 1) w.heap.size N W0 wr) := H.out
      clear H hge
      go_wp2
      go_ret
      obtain ⟨us, hR, hul, hev, hB⟩ := HQ.out
      exact ⟨_, us, rfl, hul, hR.pl, fun a ha => by cases ha; exact Nat.le_refl _, fun t ht => (hev t ht).mono (by omega), hW0.trans hB⟩
set_option maxRecDepth 100000 in
theorem packedCost_gen (m n d : Nat) (w : World) (hm : m ≤ 200) (hn : n ≤ 200) (hd : d ≤ 900) (hd1 : 1 ≤ d) :
    Calls Tryz.prog 222 #[.int .i64 m, .int .i64 n, .int .i64 d] w fun r w' => (∃ x : Int, r = .returned (.int .i64 x)) ∧ Below w.heap.size w w' := by
  obtain ⟨A, hA1, hA2⟩ : ∃ A : Nat, max (m : Int) (n : Int) = (A : Int) ∧ A ≤ 200 := ⟨max m n, by omega, by omega⟩
  obtain ⟨M, hM1, hM2⟩ : ∃ M : Nat, min (m : Int) (n : Int) = (M : Int) ∧ M ≤ 200 := ⟨min m n, by omega, by omega⟩
  have q1 : (2147483647 : Int).tdiv (d : Int) = 2147483647 / (d : Int) := Int.tdiv_eq_ediv_of_nonneg (by decide)
  have q2 : 200 < 2147483647 / (d : Int) := by
    have : (2386092 : Int) ≤ 2147483647 / (d : Int) := Int.le_ediv_of_mul_le (by omega) (by omega)
    omega
  have q3 : 2147483647 / (d : Int) ≤ 2147483647 := Int.ediv_le_self _ (by decide)
  have hd0 : ¬ (d : Int) = 0 := by omega
  have hd0' : ((d : Int) == 0) = false := by rw [beq_eq_false_iff_ne]; omega
  generalize hQ : 2147483647 / (d : Int) = Q at *
  have hc : ¬ Q < (A : Int) := by omega
  have m1 : d * m ≤ 900 * 200 := Nat.mul_le_mul hd hm
  have m2 : d * m * d ≤ 180000 * 900 := Nat.mul_le_mul m1 hd
  have m3 : d * m * d * n ≤ 162000000 * 200 := Nat.mul_le_mul m2 hn
  have m4 : d * M ≤ 900 * 200 := Nat.mul_le_mul hd hM2
  have e1 : (d : Int) * (m : Int) = ((d * m : Nat) : Int) := by push_cast; rfl
  have e2 : ((d * m : Nat) : Int) * (d : Int) = ((d * m * d : Nat) : Int) := by push_cast; rfl
  have e3 : ((d * m * d : Nat) : Int) * (n : Int) = ((d * m * d * n : Nat) : Int) := by push_cast; rfl
  have e4 : (d : Int) * (M : Int) = ((d * M : Nat) : Int) := by push_cast; rfl
  have w1 : IntKind.i64.wrap ((d * m : Nat) : Int) = ((d * m : Nat) : Int) := by rw [IntKind.wrap_i64]; omega
  have w2 : IntKind.i64.wrap ((d * m * d : Nat) : Int) = ((d * m * d : Nat) : Int) := by rw [IntKind.wrap_i64]; omega
  have w3 : IntKind.i64.wrap ((d * m * d * n : Nat) : Int) = ((d * m * d * n : Nat) : Int) := by rw [IntKind.wrap_i64]; omega
  have w4 : IntKind.i64.wrap ((d * M : Nat) : Int) = ((d * M : Nat) : Int) := by rw [IntKind.wrap_i64]; omega
  have w5 : IntKind.i64.wrap Q = Q := by rw [IntKind.wrap_i64]; omega
  generalize d * m * d * n = X at *
  generalize d * m * d = X2 at *
  generalize d * m = X1 at *
  generalize d * M = X4 at *
  have x1 : IntKind.i64.wrap ((m : Int) + (n : Int)) = (m : Int) + (n : Int) := by rw [IntKind.wrap_i64]; omega
  have x2 : IntKind.i64.wrap (160 * ((m : Int) + (n : Int))) = 160 * ((m : Int) + (n : Int)) := by rw [IntKind.wrap_i64]; omega
  go_enter Tryz.func222, Tryz.ntmps222
  go_wp2_with fail
  go_loop [7, 8] (fun cv kv => ∃ c k : Nat, cv = .int .i64 (c : Int) ∧ kv = .int .i64 (k : Int) ∧ c ≤ 32400000000 ∧ k ≤ 180000) (fun _ kv => match kv with | .int _ k => k.toNat | _ => 0)
  case atStart => exact ⟨X, X4, rfl, rfl, by omega, by omega⟩
  case round =>
    obtain ⟨c, k, rfl, rfl, hc1, hk1⟩ := hrel
    obtain ⟨c4, hc4⟩ : ∃ c4 : Nat, c4 = c / 4 := ⟨_, rfl⟩
    obtain ⟨k2, hk2⟩ : ∃ k2 : Nat, k2 = k / 2 := ⟨_, rfl⟩
    obtain ⟨cr, hcr⟩ : ∃ cr : Nat, cr = c - c4 := ⟨_, rfl⟩
    have t1 : (c : Int).tdiv 4 = (c4 : Int) := by rw [Int.tdiv_eq_ediv_of_nonneg (by omega)]; omega
    have t2 : (k : Int).tdiv 2 = (k2 : Int) := by rw [Int.tdiv_eq_ediv_of_nonneg (by omega)]; omega
    have t3 : IntKind.i64.wrap (c4 : Int) = (c4 : Int) := by rw [IntKind.wrap_i64]; omega
    have t4 : IntKind.i64.wrap (k2 : Int) = (k2 : Int) := by rw [IntKind.wrap_i64]; omega
    have t5 : (c : Int) - (c4 : Int) = (cr : Int) := by omega
    have t6 : IntKind.i64.wrap (cr : Int) = (cr : Int) := by rw [IntKind.wrap_i64]; omega
    have x3 : IntKind.i64.wrap ((c : Int) + 160 * ((m : Int) + (n : Int))) = (c : Int) + 160 * ((m : Int) + (n : Int)) := by rw [IntKind.wrap_i64]; omega
    have H1 : Hid (k2 = k / 2 ∧ cr ≤ 32400000000) := ⟨hk2, by omega⟩
    clear hk2 hc4 hcr
    by_cases hk : (80 : Int) < (k : Int)
    · go_wp2
      have h1 := H1.out
      refine ⟨⟨cr, k2, rfl, rfl, h1.2, by omega⟩, ?_⟩
      show (k2 : Int).toNat < (k : Int).toNat
      omega
    · go_wp2
      go_ret
      exact ⟨⟨_, rfl⟩, Below.refl _ _⟩
set_option maxRecDepth 100000 in
theorem product_pg {B C : Nat} {w : World} {K L : Nat} {p q : Option Addr} {n m : Nat} {es fs : List Ent} {zs ys : List Int} (h : PB B w K p n es zs) (k : PB C w L q m fs ys) (hn : n ≤ 80) (hm : m ≤ 80) (hn1 : 1 ≤ n) (hm1 : 1 ≤ m) (hK : K ≤ 400) (hL : L ≤ 400) (hd : K + L + 1 ≤ 800) :
    Calls Tryz.prog 149 #[.slice p n n, .slice q m m] w (PnP (mulz zs ys) (K + L + 1) w) := by
  have hpa := h.pa (by omega)
  have hqa := k.pa (by omega)
  have hzl := h.zl
  have hyl := k.zl
  have HB : Hid (pb zs ≤ 32 * K ∧ pb ys ≤ 32 * L) := ⟨pb_le hpa (by omega), pb_le hqa (by omega)⟩
  have hW1 : 1 ≤ wd zs ys := by unfold wd; omega
  have hW2 : wd zs ys ≤ K + L + 1 := wd_le HB.out.1 HB.out.2 (by omega) (by omega) (by omega)
  have HR : Hid (∀ t, 2 * ((ps zs ys n t).natAbs : Int) < pw (wd zs ys)) := by
    show ∀ t, 2 * ((ps zs ys n t).natAbs : Int) < pw (wd zs ys)
    intro t
    rw [← hzl]
    exact ps_room zs ys (by omega) (by omega) (by omega) t
  have HE : Hid ((∀ j, j < n → zl (gx zs j) ≤ wd zs ys) ∧ (∀ j, j < m → zl (gx ys j) ≤ wd zs ys)) := by
    refine ⟨fun j hj => ?_, fun j hj => ?_⟩
    · have := zb_pb zs j (by omega)
      unfold zl wd
      omega
    · have := zb_pb ys j (by omega)
      unfold zl wd
      omega
  have HZ : Hid (tlen zs = n ∧ tlen ys = m) := ⟨h.nrm, k.nrm⟩
  have g1 : ((n : Int) == 0) = false := by rw [beq_eq_false_iff_ne]; omega
  have g2 : ((m : Int) == 0) = false := by rw [beq_eq_false_iff_ne]; omega
  have g3 : ¬ (n : Int) = 0 := by omega
  have g4 : ¬ (m : Int) = 0 := by omega
  go_enter Tryz.func149, Tryz.ntmps149
  go_wp2_with fail
  refine (digitWidth_any hpa hqa (by omega) (by omega) (by omega) (by omega)).mono ?_
  rintro e w1 ⟨rfl, hb1⟩
  have h1 := rowsCost_any (h.below hb1) (k.below hb1) (by omega) (by omega) (by omega) (by omega)
  generalize hW : wd zs ys = W at *
  have HW : Hid (wd zs ys = W) := hW
  clear hW
  generalize hX : sl zs * sl ys + 80 * cnt zs * cnt ys = X at *
  clear hX
  go_wp2_with fail
  refine h1.mono ?_
  rintro e w2 ⟨rfl, hb2⟩
  clear h1
  go_wp2_with fail
  refine (packedCost_gen n m W w2 (by omega) (by omega) (by omega) hW1).mono ?_
  rintro e w3 ⟨⟨x, rfl⟩, hb3⟩
  have hb := bnext' (bnext' hb1 hb2) hb3
  by_cases hx : (X : Int) ≤ x
  · go_wp2_with fail
    refine (rows_gen (hpa.below hb) (hqa.below hb) (by omega) (by omega) hn1 hm1 hK hL).mono ?_
    rintro e w4 ⟨u, us, rfl, r1, r2, r3, r4, hb4⟩
    clear hpa hqa
    go_wp2
    go_ret
    have hs := hb.size
    refine ⟨u, n + m - 1, us, rfl, ⟨r1, by rw [length_mulz, hzl, hyl], ?_, r2, fun a ha => Nat.le_trans hs (r3 a ha), fun t ht => ?_⟩, bnext' hb hb4⟩
    · rw [mulz_top (by rw [HZ.out.1, hzl]) (by rw [HZ.out.2, hyl]) (by omega) (by omega), hzl, hyl]
    · rw [gx_mulz _ _ _ (by rw [hzl, hyl]; exact ht), hzl]
      exact (r4 t ht).mono hs
  · have hpp := packedProduct_any (h.below hb) (k.below hb) (by omega) (by omega) hn1 hm1 hW1 (by omega) HE.out.1 HE.out.2 HR.out (ps_lead hzl hyl HZ.out.1 HZ.out.2 hn1 hm1)
    clear hpa hqa
    go_wp2_with fail
    refine hpp.mono ?_
    rintro e w7 ⟨u7, us, rfl, r1, r2, r3, r4, hb7⟩
    have hs := hb.size
    clear hpp
    go_wp2
    go_ret
    refine ⟨u7, n + m - 1, us, rfl, ⟨r1, by rw [length_mulz, hzl, hyl], ?_, r2, fun a ha => Nat.le_trans hs (r3 a ha), fun t ht => ?_⟩, bnext' hb hb7⟩
    · rw [mulz_top (by rw [HZ.out.1, hzl]) (by rw [HZ.out.2, hyl]) (by omega) (by omega), hzl, hyl]
    · rw [gx_mulz _ _ _ (by rw [hzl, hyl]; exact ht), hzl]
      obtain ⟨xs, k1, k2, k3⟩ := (r4 t ht).mono hs
      exact ⟨xs, k1, k2, by omega⟩
set_option maxRecDepth 100000 in
theorem product_pkg {B C : Nat} {w : World} {K L : Nat} {p q : Option Addr} {n m : Nat} {es fs : List Ent} {zs ys : List Int} (h : PB B w K p n es zs) (k : PB C w L q m fs ys) (hn : n ≤ 80) (hm : m ≤ 80) (hK : K ≤ 400) (hL : L ≤ 400) (hd : K + L + 1 ≤ 800) :
    Calls Tryz.prog 149 #[.slice p n n, .slice q m m] w (PnP (mulp zs ys) (K + L + 1) w) := by
  rw [mulp, h.zl, k.zl]
  by_cases h0 : n = 0 ∨ m = 0
  · rw [if_pos h0]
    exact product_nil w _ p q n m n m (by omega) (by omega) h0
  · rw [if_neg h0]
    exact product_pg h k hn hm (by omega) (by omega) hK hL hd
set_option maxRecDepth 100000 in
theorem uMul_gen {w : World} {K L : Nat} {p q : Option Addr} {n nc m mc : Nat} {es fs : List Ent} {zs ys : List Int} (h : PA w K p n nc es zs) (k : PA w L q m mc fs ys) (hn : n ≤ 80) (hm : m ≤ 80) (hK : K ≤ 400) (hL : L ≤ 400) (hd : K + L + 1 ≤ 800) :
    Calls Tryz.prog 78 #[.slice p n nc, .slice q m mc] w (PnP (mulp (tr zs) (tr ys)) (K + L + 1) w) := by
  have hzl := h.zl
  have hyl := k.zl
  have htz := tlen_le zs
  have hty := tlen_le ys
  go_enter Tryz.func78, Tryz.ntmps78
  go_wp2_with fail
  refine (read_any K p n nc es zs _ h (by omega) (by omega)).mono ?_
  rintro e w1 ⟨p1, n1, es1, rfl, h1, hb1⟩
  go_wp2_with fail
  refine (read_any L q m mc fs ys _ (k.below hb1) (by omega) (by omega)).mono ?_
  rintro e w2 ⟨q1, m1, fs1, rfl, k1, hb2⟩
  have hn' := h1.zl
  have hm' := k1.zl
  rw [length_tr] at hn' hm'
  subst hn' hm'
  go_wp2_with fail
  refine (product_pkg (h1.below hb2) k1 (by omega) (by omega) hK hL hd).mono ?_
  rintro e w3 ⟨p3, n3, es3, rfl, h3, hb3⟩
  go_wp2
  go_ret
  exact PnP.from ⟨p3, n3, es3, rfl, h3, hb3⟩ (bnext' hb1 hb2)
end Go.Proofs.YtejnhpjejcpekaaGreatDoor
