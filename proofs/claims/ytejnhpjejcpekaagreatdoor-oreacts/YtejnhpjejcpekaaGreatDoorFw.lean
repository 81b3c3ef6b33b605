/-
  ore.dilate.
-/
import Derived.Test.YtejnhpjejcpekaaGreatDoorApEpGiGj
import Derived.LoopNIn
import Derived.LoopIn
namespace Go.Proofs.YtejnhpjejcpekaaGreatDoor
open Go.RowKit Go.Shelf
set_option linter.unusedVariables false
set_option linter.unusedSimpArgs false
set_option maxHeartbeats 8000000
set_option maxRecDepth 100000 in
theorem uTerms_at {w : World} {K : Nat} {p : Option Addr} {n nc : Nat} {es : List Ent} {zs : List Int} (h : PA w K p n nc es zs) (hn : n ≤ 1000000) (hK : K ≤ 1000) :
    Calls Tryz.prog 210 #[.slice p n nc] w fun r w' => ∃ g q m fs, w.heap.size ≤ g ∧ r = .returned (.func (.func 280) #[] #[.pointer (some ⟨g, 0, none⟩)]) ∧ w'.cell? ⟨g, 0, none⟩ = some (.slice q m m) ∧ PN w.heap.size w' K q m fs (tr zs) ∧ Below w.heap.size w w' := by
  go_enter Tryz.func210, Tryz.ntmps210
  go_wp2_with fail
  refine (uNorm_any K p n nc es zs _ h hn hK).mono ?_
  rintro r w1 ⟨q, m, fs, rfl, h1, hb1⟩
  have hal := bel_al (o := .cells #[.slice q m m] 23) (Below.refl w1.heap.size w1)
  have HF : Hid (PN w.heap.size (w1.alloc (.cells #[.slice q m m] 23)) K q m fs (tr zs) ∧ Below w.heap.size w (w1.alloc (.cells #[.slice q m m] 23))) := ⟨h1.below hal, bnext' hb1 hal⟩
  have hs := hb1.size
  clear h1
  go_wp2
  go_ret
  exact ⟨w1.heap.size, q, m, fs, hs, rfl, by simp [go_sem], HF.out⟩
def Ax.nv (B K : Nat) (z : Int) : Ax := ⟨fun _ v w => ∃ u, v = .agg #[.bool (Ent.s u), .slice u.p u.n u.c] ∧ NV B w K z u, fun ⟨u, a, h⟩ hb => ⟨u, a, h.below hb⟩, fun h _ => h, fun h _ => h⟩
theorem leave_one {F : Fence} {n : Nat} {P : Program} {fn : Func} {tmps : Array Value} {R : Ending → World → Prop} {D : Nat} {W : World} (h3 : W.heap[D]? = some (.deferred (some [])))
    (h : LeavesIn F n P fn tmps R [] .returning (W.putObj D (.deferred none))) : LeavesInM F n P fn tmps R [{ target := .collected D, args := #[] }] .returning W :=
  ⟨by simp, .inl ⟨D, _, rfl, run_takeDeferred h3, h⟩⟩
theorem idx_between {zs : List Int} {k m t : Nat} (h : idx zs k = idx zs m) (h1 : k ≤ t) (h2 : t < m) : gx zs t = 0 := by
  refine Classical.byContradiction fun hz => ?_
  have h3 : t ∈ idx zs m := (idx_mem ..).2 ⟨h2, hz⟩
  rw [← h, idx_mem] at h3
  omega
theorem dlz_len {q : Int} (zs : List Int) (hq : q ≠ 0) : (dlz q zs).length = tlen zs ∧ tlen (dlz q zs) = tlen zs := by
  have h : tlen ((List.range zs.length).map (dl q zs)) = tlen zs := by
    have hg : ∀ j, gx ((List.range zs.length).map (dl q zs)) j = gx zs j * q ^ j := fun j => by
      have := gx_dlz q zs j
      rw [dlz, gx_tr] at this
      rw [this, dl_pow]
    refine tlen_eq _ _ (fun j hj => ?_) ?_
    · rw [hg, tlen_zero zs j hj, Int.zero_mul]
    · rcases Nat.eq_zero_or_pos (tlen zs) with h0 | h0
      · exact .inl h0
      · refine .inr ?_
        rw [hg]
        exact Int.mul_ne_zero (tlen_top zs h0) (Int.pow_ne_zero hq)
  constructor
  · rw [dlz, length_tr, h]
  · rw [dlz, tlen_tr, h]
theorem hole_grow {lo base N : Nat} {A B : World} (hN : N ≤ A.heap.size) (h : Below A.heap.size A B) : Hole lo base N A B := by
  exact .of (h.mono hN)
attribute [local go_sem] Oper.semAt_some
set_option maxRecDepth 100000 in
theorem dilate_any {w : World} {K L : Nat} {p : Option Addr} {n nc : Nat} {es : List Ent} {zs : List Int} {q : Int} {e : Ent} (hP : PA w K p n nc es zs) (hq : EV w L q e) (hn : n ≤ 17) (hK : K ≤ 60) (hL : L ≤ 4) (hq0 : q ≠ 0) :
    Calls Tryz.prog 137 #[.slice p n nc, .agg #[.bool e.s, .slice e.p e.n e.c]] w (PnP (dlz q zs) (K + L * 17 + 1) w) := by
  have HX : Hid (PA w K p n nc es zs ∧ EV w L q e) := ⟨hP, hq⟩
  clear hP hq
  refine (callsIn_wide (n := 5)).1 ?_
  refine callsIn_of_wp_marks Tryz.func137 rfl trivial ?_ rfl
  simp only [Tryz.ntmps137, List.size_toArray, List.length_cons, List.length_nil, Nat.reduceAdd, Nat.reduceSub, Array.replicate_succ, Array.replicate_zero, List.push_toArray, List.append_toArray, List.nil_append, List.cons_append]
  gi_wp2_with fail
  have hW0 : Below w.heap.size w (w.alloc (.cells #[.bool e.s, .slice e.p e.n e.c] 26)) := (Below.refl _ _).alloc (Nat.le_refl _) _
  have hQ0 : (w.alloc (.cells #[.bool e.s, .slice e.p e.n e.c] 26)).heap[w.heap.size]? = some (.cells #[.bool e.s, .slice e.p e.n e.c] 26) := heap_alloc_new _ _
  generalize w.alloc (.cells #[.bool e.s, .slice e.p e.n e.c] 26) = W0 at *
  have hc := uDeg_any K p n nc es zs W0 (HX.out.1.below hW0) (by omega)
  refine ⟨trivial, (callsIn_wide.2 hc).mono ?_⟩
  rintro r w1 ⟨rfl, hb1⟩
  have hB1 := bnext' hW0 hb1
  have hQ1 := (hb1.block _ (Array.getElem?_eq_some_iff.1 hQ0).1).trans hQ0
  have htl : tlen zs ≤ 17 := by have h1 := tlen_le zs; have h2 := HX.out.1.zl; omega
  clear hc hb1 hW0 hQ0
  have v1 : wrap64 ((tlen zs : Int) - 1 + 1) = (tlen zs : Int) := by unfold wrap64; omega
  obtain ⟨m, hm⟩ : ∃ m, tlen zs = m := ⟨_, rfl⟩
  rw [hm] at v1 htl ⊢
  have HM : Hid (tlen zs = m) := hm
  clear hm
  have hmk := mk_poly m (by omega) w1
  have hR2 : Row2 (w1.alloc (.cells (ca2 (ezs m)) 26)) w1.heap.size 26 (ezs m) := Row2.new _ _ _
  have hal : Below w1.heap.size w1 (w1.alloc (.cells (ca2 (ezs m)) 26)) := (Below.refl _ _).alloc (Nat.le_refl _) _
  have hsz2 : (w1.alloc (.cells (ca2 (ezs m)) 26)).heap.size = w1.heap.size + 1 := by simp
  gi_wp2_with fail
  generalize w1.alloc (.cells (ca2 (ezs m)) 26) = W2 at *
  clear hmk
  have hO2 : (W2.alloc (.cells #[.slice (some ⟨w1.heap.size, 0, none⟩) m m] 23)).heap[W2.heap.size]? = some (.cells #[.slice (some ⟨w1.heap.size, 0, none⟩) m m] 23) := heap_alloc_new _ _
  have hal2 : Below W2.heap.size W2 (W2.alloc (.cells #[.slice (some ⟨w1.heap.size, 0, none⟩) m m] 23)) := (Below.refl _ _).alloc (Nat.le_refl _) _
  have hsW2 : W2.heap.size = w1.heap.size + 1 := hsz2
  rw [hsW2] at hO2
  generalize W2.alloc (.cells #[.slice (some ⟨w1.heap.size, 0, none⟩) m m] 23) = W3 at *
  have hc := Of_e 1 W3 (by decide) (by decide)
  refine ⟨trivial, (callsIn_wide.2 hc).mono ?_⟩
  rintro r w4 ⟨u, rfl, hu, hb4⟩
  clear hc
  gi_wp2_with fail
  have hp5 : ((w4.alloc (.cells #[.bool u.s, .slice u.p u.n u.c] 26)).alloc (.cells #[.int .i64 0] 3)).heap[w4.heap.size]? = some (.cells #[.bool u.s, .slice u.p u.n u.c] 26) := (Below.heap_alloc _ _ _ (by simp)).trans (heap_alloc_new _ _)
  have ha5 : ((w4.alloc (.cells #[.bool u.s, .slice u.p u.n u.c] 26)).alloc (.cells #[.int .i64 0] 3)).heap[w4.heap.size + 1]? = some (.cells #[.int .i64 0] 3) := by have := heap_alloc_new (w4.alloc (.cells #[.bool u.s, .slice u.p u.n u.c] 26)) (.cells #[.int .i64 0] 3); rwa [World.size_alloc] at this
  have hal5 : Below w4.heap.size w4 ((w4.alloc (.cells #[.bool u.s, .slice u.p u.n u.c] 26)).alloc (.cells #[.int .i64 0] 3)) := ((Below.refl _ _).alloc (Nat.le_refl _) _).alloc (by simp) _
  have hs5 : ((w4.alloc (.cells #[.bool u.s, .slice u.p u.n u.c] 26)).alloc (.cells #[.int .i64 0] 3)).heap.size = w4.heap.size + 2 := by simp
  generalize (w4.alloc (.cells #[.bool u.s, .slice u.p u.n u.c] 26)).alloc (.cells #[.int .i64 0] 3) = W5 at *
  have hB5 : Below w1.heap.size w1 W5 := bnext' hal (bnext' hal2 (bnext' hb4 hal5))
  have hc := uTerms_at ((HX.out.1.below hB1).below hB5) (by omega) (by omega)
  refine ⟨trivial, (callsIn_wide.2 hc).mono ?_⟩
  rintro r w6 ⟨g6, q6, m6, fs6, hg6, rfl, c6, hN6, hb6⟩
  obtain rfl : m6 = m := by rw [← hN6.zl, length_tr, HM.out]
  clear hc
  have hB6 := bnext' hB1 (bnext' hB5 hb6)
  have hd : w.heap.size ≤ w.heap.size ∧ w.heap.size < w1.heap.size ∧ w1.heap.size < w1.heap.size + 1 ∧ w1.heap.size + 1 < w4.heap.size ∧ w4.heap.size < w4.heap.size + 1 := by
    have e1 := (Array.getElem?_eq_some_iff.1 hQ1).1
    have e2 := hb4.size
    have e3 := (Array.getElem?_eq_some_iff.1 hO2).1
    omega
  have hI0 : DI w w.heap.size w1.heap.size (w1.heap.size + 1) w4.heap.size (w4.heap.size + 1) e q L K m6 w6.heap.size (tr zs) [] w6 := by
    have s1 := hb4.size
    have b26 : Below W2.heap.size W2 w6 := bnext' hal2 (bnext' hb4 (bnext' hal5 hb6))
    have b36 : Below W3.heap.size W3 w6 := bnext' hb4 (bnext' hal5 hb6)
    have hr6 : Row2 w6 w1.heap.size 26 (ezs m6) := hR2.below b26 (by omega)
    have hq6 : w6.heap[w.heap.size]? = some (.cells #[.bool e.s, .slice e.p e.n e.c] 26) := ((bnext' hB5 hb6).block _ (by omega)).trans hQ1
    refine ⟨0, 0, u, ezs m6, ⟨hB6, hq6, (b36.block _ (Array.getElem?_eq_some_iff.1 hO2).1).trans hO2, (hb6.block _ (Array.getElem?_eq_some_iff.1 hp5).1).trans hp5, (hb6.block _ (Array.getElem?_eq_some_iff.1 ha5).1).trans ha5, hr6, by simp [ezs], ?_, fun j hj => ?_⟩, Nat.le_refl _, .inl rfl, rfl, rfl, Nat.zero_le _⟩
    · have h1 : NV w.heap.size w6 2 1 u := (hu.below (bnext' hal5 hb6)).mono (by have := hal2.size; have := hal.size; omega)
      have h2 := h1.le (M := L * 0 + 1) (by rw [Nat.mul_zero]; decide)
      rwa [Int.pow_zero]
    · rw [if_neg (by omega), show ge (ezs m6) j = ez by simp [ge, ezs, hj]]
      exact NV.ez _ _ _
  have hpa : ∀ W, Hole w.heap.size (w4.heap.size + 2) w6.heap.size w6 W → PA W K q6 m6 m6 fs6 (tr zs) := fun W hW => by
    have h1 := hN6.kp (lo := w.heap.size) (base := w4.heap.size + 2) ⟨hW.os, hW.tape, hW.output, hW.size, hW.block⟩ (by omega)
    exact h1.pa (by omega) (by omega)
  have hcg : ∀ W, Hole w.heap.size (w4.heap.size + 2) w6.heap.size w6 W → W.cell? ⟨g6, 0, none⟩ = some (.slice q6 m6 m6) := fun W hW => (World.cell?_of_block (a := ⟨g6, 0, none⟩) (hW.block g6 (block_lt_of_cell c6) (.inr (by omega)))).trans c6
  gi_wp2_with fail
  refine range_hole (w0 := w6) (lo := w.heap.size) (base := w4.heap.size + 2) rfl (by decide) (gf := 280) (lb := #[.pointer (some ⟨g6, 0, none⟩)]) rfl trivial (enters_of Tryz.func280 (by kernel_rfl) rfl)
    (encs := fun x : Nat × Ent => #[Value.int .i64 ((x.1 : Nat) : Int), .agg #[.bool x.2.s, .slice x.2.p x.2.n x.2.c]]) (T := Told (tr zs) m6 K (w4.heap.size + 2)) (S := fun ys => ys.map (·.1) = idx (tr zs) m6)
    (fun l J Jx hJ hY W hW hs h0 => terms1_hole (5 - 1) (by decide) l g6 (w4.heap.size + 2) w.heap.size (w4.heap.size + 2) w6 hpa (by omega) (by omega) J Jx hJ hY W hW (Nat.le_trans (by have := hb6.size; omega) hs) (hcg W hW) h0)
    (Hole.refl _ _ _ _) (fun _ => rfl) (DI w w.heap.size w1.heap.size (w1.heap.size + 1) w4.heap.size (w4.heap.size + 1) e q L K m6 w6.heap.size (tr zs)) (fun c pre U => False)
    (DA w w.heap.size w1.heap.size (w1.heap.size + 1) w4.heap.size (w4.heap.size + 1) e q L K m6 w6.heap.size (tr zs) (w4.heap.size + 2)) (DI.own hB6.size) (fun c pre A B row h hg hr => h.elim) (DA.own hB6.size) hI0 ?A ?assign ?body ?done ?stop
  case stop => intro D c pre W _ h; exact h.elim
  case done =>
    intro D xs' W hDs hS hI hdf
    obtain ⟨k, i, up, es', hD, hN0, hBh, hpre, hik, hkm⟩ := hI
    have o0 : W.cell? ⟨w1.heap.size + 1, 0, none⟩ = some (.slice (some ⟨w1.heap.size, 0, none⟩) m6 m6) := by simp only [World.cell?]; rw [hD.ho]; rfl
    have HD : Hid (DiV w w.heap.size w1.heap.size (w1.heap.size + 1) w4.heap.size (w4.heap.size + 1) e q L K m6 k i (tr zs) up es' W ∧ idx (tr zs) k = idx (tr zs) m6 ∧ k ≤ m6) := ⟨hD, hpre.symm.trans hS, hkm⟩
    clear hD hik
    gi_wp2
    refine leave_one hdf ?_
    refine ⟨.slice (some ⟨w1.heap.size, 0, none⟩) m6 m6, by simp [results, Tryz.results137, go_sem], ?_⟩
    have hg := grownBy_putObj' W D (.deferred none)
    have hwD : w.heap.size ≤ D := Nat.le_trans hB6.size hDs
    obtain ⟨hD, hix, hkm⟩ := HD.out
    have hbw : Below w.heap.size w (W.putObj D (.deferred none)) := hD.bw.trans ((Below.refl w.heap.size W).grown hg (by have := hD.bw.size; omega) (fun k e => by cases e; exact hwD))
    have hE := hD.held hbw hg (fun r e => by cases e; exact ⟨_, hdf, rfl⟩)
    obtain ⟨h1, h2⟩ := dlz_len zs hq0
    rw [HM.out] at h1 h2
    refine ⟨some ⟨w1.heap.size, 0, none⟩, m6, es', rfl, ⟨hE.el, h1, h2, hE.hr.pl, fun a ha => by cases ha; show w.heap.size ≤ w1.heap.size; omega, fun j hj => ?_⟩, hbw⟩
    have h3 := hE.ev j hj
    rw [gx_dlz, dl_pow, ← gx_tr, ← dl_pow]
    rcases Nat.lt_or_ge j k with hjk | hjk
    · rwa [if_pos hjk] at h3
    · rw [if_neg (by omega)] at h3
      rw [dl_pow, idx_between hix hjk hj, Int.zero_mul]
      exact h3
  case assign =>
    intro l pre x W K' hI hT hK'
    gi_wp2_with fail
    have hsW : w4.heap.size + 2 ≤ W.heap.size := by
      obtain ⟨k, i, up, es', hD, -⟩ := hI
      have := (Array.getElem?_eq_some_iff.1 hD.ha).1
      omega
    have hsN : w6.heap.size ≤ W.heap.size := by
      obtain ⟨k, i, up, es', hD, h9, -⟩ := hI
      exact h9
    have hal := bel_al (o := .cells #[.bool x.2.s, .slice x.2.p x.2.n x.2.c] 26) (Below.refl W.heap.size W)
    have := hK' W.heap.size _ ⟨hI.later hal, ⟨hT.1, hT.2.1, hT.2.2.1, hT.2.2.2.below hal⟩, heap_alloc_new _ _, hsW⟩ (KeepsOthers.alloc W _) (hole_grow hsN hal)
    obtain ⟨b, hb⟩ : ∃ b, b = W.heap.size := ⟨_, rfl⟩
    rw [← hb] at this ⊢
    exact this
  case body =>
    intro l pre x b Wb hA
    obtain ⟨⟨k, i, up, es', hD, hN0, hBh, hpre, hik, hkm⟩, ⟨hT1, hT2, hT3, hT4⟩, hbx, hbb⟩ := hA
    obtain ⟨xj, xe⟩ := x
    dsimp only at hT1 hT2 hT3 hT4 hbx ⊢
    have hkj : k ≤ xj := hBh.le (hpre.symm.trans hT1)
    have p0 : Wb.cell? ⟨w4.heap.size, 0, none⟩ = some (.bool up.s) := by simp only [World.cell?]; rw [hD.hp]; rfl
    have p1 : Wb.cell? ⟨w4.heap.size, 1, none⟩ = some (.slice up.p up.n up.c) := by simp only [World.cell?]; rw [hD.hp]; rfl
    have q0 : Wb.cell? ⟨w.heap.size, 0, none⟩ = some (.bool e.s) := by simp only [World.cell?]; rw [hD.hq]; rfl
    have q1 : Wb.cell? ⟨w.heap.size, 1, none⟩ = some (.slice e.p e.n e.c) := by simp only [World.cell?]; rw [hD.hq]; rfl
    have a0 : Wb.cell? ⟨w4.heap.size + 1, 0, none⟩ = some (.int .i64 i) := by simp only [World.cell?]; rw [hD.ha]; rfl
    obtain ⟨d, hdd⟩ : ∃ d, xj = i + d := ⟨xj - i, by omega⟩
    have hvd : IntKind.i64.wrap ((xj : Int) - (i : Int)) = (d : Int) := by rw [IntKind.wrap_i64]; omega
    have hqb : (q.natAbs : Int) < pw L := HX.out.2.bd
    have hra := fun v (hb : Below Wb.heap.size Wb v) => raise_any (w := v) (n := d) ((HX.out.2.below hD.bw).below hb) hL (by omega)
    have hi17 : i ≤ 17 := by omega
    have hd17 : d ≤ 17 := by omega
    have HDD : Hid (xj = i + d ∧ i = k - 1) := ⟨hdd, hik⟩
    clear hdd hik
    gi_wp2_with fail
    refine regionIn_openX 7 [(0, 19), (1, 20), (2, 21), (3, 22), (4, 23), (5, 24), (6, 25)] [] []
      [Ax.val (.agg #[.bool up.s, .slice up.p up.n up.c]), Ax.val (.agg #[.bool e.s, .slice e.p e.n e.c]), Ax.val (.int .i64 xj), Ax.val (.int .i64 i), Ax.val (.int .i64 d), Ax.nv w.heap.size (L * d + 1) (q ^ d), Ax.nv w.heap.size (L * xj + 1) (q ^ xj)]
      (by kernel_rfl) (by kernel_rfl) (by kernel_rfl) trivial (by kernel_rfl) (by decide) (by decide) (by rfl) ?_ ?_
    · refine ⟨fun _ => ?_, fun _ => ?_, fun _ => ?_, fun _ => ?_, fun _ => ?_, fun _ => ?_, fun _ => ?_, fun h => absurd h (by decide), trivial⟩
      · exact oxi_pure (fun _ => trivial) rfl fun X ρ v R => by
          have e6 : ρ (.tmp 6) = .pointer (some ⟨w4.heap.size, 0, none⟩) := R.old 6 (by decide)
          have x0 := cell_later R.b p0
          have x1 := cell_later R.b p1
          exact ⟨_, by simp [execOp, go_sem, e6, x0, x1], rfl⟩
      · exact oxi_pure (fun _ => trivial) rfl fun X ρ v R => by
          have e3 : ρ (.tmp 3) = .pointer (some ⟨w.heap.size, 0, none⟩) := R.old 3 (by decide)
          have x0 := cell_later R.b q0
          have x1 := cell_later R.b q1
          exact ⟨_, by simp [execOp, go_sem, e3, x0, x1], rfl⟩
      · exact oxi_pure (fun _ => trivial) rfl fun X ρ v R => ⟨_, by simp [execOp, go_sem], R.old 8 (by decide)⟩
      · exact oxi_pure (fun _ => trivial) rfl fun X ρ v R => by
          have e7 : ρ (.tmp 7) = .pointer (some ⟨w4.heap.size + 1, 0, none⟩) := R.old 7 (by decide)
          have x0 := cell_later R.b a0
          exact ⟨_, by simp [execOp, go_sem, e7, x0], rfl⟩
      · exact oxi_pure (fun _ => trivial) rfl fun X ρ v R => by
          have e21 : ρ (.tmp 21) = .int .i64 xj := R.dep 2 21 (by decide) rfl rfl
          have e22 : ρ (.tmp 22) = .int .i64 i := R.dep 3 22 (by decide) rfl rfl
          exact ⟨_, by simp [execOp, go_sem, e21, e22, hvd], rfl⟩
      · exact oxi_call (fun _ => trivial) 211 rfl (fun _ => by decide) fun X ρ v R => by
          have e20 : ρ (.tmp 20) = .agg #[.bool e.s, .slice e.p e.n e.c] := R.dep 1 20 (by decide) rfl rfl
          have e23 : ρ (.tmp 23) = .int .i64 d := R.dep 4 23 (by decide) rfl rfl
          refine ⟨_, by simp [execOp, go_sem, e20, e23, R.fn], (CallsIn.inRound l (callsIn_wide.2 (hra v R.b))).mono ?_⟩
          rintro r w' ⟨f, rfl, hf, hb'⟩
          exact ⟨_, rfl, ⟨f, rfl, hf.mono (Nat.le_trans hD.bw.size R.b.size)⟩, hb'⟩
      · exact oxi_call (fun _ => trivial) 115 rfl (fun _ => by decide) fun X ρ v R => by
          have e19 : ρ (.tmp 19) = .agg #[.bool up.s, .slice up.p up.n up.c] := R.dep 0 19 (by decide) rfl rfl
          obtain ⟨f, e24, hf⟩ := R.dep 5 24 (by decide) rfl rfl
          have hLi : L * i ≤ 68 := Nat.le_trans (Nat.mul_le_mul hL hi17) (by decide)
          have hLd : L * d ≤ 68 := Nat.le_trans (Nat.mul_le_mul hL hd17) (by decide)
          refine ⟨_, by simp [execOp, go_sem, e19, e24, R.fn], (CallsIn.inRound l (callsIn_wide.2 (Mul_ev ((hD.pv.below R.b).ev (by omega)) (hf.ev (by omega)) (by omega)))).mono ?_⟩
          rintro r w' ⟨u2, rfl, hu2, hb'⟩
          have e9 : q ^ i * q ^ d = q ^ xj := by rw [HDD.out.1, Int.pow_add]
          rw [e9] at hu2
          exact ⟨_, rfl, ⟨u2, rfl, (hu2.le (pow_bd1 hqb xj)).mono (Nat.le_trans hD.bw.size R.b.size)⟩, hb'⟩
    intro vals U1 hbU hv
    have e_0 : vals 0 = _ := hv (0, 19) (by decide)
    have e_1 : vals 1 = _ := hv (1, 20) (by decide)
    have e_2 : vals 2 = _ := hv (2, 21) (by decide)
    have e_3 : vals 3 = _ := hv (3, 22) (by decide)
    have e_4 : vals 4 = _ := hv (4, 23) (by decide)
    obtain ⟨f2, e_5, hf2⟩ := hv (5, 24) (by decide)
    obtain ⟨u2, e_6, hu2⟩ := hv (6, 25) (by decide)
    refine endsIn_some rfl ?_
    simp only [List.foldl, e_0, e_1, e_2, e_3, e_4, e_5, e_6, List.setIfInBounds_toArray, List.set_cons_succ, List.set_cons_zero]
    clear hv e_0 e_1 e_2 e_3 e_4 e_5 e_6
    have hD1 := hD.later hbU
    have s0 : U1.cell? ⟨w4.heap.size, 0, none⟩ = some (.bool up.s) := cell_later hbU p0
    have s1 : U1.cell? ⟨w4.heap.size, 1, none⟩ = some (.slice up.p up.n up.c) := cell_later hbU p1
    have z0 := frozen_of_row U1 _ 0 _ _ hD1.hp
    have z1 := frozen_of_row U1 _ 1 _ _ hD1.hp
    refine ⟨fun _ _ => trivial, ?_⟩
    simp [execOp, go_sem, s0, s1, z0, z1]
    have hMv := hD1.move (j := xj) hd hu2
    have ha2 : ((U1.setCell ⟨w4.heap.size, 0, none⟩ (.bool u2.s)).setCell ⟨w4.heap.size, 1, none⟩ (.slice u2.p u2.n u2.c)).heap[w4.heap.size + 1]? = some (.cells #[.int .i64 i] 3) := (heap_setCell_other _ ⟨w4.heap.size, 1, none⟩ (w4.heap.size + 1) _ (by show _ ≠ w4.heap.size; omega)).trans ((heap_setCell_other _ ⟨w4.heap.size, 0, none⟩ (w4.heap.size + 1) _ (by show _ ≠ w4.heap.size; omega)).trans hD1.ha)
    have hH2 : Hole w.heap.size (w4.heap.size + 2) w6.heap.size Wb (((U1.setCell ⟨w4.heap.size, 0, none⟩ (.bool u2.s)).setCell ⟨w4.heap.size, 1, none⟩ (.slice u2.p u2.n u2.c)).setCell ⟨w4.heap.size + 1, 0, none⟩ (.int .i64 xj)) := (((hole_grow hN0 hbU).set ⟨w4.heap.size, 0, none⟩ _ (.inl ⟨by show _ ≤ w4.heap.size; omega, by show w4.heap.size < _; omega⟩)).set ⟨w4.heap.size, 1, none⟩ _ (.inl ⟨by show _ ≤ w4.heap.size; omega, by show w4.heap.size < _; omega⟩)).set ⟨w4.heap.size + 1, 0, none⟩ _ (.inl ⟨by show _ ≤ w4.heap.size + 1; omega, by show w4.heap.size + 1 < _; omega⟩)
    have hO2' : KeepsOthers Wb (((U1.setCell ⟨w4.heap.size, 0, none⟩ (.bool u2.s)).setCell ⟨w4.heap.size, 1, none⟩ (.slice u2.p u2.n u2.c)).setCell ⟨w4.heap.size + 1, 0, none⟩ (.int .i64 xj)) := (((keeps_below' hbU).trans (KeepsOthers.setCell _ _ _)).trans (KeepsOthers.setCell _ _ _)).trans (KeepsOthers.setCell _ _ _)
    have hx2 : (((U1.setCell ⟨w4.heap.size, 0, none⟩ (.bool u2.s)).setCell ⟨w4.heap.size, 1, none⟩ (.slice u2.p u2.n u2.c)).setCell ⟨w4.heap.size + 1, 0, none⟩ (.int .i64 xj)).heap[b]? = some (.cells #[.bool xe.s, .slice xe.p xe.n xe.c] 26) := (heap_setCell_other _ ⟨w4.heap.size + 1, 0, none⟩ b _ (by show _ ≠ w4.heap.size + 1; omega)).trans ((heap_setCell_other _ ⟨w4.heap.size, 1, none⟩ b _ (by show _ ≠ w4.heap.size; omega)).trans ((heap_setCell_other _ ⟨w4.heap.size, 0, none⟩ b _ (by show _ ≠ w4.heap.size; omega)).trans ((hbU.block b (Array.getElem?_eq_some_iff.1 hbx).1).trans hbx)))
    have hc1 := hT4.below hbU
    have hc2 : NV (w4.heap.size + 2) (((U1.setCell ⟨w4.heap.size, 0, none⟩ (.bool u2.s)).setCell ⟨w4.heap.size, 1, none⟩ (.slice u2.p u2.n u2.c)).setCell ⟨w4.heap.size + 1, 0, none⟩ (.int .i64 xj)) K (gx (tr zs) xj) xe := NV_st3 hc1.frm (by show w4.heap.size + 1 < _; omega) (NV_st3 hc1.frm (by show w4.heap.size < _; omega) (NV_st3 hc1.frm (by show w4.heap.size < _; omega) hc1))
    have z2 : ((U1.setCell ⟨w4.heap.size, 0, none⟩ (.bool u2.s)).setCell ⟨w4.heap.size, 1, none⟩ (.slice u2.p u2.n u2.c)).cell? ⟨w4.heap.size + 1, 0, none⟩ = some (.int .i64 i) := by simp only [World.cell?]; rw [ha2]; rfl
    have z3 := frozen_of_row _ _ 0 _ _ ha2
    clear hD hD1 s0 s1 z0 z1 hra hbx p0 p1 q0 q1 a0 hf2 hu2 ha2 hT4 hc1
    gi_wp2_with fail
    generalize ((U1.setCell ⟨w4.heap.size, 0, none⟩ (.bool u2.s)).setCell ⟨w4.heap.size, 1, none⟩ (.slice u2.p u2.n u2.c)).setCell ⟨w4.heap.size + 1, 0, none⟩ (.int .i64 xj) = U3 at *
    have hel := hMv.el
    have o0 : U3.cell? ⟨w1.heap.size + 1, 0, none⟩ = some (.slice (some ⟨w1.heap.size, 0, none⟩) m6 m6) := by simp only [World.cell?]; rw [hMv.ho]; rfl
    have x0 : U3.cell? ⟨b, 0, none⟩ = some (.bool xe.s) := by simp only [World.cell?]; rw [hx2]; rfl
    have x1 : U3.cell? ⟨b, 1, none⟩ = some (.slice xe.p xe.n xe.c) := by simp only [World.cell?]; rw [hx2]; rfl
    have p0 : U3.cell? ⟨w4.heap.size, 0, none⟩ = some (.bool u2.s) := by simp only [World.cell?]; rw [hMv.hp]; rfl
    have p1 : U3.cell? ⟨w4.heap.size, 1, none⟩ = some (.slice u2.p u2.n u2.c) := by simp only [World.cell?]; rw [hMv.hp]; rfl
    have i1 : (xj : Int) < (m6 : Int) := by omega
    have hLj : L * xj ≤ 68 := Nat.le_trans (Nat.mul_le_mul hL (show xj ≤ 17 by omega)) (by decide)
    have hLk : L * xj ≤ L * 17 := Nat.mul_le_mul_left L (by omega)
    have hmu := fun v (hb : Below U3.heap.size U3 v) => Mul_ev (w := v) ((hc2.below hb).ev (by omega)) ((hMv.pv.below hb).ev (by omega)) (by omega)
    have hdl : gx (tr zs) xj * q ^ xj = dl q (tr zs) xj := (dl_pow q (tr zs) xj).symm
    rw [hdl] at hmu
    refine regionIn_openX 6 [(0, 27), (1, 28), (2, 29), (3, 30), (4, 31), (5, 32)] [] []
      [Ax.val (.slice (some ⟨w1.heap.size, 0, none⟩) m6 m6), Ax.val (.int .i64 xj), Ax.val (.agg #[.bool xe.s, .slice xe.p xe.n xe.c]), Ax.val (.agg #[.bool u2.s, .slice u2.p u2.n u2.c]), Ax.nv w.heap.size (K + L * 17 + 1) (dl q (tr zs) xj), Ax.val (.pointer (some ⟨w1.heap.size, xj * 2, none⟩))]
      (by kernel_rfl) (by kernel_rfl) (by kernel_rfl) trivial (by kernel_rfl) (by decide) (by decide) (by rfl) ?_ ?_
    · refine ⟨fun _ => ?_, fun _ => ?_, fun _ => ?_, fun _ => ?_, fun _ => ?_, fun _ => ?_, fun h => absurd h (by decide), trivial⟩
      · exact oxi_pure (fun _ => trivial) rfl fun X ρ v R => by
          have e5 : ρ (.tmp 5) = .pointer (some ⟨w1.heap.size + 1, 0, none⟩) := R.old 5 (by decide)
          have y0 := cell_later R.b o0
          exact ⟨_, by simp [execOp, go_sem, e5, y0], rfl⟩
      · exact oxi_pure (fun _ => trivial) rfl fun X ρ v R => ⟨_, by simp [execOp, go_sem], R.old 8 (by decide)⟩
      · exact oxi_pure (fun _ => trivial) rfl fun X ρ v R => by
          have e9 : ρ (.tmp 9) = .pointer (some ⟨b, 0, none⟩) := R.old 9 (by decide)
          have y0 := cell_later R.b x0
          have y1 := cell_later R.b x1
          exact ⟨_, by simp [execOp, go_sem, e9, y0, y1], rfl⟩
      · exact oxi_pure (fun _ => trivial) rfl fun X ρ v R => by
          have e6 : ρ (.tmp 6) = .pointer (some ⟨w4.heap.size, 0, none⟩) := R.old 6 (by decide)
          have y0 := cell_later R.b p0
          have y1 := cell_later R.b p1
          exact ⟨_, by simp [execOp, go_sem, e6, y0, y1], rfl⟩
      · exact oxi_call (fun _ => trivial) 115 rfl (fun _ => by decide) fun X ρ v R => by
          have e29 : ρ (.tmp 29) = .agg #[.bool xe.s, .slice xe.p xe.n xe.c] := R.dep 2 29 (by decide) rfl rfl
          have e30 : ρ (.tmp 30) = .agg #[.bool u2.s, .slice u2.p u2.n u2.c] := R.dep 3 30 (by decide) rfl rfl
          refine ⟨_, by simp [execOp, go_sem, e29, e30, R.fn], (CallsIn.inRound l (callsIn_wide.2 (hmu v R.b))).mono ?_⟩
          rintro r w' ⟨f, rfl, hf, hb'⟩
          refine ⟨_, rfl, ⟨f, rfl, ?_⟩, hb'⟩
          obtain ⟨ys, f1, f2, f3⟩ := hf.mono (Nat.le_trans hMv.bw.size R.b.size)
          exact ⟨ys, f1, f2, by omega⟩
      · exact oxi_pure (fun _ => trivial) rfl fun X ρ v R => by
          have e27 : ρ (.tmp 27) = .slice (some ⟨w1.heap.size, 0, none⟩) m6 m6 := R.dep 0 27 (by decide) rfl rfl
          have e28 : ρ (.tmp 28) = .int .i64 xj := R.dep 1 28 (by decide) rfl rfl
          exact ⟨.pointer (some ⟨w1.heap.size, xj * 2, none⟩), by simp [execOp, go_sem, e27, e28, i1, Addr.add]; try omega, rfl⟩
    intro vals U4 hbU4 hv
    have e_0 : vals 0 = _ := hv (0, 27) (by decide)
    have e_1 : vals 1 = _ := hv (1, 28) (by decide)
    have e_2 : vals 2 = _ := hv (2, 29) (by decide)
    have e_3 : vals 3 = _ := hv (3, 30) (by decide)
    obtain ⟨u3, e_4, hu3⟩ := hv (4, 31) (by decide)
    have e_5 : vals 5 = _ := hv (5, 32) (by decide)
    refine endsIn_some rfl ?_
    simp only [List.foldl, e_0, e_1, e_2, e_3, e_4, e_5, List.setIfInBounds_toArray, List.set_cons_succ, List.set_cons_zero]
    clear hv e_0 e_1 e_2 e_3 e_4 e_5
    have hD4 := hMv.later hbU4
    obtain ⟨s0, s1⟩ := hD4.hr.cell xj (by omega)
    have z0 := hD4.hr.frozen (xj * 2)
    have z1 := hD4.hr.frozen (xj * 2 + 1)
    refine ⟨fun _ _ => trivial, ?_⟩
    simp [execOp, go_sem, s0, s1, z0, z1]
    have hP4 := hD4.put hd hT2 hkj (fun t h1 h2 => by rw [dl_pow, idx_between (hpre.symm.trans hT1) h1 h2, Int.zero_mul]) hu3
    have hH5 := (hH2.trans (hole_grow (Nat.le_trans hN0 hH2.size) hbU4)).set ⟨w1.heap.size, xj * 2, none⟩ (.bool u3.s) (.inl ⟨by show _ ≤ w1.heap.size; omega, by show w1.heap.size < _; omega⟩)
    have hH6 := hH5.set ⟨w1.heap.size, xj * 2 + 1, none⟩ (.slice u3.p u3.n u3.c) (.inl ⟨by show _ ≤ w1.heap.size; omega, by show w1.heap.size < _; omega⟩)
    have hO6 : KeepsOthers Wb ((U4.setCell ⟨w1.heap.size, xj * 2, none⟩ (.bool u3.s)).setCell ⟨w1.heap.size, xj * 2 + 1, none⟩ (.slice u3.p u3.n u3.c)) := ((hO2'.trans (keeps_below' hbU4)).trans (KeepsOthers.setCell _ _ _)).trans (KeepsOthers.setCell _ _ _)
    have HE : Hid (KeepsOthers Wb ((U4.setCell ⟨w1.heap.size, xj * 2, none⟩ (.bool u3.s)).setCell ⟨w1.heap.size, xj * 2 + 1, none⟩ (.slice u3.p u3.n u3.c)) ∧ Hole w.heap.size (w4.heap.size + 2) w6.heap.size Wb ((U4.setCell ⟨w1.heap.size, xj * 2, none⟩ (.bool u3.s)).setCell ⟨w1.heap.size, xj * 2 + 1, none⟩ (.slice u3.p u3.n u3.c)) ∧ DI w w.heap.size w1.heap.size (w1.heap.size + 1) w4.heap.size (w4.heap.size + 1) e q L K m6 w6.heap.size (tr zs) (pre ++ [(xj, xe)]) ((U4.setCell ⟨w1.heap.size, xj * 2, none⟩ (.bool u3.s)).setCell ⟨w1.heap.size, xj * 2 + 1, none⟩ (.slice u3.p u3.n u3.c))) :=
      ⟨hO6, hH6, xj + 1, xj, u2, es'.set xj u3, hP4, Nat.le_trans hN0 hH6.size, .inr ⟨xj, rfl, hT3⟩, by rw [List.map_append, hT1, idx_succ, if_neg hT3]; rfl, rfl, hT2⟩
    clear hP4 hH5 hH6 hO6 hH2 hO2' hMv hD4 hc2 hx2 s0 s1 z0 z1 hu3 hmu o0 x0 x1 p0 p1
    gi_wp2
    exact HE.out
end Go.Proofs.YtejnhpjejcpekaaGreatDoor
