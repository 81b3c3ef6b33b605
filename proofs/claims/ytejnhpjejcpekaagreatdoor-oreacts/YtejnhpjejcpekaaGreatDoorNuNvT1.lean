/-
  ore.letterTimes.
-/
import Derived.Test.YtejnhpjejcpekaaGreatDoorS1AqNrNsNt
import Derived.Test.YtejnhpjejcpekaaGreatDoorAdDtAgAiVdRtDhVeRsVfVcAjDrBmBqDuAkAl
import Derived.Deep.DeepFit
import Derived.Test.YtejnhpjejcpekaaGreatDoorHxCbNgNk
namespace Go.Proofs.YtejnhpjejcpekaaGreatDoor
open Go.RowKit
set_option linter.unusedVariables false
set_option linter.unusedSimpArgs false
set_option maxHeartbeats 8000000
def LXz (al y : Int) (b : List (List Int)) : List (List Int) := opz (· + ·) ([] :: otr (omp (SGM al y) b)) (otr (omp (DLM al) b))
theorem ez_none (w : World) (K E B T : Nat) : EZ K E w B T [] ⟨none, 0, 0⟩ := ⟨[], ⟨rfl, rfl, Nat.le_refl _, Nat.zero_le _, fun _ => rfl, PL.nil, fun j hj => absurd hj (Nat.not_lt_zero _)⟩, Nat.zero_le _, (fun a ha => nomatch ha), fun j hj => absurd hj (Nat.not_lt_zero _)⟩
theorem raised_row {w w2 w3 : World} {K E m B gr cap : Nat} {l : List (List Int)} {q : Option Addr} {hs : List Hdr} (hN : NO B w2 K E l q m hs) (hK : K ≤ 1000) (hE : E ≤ 1000000) (hm : m ≤ 900) (hB : w.heap.size < B) (hBs : B ≤ w2.heap.size) (hown : w3.ownsRow w.heap.size 23 1 (.slice (some ⟨gr, 0, none⟩) (1 + m) cap) (1 + m) (.slice none 0 0 :: hs.map Hdr.val)) (hg : w2.grownBy w3 (some w.heap.size)) (hat : gr = w.heap.size ∨ gr = w2.heap.size) :
    HR 1000 (EZ K E) w3 w.heap.size w3.heap.size ([] :: l) ⟨some ⟨gr, 0, none⟩, 1 + m, cap⟩ := by
  have hel := hN.el
  have hl : (⟨none, 0, 0⟩ :: hs : List Hdr).length = 1 + m := by simp [hel]; omega
  have LH' : LH w.heap.size 23 (EZ K E) w3 (.slice (some ⟨gr, 0, none⟩) (1 + m) cap) (⟨none, 0, 0⟩ :: hs) ([] :: l) := by
    refine ⟨by rw [hl]; exact hown, by simp [hel, hN.tl], fun j hj => ?_⟩
    rcases j with _ | j
    · exact ⟨w.heap.size, w.heap.size, Nat.le_refl _, Nat.le_trans (by omega) hg.size, ez_none _ _ _ _ _, fun r hr => by omega⟩
    · have hj' : j < hs.length := by simpa using hj
      obtain h1 := (hN.hrow hK hE (by omega)).ev j (by show j < m; omega)
      refine ⟨B, w2.heap.size, by omega, hg.size, (lasts_EZ K E).grown h1 (Nat.le_refl _) hg (fun r hr => ?_), fun r hr => ?_⟩
      · have := Option.some.inj hr
        omega
      · have : gr = r := Option.some.inj hr
        omega
  obtain ⟨q', cap', h1, h2⟩ := LH'.row (lasts_EZ K E) (D := 1000) (by rw [hl]; omega)
  simp only [Value.slice.injEq] at h1
  obtain ⟨rfl, -, rfl⟩ := h1
  rw [hl] at h2
  exact ⟨_, h2⟩
set_option maxRecDepth 100000 in
theorem letterTimes_any {w : World} {g : Nat} {al y : Int} (hr : RuleQ w g al y) {B T K E D : Nat} {zss : List (List Int)} {h : Hdr} (H : HR D (EZ K E) w B T zss h) (hT : T ≤ w.heap.size) (hD : D ≤ 900) (hE : E ≤ 15) (hK : K ≤ 60) :
    Calls Tryz.prog 133 #[.slice h.p h.n h.c, .func (.func 63) #[.pointer (some ⟨g, 0, none⟩)] #[], .func (.func 64) #[.pointer (some ⟨g, 0, none⟩)] #[]] w (OpP (LXz al y zss) (K + E * 2 + (K + E * 2) + 1) E w) := by
  have HX : Hid (RuleQ w g al y ∧ HR D (EZ K E) w B T zss h ∧ T ≤ w.heap.size) := ⟨hr, H, hT⟩
  obtain ⟨hp, hn, hc⟩ := h
  clear hr H hT
  go_enter Tryz.func133, Tryz.ntmps133
  go_wp2_with fail
  have hal := bel_al (o := .cells #[.slice none 0 0] 23) (Below.refl w.heap.size w)
  have hown : (w.alloc (.cells #[.slice none 0 0] 23)).ownsRow w.heap.size 23 1 (.slice (some ⟨w.heap.size, 0, none⟩) 1 1) 1 [.slice none 0 0] := World.ownsRow_lit (base := w.heap.size) (e := 23) (size := 1) w #[.slice none 0 0] 1 (Nat.le_refl _) (by unfold maxLen; omega) rfl
  have hs1 : (w.alloc (.cells #[.slice none 0 0] 23)).heap.size = w.heap.size + 1 := by simp
  have he := eachSigma (HX.out.1.below hal) ((lasts_HR (lasts_EZ K E)).below HX.out.2.1 HX.out.2.2 hal) (Nat.le_trans HX.out.2.2 hal.size) (by omega) hE hK
  dsimp only at he
  have HO : Hid ((w.alloc (.cells #[.slice none 0 0] 23)).ownsRow w.heap.size 23 1 (.slice (some ⟨w.heap.size, 0, none⟩) 1 1) 1 [.slice none 0 0]) := hown
  generalize w.alloc (.cells #[.slice none 0 0] 23) = W1 at *
  go_fit he
  rintro r w2 ⟨q1, hs, rfl, hNO, hb2⟩
  obtain ⟨m, hm⟩ : ∃ m, olen (omp (SGM al y) zss) = m := ⟨_, rfl⟩
  rw [hm] at hNO ⊢
  have hm9 : m ≤ 900 := by
    obtain ⟨hs', k⟩ := HX.out.2.1
    have h1 := olen_le (omp (SGM al y) zss)
    have h2 : (omp (SGM al y) zss).length = olen zss := by simp [omp]
    have h3 := olen_le zss
    have h4 := k.tl
    have h5 := k.few
    simp only at h4 h5
    omega
  have HNO : Hid (NO W1.heap.size w2 (K + E * 2) E (otr (omp (SGM al y) zss)) q1 m hs ∧ w2.ownsRow w.heap.size 23 1 (.slice (some ⟨w.heap.size, 0, none⟩) 1 1) 1 [.slice none 0 0] ∧ Below w.heap.size w w2 ∧ W1.heap.size ≤ w2.heap.size) := ⟨hNO, own_below HO.out hb2, bnext' hal hb2, hb2.size⟩
  have HM : Hid (olen (omp (SGM al y) zss) = m) := hm
  clear he hNO hb2 hown HO hm hal
  obtain ⟨I0, hi, hzz⟩ := Option.map_eq_some_iff.1 info_ops
  simp only [Prod.mk.injEq] at hzz
  obtain ⟨hz0, hz1, hz2⟩ := hzz
  rcases Nat.eq_zero_or_pos m with h0 | h0
  · subst h0
    have HRd : Hid (HR 1000 (EZ (K + E * 2) E) w2 w.heap.size w2.heap.size ([] :: otr (omp (SGM al y) zss)) ⟨some ⟨w.heap.size, 0, none⟩, 1, 1⟩ ∧ Below w.heap.size w w2) := by
      have h9 : hs = [] := List.length_eq_zero_iff.1 HNO.out.1.el
      refine ⟨raised_row (m := 0) HNO.out.1 (by omega) (by omega) (by omega) (by omega) HNO.out.2.2.2 (by rw [h9]; exact HNO.out.2.1) (grownBy_refl _ _) (.inl rfl), HNO.out.2.2.1⟩
    rcases q1 with _ | ⟨b, o, x⟩
    · go_wp2_with fail
      have hed := eachDelta (HX.out.1.below HRd.out.2) ((lasts_HR (lasts_EZ K E)).below HX.out.2.1 HX.out.2.2 HRd.out.2) (Nat.le_trans HX.out.2.2 HRd.out.2.size) (by omega) hE hK
      dsimp only at hed
      go_fit hed
      rintro r w4 ⟨q4, hs4, rfl, hN4, hb4⟩
      obtain ⟨m4, hm4⟩ : ∃ m4, olen (omp (DLM al) zss) = m4 := ⟨_, rfl⟩
      rw [hm4] at hN4 ⊢
      have hm49 : m4 ≤ 900 := by
        obtain ⟨hs', k⟩ := HX.out.2.1
        have h1 := olen_le (omp (DLM al) zss)
        have h2 : (omp (DLM al) zss).length = olen zss := by simp [omp]
        have h3 := olen_le zss
        have h4 := k.tl
        have h5 := k.few
        simp only at h4 h5
        omega
      clear hm4
      have hadd := oAdd_any ((lasts_HR (lasts_EZ (K + E * 2) E)).below HRd.out.1 (Nat.le_refl _) hb4) (hN4.hr (by omega) (by omega) (by omega)) hb4.size (Nat.le_refl _) (by decide) (by omega) (by omega) (by omega)
      dsimp only at hadd
      have hB4 := bnext' HRd.out.2 hb4
      clear hed hN4 hb4
      go_wp2_with fail
      go_fit hadd
      rintro r w5 ⟨q5, hs5, rfl, hN5, hb5⟩
      have HF : Hid (OpP (LXz al y zss) (K + E * 2 + (K + E * 2) + 1) E w (.returned (.slice q5 (olen (LXz al y zss)) (olen (LXz al y zss)))) w5) := ⟨q5, hs5, rfl, hN5.mono hB4.size, bnext' hB4 hb5⟩
      unfold LXz at HF ⊢
      clear hadd hN5 hb5 hB4
      generalize olen (opz (· + ·) ([] :: otr (omp (SGM al y) zss)) (otr (omp (DLM al) zss))) = m5 at *
      go_wp2
      go_ret
      exact HF.out
    · go_wp2_with fail
      have hed := eachDelta (HX.out.1.below HRd.out.2) ((lasts_HR (lasts_EZ K E)).below HX.out.2.1 HX.out.2.2 HRd.out.2) (Nat.le_trans HX.out.2.2 HRd.out.2.size) (by omega) hE hK
      dsimp only at hed
      go_fit hed
      rintro r w4 ⟨q4, hs4, rfl, hN4, hb4⟩
      obtain ⟨m4, hm4⟩ : ∃ m4, olen (omp (DLM al) zss) = m4 := ⟨_, rfl⟩
      rw [hm4] at hN4 ⊢
      have hm49 : m4 ≤ 900 := by
        obtain ⟨hs', k⟩ := HX.out.2.1
        have h1 := olen_le (omp (DLM al) zss)
        have h2 : (omp (DLM al) zss).length = olen zss := by simp [omp]
        have h3 := olen_le zss
        have h4 := k.tl
        have h5 := k.few
        simp only at h4 h5
        omega
      clear hm4
      have hadd := oAdd_any ((lasts_HR (lasts_EZ (K + E * 2) E)).below HRd.out.1 (Nat.le_refl _) hb4) (hN4.hr (by omega) (by omega) (by omega)) hb4.size (Nat.le_refl _) (by decide) (by omega) (by omega) (by omega)
      dsimp only at hadd
      have hB4 := bnext' HRd.out.2 hb4
      clear hed hN4 hb4
      go_wp2_with fail
      go_fit hadd
      rintro r w5 ⟨q5, hs5, rfl, hN5, hb5⟩
      have HF : Hid (OpP (LXz al y zss) (K + E * 2 + (K + E * 2) + 1) E w (.returned (.slice q5 (olen (LXz al y zss)) (olen (LXz al y zss)))) w5) := ⟨q5, hs5, rfl, hN5.mono hB4.size, bnext' hB4 hb5⟩
      unfold LXz at HF ⊢
      clear hadd hN5 hb5 hB4
      generalize olen (opz (· + ·) ([] :: otr (omp (SGM al y) zss)) (otr (omp (DLM al) zss))) = m5 at *
      go_wp2
      go_ret
      exact HF.out
  · obtain ⟨b, o, hp1, hcl⟩ := HNO.out.1.hl (by rw [HNO.out.1.el]; exact h0)
    subst hp1
    go_wp2_with (refine wpList_append_lies _ rfl _ _ 51 rfl w.heap.size 23 I0 (.slice none 0 0) 1 24 Tryz.underlying51 hi hz0 hz1 hz2 rfl (by decide) (.slice (some ⟨w.heap.size, 0, none⟩) 1 1) 1 [.slice none 0 0] rfl HNO.out.2.1 ⟨b, o, none⟩ m m (hs.map Hdr.val) rfl (by rw [List.length_map, HNO.out.1.el, Nat.mul_one]) ?_ (fun x hx => by obtain ⟨d, -, rfl⟩ := List.mem_map.1 hx; rfl) h0 (by unfold maxLen; omega) (by omega) HNO.out.2.2.1.size _ rfl ?_)
    · intro j u hu
      rw [List.getElem?_map] at hu
      obtain ⟨d, hd, rfl⟩ := Option.map_eq_some_iff.1 hu
      have hj : j < hs.length := (List.getElem?_eq_some_iff.1 hd).1
      have h7 := hcl j hj
      rw [Addr.add_mid]
      rw [show gh hs j = d by simp [gh, hd]] at h7
      exact h7
    intro gr cap w3 hown3 hgrow3 hat3 hlt3
    have HRd : Hid (HR 1000 (EZ (K + E * 2) E) w3 w.heap.size w3.heap.size ([] :: otr (omp (SGM al y) zss)) ⟨some ⟨gr, 0, none⟩, 1 + m, cap⟩ ∧ Below w.heap.size w w3) := by
      refine ⟨raised_row HNO.out.1 (by omega) (by omega) hm9 (by omega) HNO.out.2.2.2 hown3 hgrow3 ?_, HNO.out.2.2.1.grown hgrow3 HNO.out.2.2.1.size (fun r hr => by have h : w.heap.size = r := Option.some.inj hr; omega)⟩
      rcases hat3 with h8 | h8
      · exact .inl (Option.some.inj h8).symm
      · exact .inr h8
    clear hown3 hgrow3 hat3 hlt3 hcl
    have hed := eachDelta (HX.out.1.below HRd.out.2) ((lasts_HR (lasts_EZ K E)).below HX.out.2.1 HX.out.2.2 HRd.out.2) (Nat.le_trans HX.out.2.2 HRd.out.2.size) (by omega) hE hK
    dsimp only at hed
    go_wp2_with fail
    go_fit hed
    rintro r w4 ⟨q4, hs4, rfl, hN4, hb4⟩
    obtain ⟨m4, hm4⟩ : ∃ m4, olen (omp (DLM al) zss) = m4 := ⟨_, rfl⟩
    rw [hm4] at hN4 ⊢
    have hm49 : m4 ≤ 900 := by
      obtain ⟨hs', k⟩ := HX.out.2.1
      have h1 := olen_le (omp (DLM al) zss)
      have h2 : (omp (DLM al) zss).length = olen zss := by simp [omp]
      have h3 := olen_le zss
      have h4 := k.tl
      have h5 := k.few
      simp only at h4 h5
      omega
    clear hm4
    have hadd := oAdd_any ((lasts_HR (lasts_EZ (K + E * 2) E)).below HRd.out.1 (Nat.le_refl _) hb4) (hN4.hr (by omega) (by omega) (by omega)) hb4.size (Nat.le_refl _) (by decide) (by omega) (by omega) (by omega)
    dsimp only at hadd
    have hB4 := bnext' HRd.out.2 hb4
    clear hed hN4 hb4
    go_wp2_with fail
    go_fit hadd
    rintro r w5 ⟨q5, hs5, rfl, hN5, hb5⟩
    have HF : Hid (OpP (LXz al y zss) (K + E * 2 + (K + E * 2) + 1) E w (.returned (.slice q5 (olen (LXz al y zss)) (olen (LXz al y zss)))) w5) := ⟨q5, hs5, rfl, hN5.mono hB4.size, bnext' hB4 hb5⟩
    unfold LXz at HF ⊢
    clear hadd hN5 hb5 hB4
    generalize olen (opz (· + ·) ([] :: otr (omp (SGM al y) zss)) (otr (omp (DLM al) zss))) = m5 at *
    go_wp2
    go_ret
    exact HF.out
theorem gt_out {α : Type} [Inhabited α] (l : List α) (j : Nat) (h : l.length ≤ j) : gt l j = default := by simp [gt, List.getElem?_eq_none h]
theorem gt_otr (l : List (List Int)) (j : Nat) : gt (otr l) j = if j < olen l then gt l j else [] := by
  split
  · rename_i h
    exact gt_take l _ j h
  · exact gt_out _ _ (by rw [length_otr]; omega)
theorem gt_rngL (F : Nat → List Int) (n j : Nat) : gt ((List.range n).map F) j = if j < n then F j else [] := by
  split
  · rename_i h
    simp [gt, h]
  · exact gt_out _ _ (by simp; omega)
theorem gx_gtotr (l : List (List Int)) (j t : Nat) : gx (gt (otr l) j) t = gx (gt l j) t := by
  rw [gt_otr]
  split
  · rfl
  · have h1 := olen_zero l j (by omega)
    have h2 : gx (gt l j) t = gx (tr (gt l j)) t := (gx_tr _ _).symm
    rw [h2, tr, h1]
    rfl
theorem gx_gtrng (F : Nat → List Int) (n j t : Nat) : gx (gt ((List.range n).map F) j) t = if j < n then gx (F j) t else 0 := by
  rw [gt_rngL]
  split <;> rfl
theorem gx_gtopz (f : Int → Int → Int) (h0 : f 0 0 = 0) (a b : List (List Int)) (j t : Nat) : gx (gt (opz f a b) j) t = f (gx (gt a j) t) (gx (gt b j) t) := by
  rw [opz, gx_gtrng]
  split
  · rw [gx_tr, gx_pz0 f h0, gx_tr, gx_tr]
  · have z : ∀ l : List (List Int), olen l ≤ j → gx (gt l j) t = 0 := fun l hl => by
      have h1 := olen_zero l j hl
      rw [← gx_tr, tr, h1]
      rfl
    rw [z a (by omega), z b (by omega), h0]
theorem gx_gtcons (l : List (List Int)) (j t : Nat) : gx (gt ([] :: l) j) t = if j = 0 then 0 else gx (gt l (j - 1)) t := by
  rcases j with _ | j
  · rfl
  · simp [gt]
theorem omp_lt {f : List Int → List Int} {z : List (List Int)} {M : Nat} (h : ∀ j t, ((gx (f (gt z j)) t).natAbs : Int) < pw M) (j t : Nat) : ((gx (gt (omp f z) j) t).natAbs : Int) < pw M := by
  rw [omp, gx_gtrng]
  split
  · exact h j t
  · exact pw_pos M
theorem NO.fit {B : Nat} {w : World} {K E M : Nat} {l : List (List Int)} {p : Option Addr} {n : Nat} {hs : List Hdr} (h : NO B w K E l p n hs) (hz : ∀ j t, ((gx (gt l j) t).natAbs : Int) < pw M) : NO B w M E l p n hs :=
  ⟨h.el, h.tl, h.hl, h.fr, fun j hj => let ⟨a, b, es, c⟩ := h.ev j hj; ⟨a, b, es, c.fit (hz j)⟩⟩
def Bzs (al y : Int) (b : List (List Int)) : Nat → List (List Int)
  | 0 => b
  | i + 1 => otr (LXz al y (Bzs al y b i))
def Szs (c : List Int) (b : List (List Int)) : List (List Int) := (List.range (olen b)).map fun j => mulp (tr c) (tr (gt b j))
def Pzs (al y : Int) (a b : List (List Int)) : Nat → List (List Int)
  | 0 => []
  | i + 1 => otr (opz (· + ·) (Pzs al y a b i) (otr (Szs (gt a i) (Bzs al y b i))))
end Go.Proofs.YtejnhpjejcpekaaGreatDoor
namespace Go.Proofs.YtejnhpjejcpekaaGreatDoor.Sk
open Go.Proofs.YtejnhpjejcpekaaGreatDoor
set_option linter.unusedVariables false
set_option linter.unusedSimpArgs false
theorem TT_00 (u v : Int) : ∀ (p : List Int) (t : Nat), TT u v 0 0 p t = 0
  | [], t => rfl
  | c :: p, t => by
    have h : fx (TT u v 0 0 p) t = 0 := by
      rw [fx_congr (b := fun _ => 0) (TT_00 u v p)]
      cases t <;> rfl
    rw [TT, h, TT_00 u v p t]
    split <;> simp
theorem leib_s (u v : Int) (f p r : List Int) (h : ∀ t, gx r t = cv (gx p) (gx f) t) (t : Nat) : TT u v 0 1 r t = cv (TT u v 0 1 p) (TT u v 0 1 f) t := by
  rw [leib u v 0 1 f p r h t, cv_zl (TT_00 u v p)]
  omega
def lt1 (u v w : Int) (o : Nat → List Int) (k t : Nat) : Int := (if k = 0 then 0 else TT u v 0 1 (o (k - 1)) t) + TT u v w 0 (o k) t
theorem op_letter (u v w : Int) {C : Nat → Nat → List Int} {b b' o : Nat → List Int} {n : Nat} (hC : ∀ j k t, gx (C (j + 1) k) t = lt1 u v w (C j) k t) (hb : ∀ j, n ≤ j → ∀ t, gx (b j) t = 0)
    (hb' : ∀ j t, gx (b' j) t = lt1 u v w b j t) (ho : ∀ k t, gx (o k) t = sm n fun j => cv (gx (b j)) (gx (C j k)) t) (k t : Nat) :
    lt1 u v w o k t = sm (n + 1) fun j => cv (gx (b' j)) (gx (C j k)) t := by
  have hr : ∃ r : Nat → Nat → List Int, ∀ k j t, gx (r k j) t = cv (gx (b j)) (gx (C j k)) t := ⟨fun k j => (cv_list (b j) (C j k)).choose, fun k j => (cv_list (b j) (C j k)).choose_spec⟩
  obtain ⟨r, hr⟩ := hr
  have hD : TT u v w 0 (o k) t = sm n fun j => cv (TT u v 0 1 (b j)) (TT u v w 0 (C j k)) t + cv (TT u v w 0 (b j)) (gx (C j k)) t := by
    rw [TT_sum u v w 0 (r k) n (o k) (fun t => by rw [ho k t]; exact sm_congr fun j _ => (hr k j t).symm) t]
    exact sm_congr fun j _ => leib u v w 0 (C j k) (b j) (r k j) (hr k j) t
  have hS : (if k = 0 then 0 else TT u v 0 1 (o (k - 1)) t) = sm n fun j => cv (TT u v 0 1 (b j)) (fun i => if k = 0 then 0 else TT u v 0 1 (C j (k - 1)) i) t := by
    split
    · rename_i h0
      rw [sm_zero]
      exact fun i _ => cv_zr (fun _ => rfl) _ _
    · rename_i h0
      rw [TT_sum u v 0 1 (r (k - 1)) n (o (k - 1)) (fun t => by rw [ho (k - 1) t]; exact sm_congr fun j _ => (hr (k - 1) j t).symm) t]
      exact sm_congr fun j _ => leib_s u v (C j (k - 1)) (b j) (r (k - 1) j) (hr (k - 1) j) t
  rw [lt1, hS, hD, sm_add]
  have h1 : (fun j => cv (gx (b' j)) (gx (C j k)) t) = fun j => cv (fun i => if j = 0 then 0 else TT u v 0 1 (b (j - 1)) i) (gx (C j k)) t + cv (TT u v w 0 (b j)) (gx (C j k)) t := by
    funext j
    have h2 : ∀ i, gx (b' j) i = 1 * (if j = 0 then 0 else TT u v 0 1 (b (j - 1)) i) + 1 * TT u v w 0 (b j) i := fun i => by rw [hb' j i, lt1]; omega
    rw [cv_congr h2 (fun _ => rfl), cv_linl, Int.one_mul, Int.one_mul]
  rw [h1, sm_add, sm_left, sm, cv_zl (a := fun i => if 0 = 0 then 0 else _) (fun i => if_pos rfl), cv_zl (a := TT u v w 0 (b n)) (fun i => TT_zero u v w 0 (hb n (Nat.le_refl _)) i)]
  have h3 : sm n (fun j => cv (fun i => if j + 1 = 0 then 0 else TT u v 0 1 (b (j + 1 - 1)) i) (gx (C (j + 1) k)) t) = sm n fun j => cv (TT u v 0 1 (b j)) (fun i => if k = 0 then 0 else TT u v 0 1 (C j (k - 1)) i) t + cv (TT u v 0 1 (b j)) (TT u v w 0 (C j k)) t := by
    refine sm_congr fun j _ => ?_
    have h4 : ∀ i, gx (C (j + 1) k) i = 1 * (if k = 0 then 0 else TT u v 0 1 (C j (k - 1)) i) + 1 * TT u v w 0 (C j k) i := fun i => by rw [hC j k i, lt1]; omega
    rw [cv_congr (b := TT u v 0 1 (b j)) (fun i => by rw [if_neg (by omega), Nat.add_sub_cancel]) h4, cv_linr, Int.one_mul, Int.one_mul]
  rw [h3, sm_add]
  omega
theorem op_comp (u v w : Int) {C O : Nat → Nat → List Int} {B : Nat → Nat → List Int} {n : Nat} (hC : ∀ j k t, gx (C (j + 1) k) t = lt1 u v w (C j) k t) (hO : ∀ j k t, gx (O (j + 1) k) t = lt1 u v w (O j) k t)
    (hb : ∀ j, n ≤ j → ∀ t, gx (B 0 j) t = 0) (hB : ∀ i j t, gx (B (i + 1) j) t = lt1 u v w (B i) j t)
    (h0 : ∀ k t, gx (O 0 k) t = sm n fun j => cv (gx (B 0 j)) (gx (C j k)) t) : ∀ i, (∀ j, n + i ≤ j → ∀ t, gx (B i j) t = 0) ∧ ∀ k t, gx (O i k) t = sm (n + i) fun j => cv (gx (B i j)) (gx (C j k)) t
  | 0 => ⟨hb, h0⟩
  | i + 1 => by
    obtain ⟨h1, h2⟩ := op_comp u v w hC hO hb hB h0 i
    refine ⟨fun j hj t => ?_, fun k t => ?_⟩
    · rw [hB, lt1, TT_zero u v w 0 (h1 j (by omega)), if_neg (by omega), TT_zero u v 0 1 (h1 (j - 1) (by omega))]; rfl
    · rw [hO i k t, op_letter u v w hC h1 (hB i) h2 k t]; rfl
def lu (al y : Int) : Int := if al = 3 then y else 1
def lv (al : Int) : Int := if al = 1 then 1 else 0
def lw (al : Int) : Int := if al = 2 then 1 else 0
theorem TT_co : ∀ (p : List Int) (t : Nat), TT 1 1 0 1 p t = co 1 p t
  | [], t => by cases t <;> rfl
  | c :: p, 0 => by rw [TT, co, ← TT_co p 0, fx]; simp
  | c :: p, t + 1 => by rw [TT, co, ← TT_co p t, ← TT_co p (t + 1), fx]; simp
theorem TT_dl (y : Int) : ∀ (p : List Int) (t : Nat), TT y 0 0 1 p t = dl y p t
  | [], t => by cases t <;> rfl
  | c :: p, 0 => by rw [TT, dl, fx]; simp
  | c :: p, t + 1 => by rw [TT, dl, ← TT_dl y p t, fx]; simp
theorem TT_id : ∀ (p : List Int) (t : Nat), TT 1 0 0 1 p t = gx p t
  | [], t => by rw [gx_nil]; rfl
  | c :: p, 0 => by rw [TT, gx_cons_zero, fx]; simp
  | c :: p, t + 1 => by rw [TT, gx_cons_succ, fx, TT_id p t]; simp
theorem TT_de : ∀ (p : List Int) (t : Nat), TT 1 0 1 0 p t = ((t : Int) + 1) * gx p (t + 1)
  | [], t => by rw [gx_nil, Int.mul_zero]; rfl
  | c :: p, 0 => by rw [TT, fx, gx_cons_succ]; simp
  | c :: p, t + 1 => by rw [TT, fx, TT_de p t, gx_cons_succ]; push_cast; simp; grind
theorem gx_SGM {al y : Int} (ha : al = 1 ∨ al = 2 ∨ al = 3) (zs : List Int) (t : Nat) : gx (SGM al y zs) t = TT (lu al y) (lv al) 0 1 zs t := by
  unfold SGM lu lv
  rcases ha with rfl | rfl | rfl
  · simp only [if_true, if_neg (show ¬ ((1 : Int) = 3) by decide)]
    rw [gx_coz, ← TT_co]
    exact TT_congr _ _ _ _ (fun t => gx_tr _ _) t
  · simp only [if_neg (show ¬ ((2 : Int) = 3) by decide), if_neg (show ¬ ((2 : Int) = 1) by decide)]
    rw [gx_tr, TT_id]
  · simp only [if_true, if_neg (show ¬ ((3 : Int) = 1) by decide)]
    rw [gx_dlz, TT_dl]
theorem gx_DLM {al y : Int} (ha : al = 1 ∨ al = 2 ∨ al = 3) (zs : List Int) (t : Nat) : gx (DLM al zs) t = TT (lu al y) (lv al) (lw al) 0 zs t := by
  unfold DLM lu lv lw
  rcases ha with rfl | rfl | rfl
  · simp only [if_true, if_neg (show ¬ ((1 : Int) = 3) by decide), if_neg (show ¬ ((1 : Int) = 2) by decide)]
    rw [TT_00, gx_nil]
  · simp only [if_true, if_neg (show ¬ ((2 : Int) = 3) by decide), if_neg (show ¬ ((2 : Int) = 1) by decide)]
    rw [gx_derz', TT_de, gx_tr]
  · simp only [if_true, if_neg (show ¬ ((3 : Int) = 1) by decide), if_neg (show ¬ ((3 : Int) = 2) by decide)]
    rw [TT_00, gx_nil]
def le' (al : Int) : Int := if al = 2 then 0 else 1
theorem gx_LTR {al y : Int} (ha : al = 1 ∨ al = 2 ∨ al = 3) (zs : List Int) (t : Nat) : gx (LTR al y zs) t = TT (lu al y) (lv al) (lw al) (le' al) zs t := by
  unfold LTR le'
  rcases ha with rfl | rfl | rfl
  · rw [if_neg (by decide), gx_SGM (.inl rfl)]; rfl
  · rw [if_pos rfl, gx_DLM (y := y) (.inr (.inl rfl))]; rfl
  · rw [if_neg (by decide), gx_SGM (.inr (.inr rfl))]; rfl
theorem gx_mulp_cv (a b : List Int) (t : Nat) : gx (mulp a b) t = cv (gx a) (gx b) t := by
  rw [gx_mulp, ps_sq _ _ _ _ (Nat.le_refl _), cv]
  have : ∀ n F, sq F n = sm n F := fun n F => by
    induction n with
    | zero => rfl
    | succ n ih => rw [sq, sm, ih]
  exact this _ _
theorem zero_past (zss : List (List Int)) (j : Nat) (h : olen zss ≤ j) (t : Nat) : gx (gt zss j) t = 0 := by
  rw [← gx_tr, tr, olen_zero zss j h]
  rfl
theorem gx_gtomp {f : List Int → List Int} (h0 : ∀ z, (∀ t, gx z t = 0) → ∀ t, gx (f z) t = 0) (z : List (List Int)) (j t : Nat) : gx (gt (omp f z) j) t = gx (f (gt z j)) t := by
  rw [omp, gx_gtrng]
  split
  · rfl
  · rw [h0 _ (zero_past z j (by omega)) t]
theorem gx_LXz {al y : Int} (ha : al = 1 ∨ al = 2 ∨ al = 3) (b : List (List Int)) (j t : Nat) : gx (gt (LXz al y b) j) t = lt1 (lu al y) (lv al) (lw al) (gt b) j t := by
  have hs : ∀ z, (∀ t, gx z t = 0) → ∀ t, gx (SGM al y z) t = 0 := fun z hz t => by rw [gx_SGM ha, TT_zero _ _ _ _ hz]
  have hd : ∀ z, (∀ t, gx z t = 0) → ∀ t, gx (DLM al z) t = 0 := fun z hz t => by rw [gx_DLM (y := y) ha, TT_zero _ _ _ _ hz]
  rw [LXz, gx_gtopz _ rfl, gx_gtcons, gx_gtotr, gx_gtotr, gx_gtomp hd, gx_gtomp hs, gx_DLM (y := y) ha, lt1]
  split
  · rfl
  · rw [gx_SGM ha]
theorem gx_Bzs {al y : Int} (ha : al = 1 ∨ al = 2 ∨ al = 3) (b : List (List Int)) (i j t : Nat) : gx (gt (Bzs al y b (i + 1)) j) t = lt1 (lu al y) (lv al) (lw al) (gt (Bzs al y b i)) j t := by
  rw [Bzs, gx_gtotr, gx_LXz ha]
theorem gx_Szs (c : List Int) (b : List (List Int)) (j t : Nat) : gx (gt (Szs c b) j) t = cv (gx c) (gx (gt b j)) t := by
  rw [Szs, gx_gtrng]
  split
  · rw [gx_mulp_cv]
    exact cv_congr (fun i => gx_tr _ _) (fun i => gx_tr _ _) t
  · rw [cv_zr (zero_past b j (by omega))]
theorem gx_gtnil (j t : Nat) : gx (gt ([] : List (List Int)) j) t = 0 := gx_nil t
theorem gx_Pzs (al y : Int) (a b : List (List Int)) (j t : Nat) : ∀ n, gx (gt (Pzs al y a b n) j) t = sm n fun i => cv (gx (gt a i)) (gx (gt (Bzs al y b i) j)) t
  | 0 => by rw [Pzs, sm]; exact gx_gtnil j t
  | n + 1 => by rw [Pzs, gx_gtotr, gx_gtopz _ rfl, gx_gtotr, gx_Szs, gx_Pzs al y a b j t n, sm]
theorem gx_Fit {al y : Int} (ha : al = 1 ∨ al = 2 ∨ al = 3) (f : List Int) (i t : Nat) : gx (Fit al y f (i + 1)) t = TT (lu al y) (lv al) (lw al) (le' al) (Fit al y f i) t := by
  rw [Fit, gx_LTR ha]
theorem gx_Ozs (al y : Int) (cs : List (List Int)) (f : List Int) (t : Nat) : ∀ n, gx (Ozs al y cs f n) t = sm n fun i => cv (gx (gt cs i)) (gx (Fit al y f i)) t
  | 0 => by rw [Ozs, sm, gx_nil]
  | n + 1 => by
    rw [Ozs, gx_tr, gx_pz0 _ rfl, gx_mulp_cv, gx_Ozs al y cs f t n, sm, cv_congr (b := gx (gt cs n)) (fun i => gx_tr _ _) (fun _ => rfl)]
theorem acts_eq {al y : Int} (ha : al = 1 ∨ al = 2 ∨ al = 3) (a b : List (List Int)) (f : List Int) (N : Nat) (hN : olen b + olen a ≤ N) (t : Nat) : gx (Ozs al y (Pzs al y a b (olen a)) f N) t = gx (Ozs al y a (Ozs al y b f (olen b)) (olen a)) t := by
  rw [gx_Ozs, gx_Ozs]
  exact act_prod (lu al y) (lv al) (lw al) (le' al) (F := Fit al y f) (O := Fit al y (Ozs al y b f (olen b))) (a := gt a) (P := gt (Pzs al y a b (olen a))) (B := fun i => gt (Bzs al y b i)) (n := olen b) (m := olen a) (N := N) (gx_Fit ha f) (gx_Fit ha _) (fun j hj t => zero_past b j hj t) (fun k j t => gx_Bzs ha b k j t) (fun t => by rw [Fit, gx_tr, gx_Ozs]; rfl) (fun j t => gx_Pzs al y a b j t _) hN t
theorem Pzs_more {al y : Int} (a b : List (List Int)) (n N : Nat) (hn : olen a ≤ n) (hN : n ≤ N) (k t : Nat) : gx (gt (Pzs al y a b N) k) t = gx (gt (Pzs al y a b n) k) t := by
  rw [gx_Pzs, gx_Pzs]
  exact sm_more (fun i hi => cv_zl (zero_past a i (by omega)) _ _) hN
theorem Ozs_more {al y : Int} (a : List (List Int)) (f : List Int) (n N : Nat) (hn : olen a ≤ n) (hN : n ≤ N) (t : Nat) : gx (Ozs al y a f N) t = gx (Ozs al y a f n) t := by
  rw [gx_Ozs, gx_Ozs]
  exact sm_more (fun i hi => cv_zl (zero_past a i (by omega)) _ _) hN
end Go.Proofs.YtejnhpjejcpekaaGreatDoor.Sk
