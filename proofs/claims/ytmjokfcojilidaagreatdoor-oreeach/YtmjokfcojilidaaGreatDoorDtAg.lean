/-
  Sizes of small polynomials; upoly.Mul where one is zero (out of Ou, Oy, Pv).
-/
import Derived.Test.YtmjokfcojilidaaGreatDoorUeUfUg
import Derived.Test.YtmjokfcojilidaaGreatDoorUmVsUoDmVt
import Derived.Test.YtmjokfcojilidaaGreatDoorDqDrAd
import Derived.Deep.DeepFit
namespace Go.Proofs.YtmjokfcojilidaaGreatDoor
open Go.RowKit
set_option linter.unusedVariables false
set_option linter.unusedSimpArgs false

theorem pb_trim (zs : List Int) : pb (tr zs) = pb zs := by
  have step : ∀ j, tlen zs ≤ j → j ≤ zs.length → pb (zs.take j) = pb (tr zs) := by
    intro j
    induction j with
    | zero => intro h1 _; have : tlen zs = 0 := by omega
              rw [tr, this]
    | succ j ih =>
      intro h1 h2
      rcases Nat.lt_or_ge j (tlen zs) with h | h
      · have : tlen zs = j + 1 := by omega
        rw [tr, this]
      · rw [pb_take zs j (by omega), ih h (by omega), tlen_zero zs j h, show zb 0 = 0 from rfl, Nat.max_zero]
  have := step zs.length (tlen_le zs) (Nat.le_refl _)
  rw [List.take_length] at this
  exact this.symm
theorem pb_few {w : World} {K : Nat} {p : Option Addr} {n nc : Nat} {es : List Ent} {zs : List Int} (h : PA w K p n nc es zs) : pb zs ≤ 32 * K := by
  have key : ∀ j, j ≤ zs.length → pb (zs.take j) ≤ 32 * K := by
    intro j
    induction j with
    | zero => intro _; simp [pb]
    | succ j ih =>
      intro hj
      rw [pb_take zs j (by omega)]
      have h1 := ih (by omega)
      have h2 := zb_le (h.ev j (by have := h.zl; omega))
      omega
  have := key zs.length (Nat.le_refl _)
  rw [List.take_length] at this
  exact this
theorem cnt_len (zs : List Int) : cnt zs ≤ zs.length := by
  have key : ∀ j, j ≤ zs.length → cnt (zs.take j) ≤ j := by
    intro j
    induction j with
    | zero => intro _; simp [cnt]
    | succ j ih =>
      intro hj
      have := ih (by omega)
      rw [cnt_take zs j (by omega)]
      split <;> omega
  have := key zs.length (Nat.le_refl _)
  rwa [List.take_length] at this
theorem sl_len (zs : List Int) (h : ∀ j, j < zs.length → zb (gx zs j) ≤ 32) : sl zs ≤ zs.length := by
  have key : ∀ j, j ≤ zs.length → sl (zs.take j) ≤ j := by
    intro j
    induction j with
    | zero => intro _; simp [sl]
    | succ j ih =>
      intro hj
      have h1 := ih (by omega)
      have h2 := h j (by omega)
      rw [sl_take zs j (by omega)]
      unfold zl
      omega
  have := key zs.length (Nat.le_refl _)
  rwa [List.take_length] at this
theorem zb_pb (zs : List Int) (j : Nat) (h : j < zs.length) : zb (gx zs j) ≤ pb zs := by
  have h1 : ∀ k, j < k → k ≤ zs.length → zb (gx zs j) ≤ pb (zs.take k) := by
    intro k
    induction k with
    | zero => intro h; omega
    | succ k ih =>
      intro h1 h2
      rw [pb_take zs k (by omega)]
      rcases Nat.lt_or_ge j k with h3 | h3
      · have := ih h3 (by omega)
        omega
      · have : k = j := by omega
        subst this
        omega
  have := h1 zs.length h (Nat.le_refl _)
  rwa [List.take_length] at this
set_option maxHeartbeats 2000000 in
set_option maxRecDepth 100000 in
/-- upoly.Mul where one is zero. -/
theorem uMul_nil {w : World} {K L M : Nat} {p q : Option Addr} {n nc m mc : Nat} {es fs : List Ent} {zs ys : List Int} (h : PA w K p n nc es zs) (k : PA w L q m mc fs ys) (hn : n ≤ 1000) (hm : m ≤ 1000) (hK : K ≤ 1000) (hL : L ≤ 1000) (h0 : tlen zs = 0 ∨ tlen ys = 0) :
    Calls Tryz.prog 74 #[.slice p n nc, .slice q m mc] w (PnP [] M w) := by
  have hzl := h.zl
  have hyl := k.zl
  have htz := tlen_le zs
  have hty := tlen_le ys
  have HO := (show Hid _ from h0)
  clear h0
  go_enter Tryz.func74, Tryz.ntmps74
  go_wp2_with fail
  refine (read_any K p n nc es zs _ h (by omega) (by omega)).mono ?_
  rintro e w1 ⟨p1, n1, es1, rfl, h1, hb1⟩
  go_wp2_with fail
  refine (read_any L q m mc fs ys _ (k.below hb1) (by omega) (by omega)).mono ?_
  rintro e w2 ⟨q1, m1, fs1, rfl, k1, hb2⟩
  have hn' := h1.zl
  have hm' := k1.zl
  rw [length_tr] at hn' hm'
  subst hn' hm'
  go_wp2_with fail
  refine (product_nil w2 M p1 q1 (tlen zs) (tlen ys) (tlen zs) (tlen ys) (by omega) (by omega) HO.out).mono ?_
  rintro e w3 ⟨p3, n3, es3, rfl, h3, hb3⟩
  go_wp2
  go_ret
  exact PnP.from ⟨p3, n3, es3, rfl, h3, hb3⟩ (bnext' hb1 hb2)
theorem sl_lenk (K : Nat) (zs : List Int) (h : ∀ j, j < zs.length → zb (gx zs j) ≤ 32 * K) : sl zs ≤ K * zs.length := by
  have key : ∀ j, j ≤ zs.length → sl (zs.take j) ≤ K * j := by
    intro j
    induction j with
    | zero => intro _; simp [sl]
    | succ j ih =>
      intro hj
      have h1 := ih (by omega)
      have h2 := h j (by omega)
      rw [sl_take zs j (by omega), Nat.mul_succ]
      unfold zl
      omega
  have := key zs.length (Nat.le_refl _)
  rwa [List.take_length] at this
theorem bitLen_four (n : Nat) (h : n ≤ 4) : Lib.bitLen n ≤ 3 := by
  have : n = 0 ∨ n = 1 ∨ n = 2 ∨ n = 3 ∨ n = 4 := by omega
  rcases this with rfl | rfl | rfl | rfl | rfl <;> decide
theorem four_cost {a b c d s t wd f : Nat} (ha : a ≤ 4) (hb : b ≤ 4) (hc : c ≤ a) (hd : d ≤ b) (hs : s ≤ f * a) (ht : t ≤ f * b) (hw : f ≤ wd) : s * t + 80 * c * d ≤ wd * a * wd * b + 160 * (a + b) := by
  have h1 : s * t ≤ (f * a) * (f * b) := Nat.mul_le_mul hs ht
  have h2 : c * d ≤ a * b := Nat.mul_le_mul hc hd
  have h3 : 80 * c * d = 80 * (c * d) := Nat.mul_assoc 80 c d
  have h4 : (f * a) * (f * b) ≤ wd * a * wd * b := by
    rw [Nat.mul_assoc (wd * a)]
    exact Nat.mul_le_mul (Nat.mul_le_mul hw (Nat.le_refl _)) (Nat.mul_le_mul hw (Nat.le_refl _))
  have h5 : a * b ≤ 2 * (a + b) := by
    have ha' : a = 0 ∨ a = 1 ∨ a = 2 ∨ a = 3 ∨ a = 4 := by omega
    rcases ha' with rfl | rfl | rfl | rfl | rfl <;> omega
  omega
/-- upoly.Mul of up to four entries of two limbs. -/
theorem uMul_four {w : World} {p q : Option Addr} {n nc m mc : Nat} {es fs : List Ent} {zs ys : List Int} (h : PA w 2 p n nc es zs) (k : PA w 2 q m mc fs ys) (hn : n ≤ 4) (hm : m ≤ 4) :
    Calls Tryz.prog 74 #[.slice p n nc, .slice q m mc] w (PnP (mulp (tr zs) (tr ys)) 5 w) := by
  have hzl := h.zl
  have hyl := k.zl
  have htz := tlen_le zs
  have hty := tlen_le ys
  rw [mulp, length_tr, length_tr]
  by_cases h0 : tlen zs = 0 ∨ tlen ys = 0
  · rw [if_pos h0]
    exact uMul_nil h k (by omega) (by omega) (by decide) (by decide) h0
  · rw [if_neg h0]
    have b1 := pb_few h
    have b2 := pb_few k
    have hw5 : wd (tr zs) (tr ys) ≤ 5 := by
      have hb := bitLen_four (min (tlen zs) (tlen ys)) (by omega)
      unfold wd
      rw [pb_trim, pb_trim, length_tr, length_tr]
      omega
    have c1 : cnt (tr zs) ≤ tlen zs := by have := cnt_len (tr zs); rwa [length_tr] at this
    have c2 : cnt (tr ys) ≤ tlen ys := by have := cnt_len (tr ys); rwa [length_tr] at this
    have hk : wd (tr zs) (tr ys) * min (tlen zs) (tlen ys) ≤ 80 := by
      have := Nat.mul_le_mul hw5 (show min (tlen zs) (tlen ys) ≤ 4 by omega)
      omega
    obtain ⟨f, hf, s1, s2⟩ : ∃ f, f ≤ wd (tr zs) (tr ys) ∧ sl (tr zs) ≤ f * (tr zs).length ∧ sl (tr ys) ≤ f * (tr ys).length := by
      by_cases hc : pb zs ≤ 32 ∧ pb ys ≤ 32
      · refine ⟨1, by unfold wd; omega, sl_lenk 1 _ fun j hj => ?_, sl_lenk 1 _ fun j hj => ?_⟩
        · have := zb_pb _ j hj
          rw [pb_trim] at this
          omega
        · have := zb_pb _ j hj
          rw [pb_trim] at this
          omega
      · refine ⟨2, by unfold wd; rw [pb_trim, pb_trim]; omega, sl_lenk 2 _ fun j hj => ?_, sl_lenk 2 _ fun j hj => ?_⟩
        · have := zb_pb _ j hj
          rw [pb_trim] at this
          omega
        · have := zb_pb _ j hj
          rw [pb_trim] at this
          omega
    rw [length_tr] at s1 s2
    exact uMul_rows h k (by omega) (by omega) (by omega) (by omega) (by decide) (by decide) (by omega) hk (four_cost (by omega) (by omega) c1 c2 s1 s2 hf)
end Go.Proofs.YtmjokfcojilidaaGreatDoor
/-
  ore.Scale, Order, Degree, Bits, Lead.
-/
namespace Go.Proofs.YtmjokfcojilidaaGreatDoor
open Go.RowKit
set_option linter.unusedVariables false
set_option linter.unusedSimpArgs false

theorem cell_later' {w w' : World} {a : Addr} {v : Value} (hb : Below w.heap.size w w') (h : w.cell? a = some v) : w'.cell? a = some v := by
  rw [hb.cell (block_lt_of_cell h)]
  exact h
theorem callScaleO (args : Array Value) (w' : World) : Sem.run Tryz.prog (callFunc 73 args) w' = .ok (.enter 73 args) w' := by
  have h1 : ¬ Tryz.f73.name = "runtime.NumGoroutine" := of_decide_eq_false (by kernel_rfl)
  have h2 : ¬ Tryz.f73.body = none := fun h => by cases h
  simp only [callFunc, Tryz.func73, go_sem]
  simp [h1, h2, go_sem]
set_option maxHeartbeats 2000000 in
set_option maxRecDepth 100000 in
/-- Scale's closure: the polynomial's variable is handed along. -/
theorem oscale1_any {w : World} {g : Nat} {p q : Option Addr} {n nc m mc : Nat} {es fs : List Ent} {zs ys : List Int} (hX : w.cell? ⟨g, 0, none⟩ = some (.slice p n nc)) (h : PA w 2 p n nc es zs) (k : PA w 2 q m mc fs ys) (hn : n ≤ 4) (hm : m ≤ 4) :
    Calls Tryz.prog 73 #[.slice q m mc, .pointer (some ⟨g, 0, none⟩)] w (PnP (mulp (tr zs) (tr ys)) 5 w) := by
  have hc := uMul_four h k hn hm
  go_enter Tryz.func73, Tryz.ntmps73
  go_wp2_with fail
  go_fit hc
  rintro e w1 ⟨p1, n1, e1, rfl, h1, h2⟩
  clear hc
  go_wp2
  go_ret
  exact ⟨p1, n1, e1, rfl, h1, h2⟩
theorem mulp_le7 (zs ys : List Int) (h : zs.length ≤ 4) (k : ys.length ≤ 4) : (mulp (tr zs) (tr ys)).length ≤ 7 := by
  have h1 := tlen_le zs
  have h2 := tlen_le ys
  unfold mulp
  rw [length_tr, length_tr]
  split
  · simp
  · rw [length_mulz, length_tr, length_tr]; omega
set_option maxHeartbeats 2000000 in
set_option maxRecDepth 100000 in
/-- ore.Scale. -/
theorem oScale_any {w : World} {B T D : Nat} {p : Option Addr} {n nc : Nat} {es : List Ent} {zs : List Int} {yss : List (List Int)} {h : Hdr} (P : PA w 2 p n nc es zs) (hn : n ≤ 4) (H : HR D (EZ 2 4) w B T yss h) (hT : T ≤ w.heap.size) (hD : D ≤ 1000) :
    Calls Tryz.prog 28 #[.slice p n nc, .slice h.p h.n h.c] w (OpP ((List.range (olen yss)).map fun i => mulp (tr zs) (tr (gt yss i))) 5 7 w) := by
  have hal := bel_al (o := .cells #[.slice p n nc] 26) (Below.refl w.heap.size w)
  have hcell : (w.alloc (.cells #[.slice p n nc] 26)).cell? ⟨w.heap.size, 0, none⟩ = some (.slice p n nc) := by
    simp only [World.cell?]
    rw [heap_alloc_new]
    rfl
  have P1 := P.below hal
  have H1 := (lasts_HR (lasts_EZ 2 4)).below H hT hal
  have hT1 := Nat.le_trans hT hal.size
  obtain ⟨q, m, mc⟩ := h
  simp only at H1 ⊢
  clear P H hT
  obtain ⟨l, hl⟩ : ∃ l, (List.range (olen yss)).map (fun i => mulp (tr zs) (tr (gt yss i))) = l := ⟨_, rfl⟩
  rw [hl]
  have HLL := (show Hid _ from hl)
  clear hl
  go_enter Tryz.func28, Tryz.ntmps28
  go_wp2_with fail
  generalize w.alloc (.cells #[.slice p n nc] 26) = W1 at *
  have hlen : Hid (zs.length ≤ 4 ∧ ∀ i, (gt yss i).length ≤ 4) := ⟨by rw [P1.zl]; exact hn, hr_len H1⟩
  have hc := convert_any (K' := 5) (E' := 7) H1 hT1 hD (by decide) (by decide) (by decide) 73 #[.pointer (some ⟨w.heap.size, 0, none⟩)] callScaleO (fun y => mulp (tr zs) (tr y)) (fun wq i hd hi hb he => by
    obtain ⟨fs, hP, hd3, -⟩ := he
    exact oscale1_any (cell_later' hb hcell) (P1.below hb) hP hn hd3) (fun i hi => mulp_le7 _ _ hlen.out.1 (hlen.out.2 i))
  simp only at hc
  clear hlen H1 P1 hcell
  have HAL : Hid (Below w.heap.size w W1) := hal
  clear hal
  rw [HLL.out] at hc
  go_fit hc
  rintro e w1 ⟨q1, hs, rfl, h1, h2⟩
  have HR' : Hid (OpP l 5 7 w (.returned (.slice q1 (olen l) (olen l))) w1) := ⟨q1, hs, rfl, h1.mono HAL.out.size, bnext' HAL.out h2⟩
  clear hc h1 h2
  generalize olen l = m at *
  go_wp2
  go_ret
  exact HR'.out
set_option maxHeartbeats 2000000 in
/-- ore.Order. -/
theorem oOrder_any {w : World} {B T K E D : Nat} {zss : List (List Int)} {h : Hdr} (H : HR D (EZ K E) w B T zss h) (hT : T ≤ w.heap.size) (hD : D ≤ 1000000) (hE : E ≤ 1000000) :
    Calls Tryz.prog 33 #[.slice h.p h.n h.c] w fun e w' => e = .returned (.int .i64 ((olen zss : Int) - 1)) ∧ Below w.heap.size w w' := by
  have ht := otrim_any H hT hD hE
  have hl : olen zss ≤ 1000000 := by
    obtain ⟨hs, k⟩ := H
    have h1 := olen_le zss
    have h2 := k.tl
    have h3 := k.few
    omega
  obtain ⟨p, n, nc⟩ := h
  simp only at ht ⊢
  clear H hT
  generalize olen zss = m at *
  have v1 : IntKind.i64.wrap ((m : Int) - 1) = (m : Int) - 1 := by rw [IntKind.wrap_i64]; omega
  go_enter Tryz.func33, Tryz.ntmps33
  go_wp2_with fail
  go_fit ht
  rintro e w1 ⟨rfl, hb⟩
  clear ht
  go_wp2
  go_ret
  exact ⟨by simp [go_sem, v1], hb⟩
set_option maxHeartbeats 2000000 in
set_option maxRecDepth 100000 in
/-- ore.Lead. -/
theorem oLead_any {w : World} {B T K E D : Nat} {zss : List (List Int)} {h : Hdr} (H : HR D (EZ K E) w B T zss h) (hT : T ≤ w.heap.size) (hD : D ≤ 1000000) (hE : E ≤ 1000000) (hK : K ≤ 1000) :
    Calls Tryz.prog 31 #[.slice h.p h.n h.c] w (PnP (tr (gt zss (olen zss - 1))) K w) := by
  have ht := otrim_any H hT hD hE
  obtain ⟨hs, k⟩ := H
  have hl : olen zss ≤ h.n := by
    have h1 := olen_le zss
    have h2 := k.tl
    omega
  have hn : h.n ≤ D := k.few
  have HX : Hid (HRow D (EZ K E) w B T zss h hs ∧ T ≤ w.heap.size) := ⟨k, hT⟩
  obtain ⟨p, n, nc⟩ := h
  simp only at ht hl hn ⊢
  clear hT k
  have HZ : Hid (olen zss = 0 → tr (gt zss 0) = []) := fun h0 => by
    have h1 := olen_zero zss 0 (by omega)
    rw [tr, h1]
    rfl
  generalize hm : olen zss = m at *
  clear hm
  rcases Nat.eq_zero_or_pos m with h0 | h0
  · subst h0
    go_enter Tryz.func31, Tryz.ntmps31
    go_wp2_with fail
    go_fit ht
    rintro e w1 ⟨rfl, hb⟩
    clear ht
    go_wp2
    go_ret
    refine ⟨none, 0, [], rfl, ?_, hb⟩
    show PN _ _ _ _ _ _ (tr (gt zss 0))
    rw [HZ.out (by trivial)]
    exact pn_nil _ _ _
  · obtain ⟨i, rfl⟩ : ∃ i, m = i + 1 := ⟨m - 1, by omega⟩
    obtain ⟨b, o, hp, hc⟩ := HX.out.1.hl (by rw [HX.out.1.el]; show 0 < n; omega)
    simp only at hp
    subst hp
    have c0 := hc i (by rw [HX.out.1.el]; show i < n; omega)
    have HE : Hid (∀ w', Below w.heap.size w w' → EZ K E w' B T (gt zss i) (gh hs i)) := fun w' hb => (lasts_EZ K E).below (HX.out.1.ev i (by show i < n; omega)) HX.out.2 hb
    have HC : Hid (∀ w', Below w.heap.size w w' → w'.cell? ⟨b, o + i, none⟩ = some (gh hs i).val) := fun w' hb => cell_later' hb c0
    generalize gh hs i = hd at HE HC
    obtain ⟨p2, n2, nc2⟩ := hd
    simp only [Hdr.val] at HC
    have v1 : wrap64 ((i : Int) + 1 - 1) = (i : Int) := by unfold wrap64; omega
    have v2 : (i : Int) < (i : Int) + 1 := by omega
    have d1 : (((i : Int) + 1) == 0) = false := by rw [beq_eq_false_iff_ne]; omega
    have d2 : ¬ ((i : Int) + 1) = 0 := by omega
    clear hc c0
    go_enter Tryz.func31, Tryz.ntmps31
    go_wp2_with fail
    go_fit ht
    rintro e w1 ⟨rfl, hb⟩
    have c1 := HC.out w1 hb
    obtain ⟨es2, hP2, hd3, -, -⟩ := HE.out w1 hb
    simp only at hP2 hd3
    have hcall := uNorm_any K p2 n2 nc2 es2 (gt zss i) w1 hP2 (by omega) hK
    clear ht hP2
    go_wp2_with fail
    go_fit hcall
    rintro e w2 ⟨p3, n3, es3, rfl, h3, hb3⟩
    have HR' : Hid (PnP (tr (gt zss (i + 1 - 1))) K w (.returned (.slice p3 n3 n3)) w2) := ⟨p3, n3, es3, rfl, h3.mono hb.size, bnext' hb hb3⟩
    clear hcall h3 hb3 c1
    go_wp2
    go_ret
    exact HR'.out
/-- The greatest degree. -/
def odeg (zss : List (List Int)) : Int := zss.foldl (fun m z => max m ((tlen z : Int) - 1)) (-1)
/-- The most bits. -/
def obit (zss : List (List Int)) : Nat := zss.foldl (fun m z => max m (pb z)) 0
theorem odeg_take (zss : List (List Int)) (j : Nat) (h : j < zss.length) : odeg (zss.take (j + 1)) = max (odeg (zss.take j)) ((tlen (gt zss j) : Int) - 1) := by
  unfold odeg
  rw [List.take_succ_eq_append_getElem h, List.foldl_append]
  simp [gt, h]
theorem obit_take (zss : List (List Int)) (j : Nat) (h : j < zss.length) : obit (zss.take (j + 1)) = max (obit (zss.take j)) (pb (gt zss j)) := by
  unfold obit
  rw [List.take_succ_eq_append_getElem h, List.foldl_append]
  simp [gt, h]
end Go.Proofs.YtmjokfcojilidaaGreatDoor
