/-
  ore.entry, combine, Add, Sub.
-/
import Derived.Test.YtejnhpjejcpekaaGreatDoorAbDnDoAc
import Derived.Test.YtejnhpjejcpekaaGreatDoorUiVqDcUj
import Derived.Test.YtejnhpjejcpekaaGreatDoorUlUmVsUoDmVtAfBpBnBoAh
import Derived.Deep.DeepFit
import Derived.Test.YtejnhpjejcpekaaGreatDoorUeUfUg
import Derived.Test.YtejnhpjejcpekaaGreatDoorUaVgOnWhPn
namespace Go.Proofs.YtejnhpjejcpekaaGreatDoor
open Go.RowKit
set_option linter.unusedVariables false
set_option linter.unusedSimpArgs false
set_option maxHeartbeats 8000000
theorem ez_nil (K E : Nat) (w : World) (B T : Nat) : EZ K E w B T [] ⟨none, 0, 0⟩ :=
  ⟨[], ⟨rfl, rfl, Nat.le_refl _, Nat.zero_le _, fun _ => rfl, PL.nil, fun j hj => absurd hj (Nat.not_lt_zero j)⟩, Nat.zero_le _, nofun, fun j hj => absurd hj (Nat.not_lt_zero j)⟩
theorem oentry_any {w : World} {B T K E D : Nat} {zss : List (List Int)} {h : Hdr} (H : HR D (EZ K E) w B T zss h) (i : Nat) (hD : D ≤ 1000) (hi : i ≤ 1000) :
    Calls Tryz.prog 151 #[.slice h.p h.n h.c, .int .i64 i] w fun e w' => ∃ hd, e = .returned (Hdr.val hd) ∧ EZ K E w B T (gt zss i) hd ∧ w' = w := by
  obtain ⟨hs, k⟩ := H
  have HX : Hid (HRow D (EZ K E) w B T zss h hs) := k
  have hn := k.few
  obtain ⟨p, n, nc⟩ := h
  simp only at hn ⊢
  clear k
  rcases Nat.lt_or_ge i n with hlt | hge
  · obtain ⟨b, o, hp, hc⟩ := HX.out.hl (by rw [HX.out.el]; show 0 < n; omega)
    simp only at hp
    subst hp
    have c0 := hc i (by rw [HX.out.el]; exact hlt)
    have HE : Hid (EZ K E w B T (gt zss i) (gh hs i)) := HX.out.ev i hlt
    have i1 : (i : Int) < (n : Int) := by omega
    generalize gh hs i = hd at c0 HE
    obtain ⟨p2, n2, nc2⟩ := hd
    simp only [Hdr.val] at c0
    clear hc
    go_enter Tryz.func151, Tryz.ntmps151
    go_wp2
    go_ret
    exact ⟨⟨p2, n2, nc2⟩, rfl, HE.out, rfl⟩
  · have HE : Hid (EZ K E w B T (gt zss i) ⟨none, 0, 0⟩) := by
      rw [gt_over0 _ _ (by have := HX.out.tl; simp only at this; omega)]
      exact ez_nil K E w B T
    have i1 : ¬ (i : Int) < (n : Int) := by omega
    go_enter Tryz.func151, Tryz.ntmps151
    go_wp2
    go_ret
    exact ⟨⟨none, 0, 0⟩, rfl, HE.out, rfl⟩
theorem tr_cut (zss : List (List Int)) (i : Nat) : tr (gt (zss.take (olen zss)) i) = tr (gt zss i) := by
  rcases Nat.lt_or_ge i (olen zss) with h | h
  · rw [gt_take _ _ _ h]
  · rw [gt_over0 _ _ (by have := olen_le zss; simp; omega)]
    have h1 := olen_zero zss i h
    rw [tr, tr, h1]
    simp
set_option maxRecDepth 100000 in
theorem combine_any {w : World} {B T K E D B2 T2 L E2 D2 K' E' : Nat} {zss yss : List (List Int)} {h k : Hdr} (H : HR D (EZ K E) w B T zss h) (G : HR D2 (EZ L E2) w B2 T2 yss k) (hT : T ≤ w.heap.size) (hT2 : T2 ≤ w.heap.size) (hD : D ≤ 1000) (hD2 : D2 ≤ 1000) (hE : E ≤ 1000000) (hE2 : E2 ≤ 1000000) (hK' : K' ≤ 1000) (hE' : E' ≤ 1000000) (J : Nat) (hE0 : ∀ args w', Sem.run Tryz.prog (callFunc J args) w' = .ok (.enter J args) w') (F : List Int → List Int → List Int)
    (hJ : ∀ wq i (x y : List Int) hd ke, EZ K E wq B T x hd → EZ L E2 wq B2 T2 y ke → tr x = tr (gt zss i) → tr y = tr (gt yss i) → Calls Tryz.prog J #[Hdr.val hd, Hdr.val ke] wq (PnP (F (tr (gt zss i)) (tr (gt yss i))) K' wq)) (hF : ∀ i, (F (tr (gt zss i)) (tr (gt yss i))).length ≤ E') :
    Calls Tryz.prog 79 #[.slice h.p h.n h.c, .slice k.p k.n k.c, .func (.func J) #[] #[]] w (OpP ((List.range (max (olen zss) (olen yss))).map fun i => F (tr (gt zss i)) (tr (gt yss i))) K' E' w) := by
  have ht := fun w' (hb : Below w.heap.size w w') => otrim_any ((lasts_HR (lasts_EZ L E2)).below G hT2 hb) (Nat.le_trans hT2 hb.size) (by omega) hE2
  have hs := otrim_any H hT (by omega) hE
  obtain ⟨hs1, kh⟩ := H
  obtain ⟨hs2, kk⟩ := G
  have hol := olen_le zss
  have hol2 := olen_le yss
  have hm : olen zss ≤ D := by have h1 := kh.tl; have h2 := kh.few; omega
  have hm2 : olen yss ≤ D2 := by have h1 := kk.tl; have h2 := kk.few; omega
  have HX : Hid (HR D (EZ K E) w B T (zss.take (olen zss)) ⟨h.p, olen zss, olen zss⟩ ∧ T ≤ w.heap.size) := ⟨⟨_, kh.cut _ (by have := kh.tl; omega)⟩, hT⟩
  have HY : Hid (HR D2 (EZ L E2) w B2 T2 (yss.take (olen yss)) ⟨k.p, olen yss, olen yss⟩ ∧ T2 ≤ w.heap.size) := ⟨⟨_, kk.cut _ (by have := kk.tl; omega)⟩, hT2⟩
  obtain ⟨p, n, nc⟩ := h
  obtain ⟨q, m, mc⟩ := k
  simp only at ht hs HX HY ⊢
  have HJ := (show Hid _ from hJ)
  have HF := (show Hid _ from hF)
  clear hJ hF kh kk hT hT2 hol hol2
  have HOL : Hid (olen zss ≤ D ∧ olen yss ≤ D2) := ⟨hm, hm2⟩
  generalize hz : olen zss = a at *
  generalize hy : olen yss = b at *
  obtain ⟨M, hM⟩ : ∃ M, M = max a b := ⟨_, rfl⟩
  rw [← hM]
  have hmk := mk_ops M (by omega)
  have q1 : max (a : Int) (b : Int) = (M : Int) := by omega
  have HM : Hid (M = max a b) := hM
  have hM3 : M ≤ 1000 := by omega
  clear hM
  go_enter Tryz.func79, Tryz.ntmps79
  go_wp2_with fail
  go_fit hs
  rintro e w1 ⟨rfl, hb1⟩
  have HB1 : Hid (Below w.heap.size w w1) := hb1
  have ht1 := ht w1 hb1
  clear hs ht hb1
  go_wp2_with fail
  go_fit ht1
  rintro e w2 ⟨rfl, hb2⟩
  have HB2 : Hid (Below w.heap.size w w2) := bnext' HB1.out hb2
  clear ht1 hb2 HB1
  go_wp2_with fail
  have HO : Hid (CB (fun i => F (tr (gt zss i)) (tr (gt yss i))) K' E' w2.heap.size M 0 w (w2.alloc (.cells ((hzs M).map Hdr.val).toArray 23))) :=
    ⟨hzs M, heap_alloc_new w2 _, by simp [hzs], fun r hr => absurd hr (Nat.not_lt_zero r), HB2.out.alloc HB2.out.size _, HB2.out.size⟩
  have HG1 : Hid (w.heap.size ≤ w2.heap.size) := HB2.out.size
  generalize w2.alloc (.cells ((hzs M).map Hdr.val).toArray 23) = W1 at *
  generalize w2.heap.size = g at *
  clear hmk HB2
  go_loopw [21] (fun kv wr => ∃ i : Nat, i ≤ M ∧ kv = .int .i64 i ∧ Hid (CB (fun i => F (tr (gt zss i)) (tr (gt yss i))) K' E' g M i w wr)) (fun kv _ => M - (intOf kv).toNat)
  case atStart => exact ⟨0, Nat.zero_le _, by go_num, HO.out⟩
  case round =>
    obtain ⟨i, hi, rfl, G⟩ := hrel
    rcases Nat.lt_or_ge i M with hlt | hge
    · obtain ⟨os, g1, g2, g3, g4, g5⟩ := G.out
      have i1 : (i : Int) < (M : Int) := by omega
      have ha := oentry_any ((lasts_HR (lasts_EZ K E)).below HX.out.1 HX.out.2 g4) i hD (by omega)
      have hb := oentry_any ((lasts_HR (lasts_EZ L E2)).below HY.out.1 HY.out.2 g4) i hD2 (by omega)
      have HT1 : Hid (tr (gt (zss.take a) i) = tr (gt zss i) ∧ tr (gt (yss.take b) i) = tr (gt yss i)) := by
        rw [← hz, ← hy]
        exact ⟨tr_cut zss i, tr_cut yss i⟩
      have hg1 := g1
      have hlg := g1.lt
      simp only at ha hb
      clear g1 g3
      go_wp2_with fail
      go_fit ha
      rintro e v1 ⟨⟨p2, n2, nc2⟩, rfl, e2, hw⟩
      subst v1
      have HE2 : Hid (EZ K E wr B T (gt (zss.take a) i) ⟨p2, n2, nc2⟩) := e2
      clear e2 ha
      simp only [Hdr.val]
      go_wp2_with fail
      go_fit hb
      rintro e v1 ⟨⟨p3, n3, nc3⟩, rfl, e3, hw⟩
      subst v1
      have hcall := HJ.out wr i _ _ _ _ HE2.out e3 HT1.out.1 HT1.out.2
      clear e3 hb HE2
      simp only [Hdr.val] at hcall ⊢
      go_wp2_with fail
      go_fit hcall
      rintro e v3 ⟨p8, n8, es8, rfl, hN8, hb3⟩
      have z0 := (hg1.below hb3 hlg).cell i (by omega)
      have f0 := (hg1.below hb3 hlg).frozen i
      have hle : n8 ≤ E' := by have h1 := HF.out i; rw [hN8.zl] at h1; exact h1
      have hstep := G.out.step hlt hb3 (hN8.mono hlg) hle
      have HST := (show Hid _ from hstep)
      clear hstep hN8 hb3 hcall
      go_wp2
      go_roundw
      case rel => exact ⟨i + 1, by omega, by go_num, HST.out⟩
      case measure => simp [intOf]; omega
    · obtain rfl : i = M := by omega
      have i1 : ¬ (i : Int) < (i : Int) := by omega
      obtain ⟨os, hN⟩ := G.out.no
      have HBW : Hid (Below w.heap.size w wr) := by obtain ⟨_, _, _, _, h4, _⟩ := G.out; exact h4
      have ht2 := otrim_any (hN.hr hK' hE' (by omega)) (Nat.le_refl _) (by omega) hE'
      have HN : Hid (NO g wr K' E' ((List.range i).map fun i => F (tr (gt zss i)) (tr (gt yss i))) (some ⟨g, 0, none⟩) i os) := hN
      simp only at ht2
      clear hN G
      go_wp2_with fail
      go_fit ht2
      rintro e w3 ⟨rfl, hb3⟩
      have hle := olen_le ((List.range i).map fun i => F (tr (gt zss i)) (tr (gt yss i)))
      rw [List.length_map, List.length_range] at hle
      have HR' : Hid (OpP ((List.range i).map fun i => F (tr (gt zss i)) (tr (gt yss i))) K' E' w (.returned (.slice (some ⟨g, 0, none⟩) (olen ((List.range i).map fun i => F (tr (gt zss i)) (tr (gt yss i)))) (olen ((List.range i).map fun i => F (tr (gt zss i)) (tr (gt yss i)))))) w3) :=
        ⟨some ⟨g, 0, none⟩, os.take _, rfl, ((HN.out.below hb3).cut hle).mono HG1.out, bnext' HBW.out hb3⟩
      clear hb3 ht2 hle
      generalize olen ((List.range i).map fun i => F (tr (gt zss i)) (tr (gt yss i))) = q at *
      go_wp2
      go_ret
      exact HR'.out
theorem callAddU (args : Array Value) (w' : World) : Sem.run Tryz.prog (callFunc 77 args) w' = .ok (.enter 77 args) w' := by
  have h1 : ¬ Tryz.f77.name = "runtime.NumGoroutine" := of_decide_eq_false (by kernel_rfl)
  have h2 : ¬ Tryz.f77.body = none := fun h => by cases h
  simp only [callFunc, Tryz.func77, go_sem]
  simp [h1, h2, go_sem]
theorem pzlen (f : Int → Int → Int) (a b : List Int) (E : Nat) (ha : a.length ≤ E) (hb : b.length ≤ E) : (tr (pz f (tr a) (tr b))).length ≤ E := by
  rw [length_tr]
  refine Nat.le_trans (tlen_le _) ?_
  have h1 := length_tr a
  have h2 := length_tr b
  have h3 := tlen_le a
  have h4 := tlen_le b
  simp only [pz, List.length_map, List.length_range]
  omega
def opz (f : Int → Int → Int) (a b : List (List Int)) : List (List Int) := (List.range (max (olen a) (olen b))).map fun i => tr (pz f (tr (gt a i)) (tr (gt b i)))
theorem oAdd_any {w : World} {B T K E D B2 T2 L D2 : Nat} {zss yss : List (List Int)} {h k : Hdr} (H : HR D (EZ K E) w B T zss h) (G : HR D2 (EZ L E) w B2 T2 yss k) (hT : T ≤ w.heap.size) (hT2 : T2 ≤ w.heap.size) (hD : D ≤ 1000) (hD2 : D2 ≤ 1000) (hE : E ≤ 1000000) (hK : K + L + 1 ≤ 1000) :
    Calls Tryz.prog 31 #[.slice h.p h.n h.c, .slice k.p k.n k.c] w (OpP (opz (· + ·) zss yss) (K + L + 1) E w) := by
  have hc := combine_any (K' := K + L + 1) (E' := E) H G hT hT2 hD hD2 hE hE hK hE 77 callAddU (fun x y => tr (pz (· + ·) x y)) (fun wq i x y hd ke hx hy ex ey => by
    obtain ⟨fs, hP, hd3, -⟩ := hx
    obtain ⟨gs, hQ, hd4, -⟩ := hy
    have := uAdd_any hP hQ (by omega) (by omega) hK
    rw [ex, ey] at this
    exact this) (fun i => pzlen _ _ _ E (hr_len H i) (hr_len G i))
  clear H G
  obtain ⟨p, n, nc⟩ := h
  obtain ⟨q, m, mc⟩ := k
  change Calls _ _ _ _ (OpP (opz (· + ·) zss yss) (K + L + 1) E w) at hc
  simp only at hc ⊢
  generalize opz (· + ·) zss yss = l at *
  go_enter Tryz.func31, Tryz.ntmps31
  go_wp2_with fail
  go_fit hc
  rintro e w1 ⟨q, hs, rfl, h1, h2⟩
  have HR' : Hid (OpP l (K + L + 1) E w (.returned (.slice q (olen l) (olen l))) w1) := ⟨q, hs, rfl, h1, h2⟩
  clear hc h1 h2
  generalize olen l = m at *
  go_wp2
  go_ret
  exact HR'.out
theorem pb_trim (zs : List Int) : pb (tr zs) = pb zs := by
  have step : ∀ j, tlen zs ≤ j → j ≤ zs.length → pb (zs.take j) = pb (tr zs) := by
    intro j
    induction j with
    | zero => intro h1 _; have : tlen zs = 0 := by omega
              rw [tr, this]
    | succ j ih =>
      intro h1 h2
      rcases Nat.lt_or_ge j (tlen zs) with h | h
      · have : tlen zs = j + 1 := by omega
        rw [tr, this]
      · rw [pb_take zs j (by omega), ih h (by omega), tlen_zero zs j h, show zb 0 = 0 from rfl, Nat.max_zero]
  have := step zs.length (tlen_le zs) (Nat.le_refl _)
  rw [List.take_length] at this
  exact this.symm
theorem pb_few {w : World} {K : Nat} {p : Option Addr} {n nc : Nat} {es : List Ent} {zs : List Int} (h : PA w K p n nc es zs) : pb zs ≤ 32 * K := by
  have key : ∀ j, j ≤ zs.length → pb (zs.take j) ≤ 32 * K := by
    intro j
    induction j with
    | zero => intro _; simp [pb]
    | succ j ih =>
      intro hj
      rw [pb_take zs j (by omega)]
      have h1 := ih (by omega)
      have h2 := zb_le (h.ev j (by have := h.zl; omega))
      omega
  have := key zs.length (Nat.le_refl _)
  rw [List.take_length] at this
  exact this
theorem pb_le_of (zs : List Int) (K : Nat) (h : ∀ j, j < zs.length → zb (gx zs j) ≤ K) : ∀ j, j ≤ zs.length → pb (zs.take j) ≤ K
  | 0, _ => by simp [pb]
  | j + 1, hj => by
    rw [pb_take zs j (by omega)]
    have := pb_le_of zs K h j (by omega)
    have := h j (by omega)
    omega
theorem zb_pb (zs : List Int) (j : Nat) (h : j < zs.length) : zb (gx zs j) ≤ pb zs := by
  have h1 : ∀ k, j < k → k ≤ zs.length → zb (gx zs j) ≤ pb (zs.take k) := by
    intro k
    induction k with
    | zero => intro h; omega
    | succ k ih =>
      intro h1 h2
      rw [pb_take zs k (by omega)]
      rcases Nat.lt_or_ge j k with h3 | h3
      · have := ih h3 (by omega)
        omega
      · have : k = j := by omega
        subst this
        omega
  have := h1 zs.length h (Nat.le_refl _)
  rwa [List.take_length] at this
theorem callScaleO (args : Array Value) (w' : World) : Sem.run Tryz.prog (callFunc 206 args) w' = .ok (.enter 206 args) w' := by
  have h1 : ¬ Tryz.f206.name = "runtime.NumGoroutine" := of_decide_eq_false (by kernel_rfl)
  have h2 : ¬ Tryz.f206.body = none := fun h => by cases h
  simp only [callFunc, Tryz.func206, go_sem]
  simp [h1, h2, go_sem]
theorem Cmp_any (s t : Bool) (p q : Option Addr) (n nc m mc : Nat) (xs ys : List Int) (w : World) (hA : AI w p n nc xs) (hB : AI w q m mc ys) :
    Calls Tryz.prog 153 #[.agg #[.bool s, .slice p n nc], .agg #[.bool t, .slice q m mc]] w fun e w' => e = .returned (.int .i64 (icmp (ival s xs) (ival t ys))) ∧ Below w.heap.size w w' := by
  have hd : Hid (isgn (ival s xs) = isgn (ival t ys) ∨ isgn (ival s xs) ≠ isgn (ival t ys)) := Classical.em _
  have q1 : -1 ≤ isgn (ival s xs) ∧ isgn (ival s xs) ≤ 1 := by rcases isgn_cases (ival s xs) with h | h | h <;> omega
  have q2 : -1 ≤ icmp (val xs) (val ys) ∧ icmp (val xs) (val ys) ≤ 1 := by unfold icmp; split <;> (try split) <;> decide
  obtain ⟨q1, q1'⟩ := q1
  obtain ⟨q2, q2'⟩ := q2
  go_enter Tryz.func153, Tryz.ntmps153
  go_wp2_with fail
  have hX0 := boxes2 w (.bool s) (.slice p n nc) (.bool t) (.slice q m mc) 26 26
  generalize ((w.alloc (Obj.cells #[Value.bool s, Value.slice p n nc] 26)).alloc (Obj.cells #[Value.bool t, Value.slice q m mc] 26)) = W0 at *
  refine (Sign_any s p n nc xs _ (hA.below hX0.below)).mono ?_
  rintro e W1 ⟨rfl, hb0⟩
  have hX1 := hX0.later hb0
  clear hX0 hb0 W0
  have k0 := hX1.ca0
  have k1 := hX1.ca1
  have k2 := hX1.cb0
  have k3 := hX1.cb1
  go_wp2_with fail
  refine (Sign_any t q m mc ys _ (hB.below hX1.below)).mono ?_
  rintro e W ⟨rfl, hb0⟩
  have hX := hX1.later hb0
  clear hX1 hb0 k0 k1 k2 k3 W1
  have k0 := hX.ca0
  have k1 := hX.ca1
  have k2 := hX.cb0
  have k3 := hX.cb1
  rcases hd.out with h | h
  · have hne : (isgn (ival s xs) != isgn (ival t ys)) = false := by rw [h]; simp
    have H : Hid (isgn (ival s xs) = isgn (ival t ys)) := h
    clear h hd
    go_wp2_with fail
    have hA' := hA.below hX.below
    have hB' := hB.below hX.below
    refine (compare_any p q n nc m mc xs ys _ hA.len hB.len hA.cap hA.bnd hB.cap hB.bnd hA'.rd hA.u hB'.rd hB.u).mono ?_
    rintro e w1 ⟨rfl, hb1⟩
    have hw : wrap64 (isgn (ival s xs) * icmp (val xs) (val ys)) = icmp (ival s xs) (ival t ys) := by
      rw [icmp_same hA.u hB.u H.out]
      unfold icmp; split <;> (try split) <;> simp [wrap64, IntKind.wrap, IntKind.bits, IntKind.signed]
    go_wp2
    go_ret
    refine ⟨?_, hX.below.trans (hb1.mono hX.below.size)⟩
    first
      | exact ret_int hw
      | exact ret_int (icmp_same hA.u hB.u H.out)
      | rfl
  · have hne : (isgn (ival s xs) != isgn (ival t ys)) = true := by rw [bne_iff_ne]; exact h
    clear hd
    go_wp2_with fail
    refine (compareInt_any _ _ _).mono ?_
    rintro e w1 ⟨rfl, rfl⟩
    go_wp2
    go_ret
    exact ⟨ret_int (icmp_isgn h), hX.below⟩
theorem Cmp_ev {w : World} {K L : Nat} {x y : Int} {e f : Ent} (h : EV w K x e) (k : EV w L y f) : Calls Tryz.prog 153 #[.agg #[.bool e.s, .slice e.p e.n e.c], .agg #[.bool f.s, .slice f.p f.n f.c]] w fun r w' => r = .returned (.int .i64 (icmp x y)) ∧ Below w.heap.size w w' := by
  obtain ⟨xs, h1, rfl, h3⟩ := h
  obtain ⟨ys, k1, rfl, k3⟩ := k
  exact Cmp_any e.s f.s e.p f.p e.n e.c f.n f.c xs ys w h1 k1
theorem icmp_dec (x y : Int) : (icmp x y == 0) = decide (x = y) := by
  unfold icmp
  rcases Int.lt_trichotomy x y with h | h | h
  · rw [if_pos h]; simp; omega
  · subst h; simp
  · rw [if_neg (by omega), if_pos h]; simp; omega
set_option maxRecDepth 100000 in
theorem eqSame_any {w : World} {K L : Nat} {x y : Int} {e f : Ent} (h : EV w K x e) (k : EV w L y f) : Calls Tryz.prog 152 #[.agg #[.bool e.s, .slice e.p e.n e.c], .agg #[.bool f.s, .slice f.p f.n f.c]] w fun r w' => r = .returned (.bool (decide (x = y))) ∧ Below w.heap.size w w' := by
  have hd : Hid ((icmp x y == 0) = decide (x = y)) := icmp_dec x y
  go_enter Tryz.func152, Tryz.ntmps152
  go_wp2_with fail
  have hW : Below w.heap.size w ((w.alloc (.cells #[.bool e.s, .slice e.p e.n e.c] 26)).alloc (.cells #[.bool f.s, .slice f.p f.n f.c] 26)) := ((Below.refl _ _).alloc (Nat.le_refl _) _).alloc (by simp) _
  generalize (w.alloc (.cells #[.bool e.s, .slice e.p e.n e.c] 26)).alloc (.cells #[.bool f.s, .slice f.p f.n f.c] 26) = W at *
  refine (Cmp_ev (h.below hW) (k.below hW)).mono ?_
  rintro r w1 ⟨rfl, hb1⟩
  go_wp2
  go_ret
  exact ⟨by rw [hd.out]; rfl, bnext' hW hb1⟩
theorem callSame (args : Array Value) (w' : World) : Sem.run Tryz.prog (callFunc 152 args) w' = .ok (.enter 152 args) w' := by
  have h1 : ¬ Tryz.f152.name = "runtime.NumGoroutine" := of_decide_eq_false (by kernel_rfl)
  have h2 : ¬ Tryz.f152.body = none := fun h => by cases h
  simp only [callFunc, Tryz.func152, go_sem]
  simp [h1, h2, go_sem]
set_option maxRecDepth 100000 in
theorem eqFunc_any {w : World} {K L : Nat} {p q : Option Addr} {n nc m mc : Nat} {es fs : List Ent} {zs ys : List Int} (h : PA w K p n nc es zs) (k : PA w L q m mc fs ys) (hn : n ≤ 1000000) (hm : m ≤ 1000000) :
    Calls Tryz.prog 154 #[.slice p n nc, .slice q m mc, .func (.func 152) #[] #[]] w fun r w' => r = .returned (.bool (decide (zs = ys))) ∧ Below w.heap.size w w' := by
  have hel := h.el
  have hfl := k.el
  have hzl := h.zl
  have hyl := k.zl
  by_cases hnm : n = m
  · subst hnm
    go_enter Tryz.func154, Tryz.ntmps154
    go_wp2_with fail
    have hE := callSame
    go_loopw [7, 8, 9, 17] (fun iv av bv kv wr => ∃ j : Nat, j ≤ n ∧ kv = .int .i64 j ∧ Hid ((∀ i, i < j → gx zs i = gx ys i) ∧ Below w.heap.size w wr)) (fun _ _ _ kv _ => n - (intOf kv).toNat)
    case atStart => exact ⟨0, Nat.zero_le _, by go_num, fun i hi => by omega, Below.refl _ _⟩
    case round =>
      obtain ⟨j, hj, rfl, H⟩ := hrel
      rcases Nat.lt_or_ge j n with hlt | hge
      · have hh := h.below H.out.2
        have hk := k.below H.out.2
        have hv := hh.ev j hlt
        have hw := hk.ev j hlt
        obtain ⟨b, o, hp, hc⟩ := hh.pl (by omega)
        obtain ⟨c, r, hq, hd⟩ := hk.pl (by omega)
        subst hp hq
        obtain ⟨c0, c1⟩ := hc j (by omega)
        obtain ⟨d0, d1⟩ := hd j (by omega)
        have sb : b < wr.heap.size := block_lt_of_cell c0
        have sc : c < wr.heap.size := block_lt_of_cell d0
        clear hc hd hh hk
        go_wp2_with fail
        have hal := bel_al (o := .cells #[.bool (ge fs j).s, .slice (ge fs j).p (ge fs j).n (ge fs j).c] 26) (bel_al (o := .cells #[.bool (ge es j).s, .slice (ge es j).p (ge es j).n (ge es j).c] 26) (Below.refl wr.heap.size wr))
        refine (eqSame_any (hv.below hal) (hw.below hal)).mono ?_
        rintro e w1 ⟨rfl, hb1⟩
        have hB := bnext' H.out.2 (bnext' hal hb1)
        have hcs : Hid (gx zs j = gx ys j ∨ ¬ gx zs j = gx ys j) := Classical.em _
        clear c0 c1 d0 d1 hv hw hal hb1 sb sc
        rcases hcs.out with hz | hz
        · rw [decide_eq_true hz]
          have HZ : Hid (gx zs j = gx ys j) := hz
          clear hz hcs
          go_wp2
          go_roundw
          case rel => exact ⟨j + 1, by omega, by go_num, fun i hi => by
            rcases Nat.lt_or_ge i j with h' | h'
            · exact H.out.1 i h'
            · obtain rfl : i = j := by omega
              exact HZ.out, hB⟩
          case measure => simp [intOf]; omega
        · rw [decide_eq_false hz]
          have HD : Hid (decide (zs = ys) = false) := decide_eq_false fun e => hz (by rw [e])
          clear hz hcs
          go_wp2
          go_ret
          exact ⟨by rw [HD.out]; rfl, hB⟩
      · obtain rfl : j = n := by omega
        have HD : Hid (decide (zs = ys) = true) := decide_eq_true (gx_ext _ _ (by omega) fun i hi => H.out.1 i (by omega))
        have hB := H.out.2
        clear hge
        go_wp2
        go_ret
        exact ⟨by rw [HD.out]; rfl, hB⟩
  · have hne : ¬ zs = ys := fun e => hnm (by rw [← hzl, ← hyl, e])
    have HD : Hid (decide (zs = ys) = false) := decide_eq_false hne
    have hI : ((n : Int) != (m : Int)) = true := by rw [bne_iff_ne]; omega
    clear hne hel hfl hzl hyl
    go_enter Tryz.func154, Tryz.ntmps154
    go_wp2
    go_ret
    exact ⟨by rw [HD.out]; rfl, Below.refl _ _⟩
set_option maxRecDepth 100000 in
theorem uEq_any {w : World} {K L : Nat} {p q : Option Addr} {n nc m mc : Nat} {es fs : List Ent} {zs ys : List Int} (h : PA w K p n nc es zs) (k : PA w L q m mc fs ys) (hn : n ≤ 1000000) (hm : m ≤ 1000000) :
    Calls Tryz.prog 81 #[.slice p n nc, .slice q m mc] w fun r w' => r = .returned (.bool (decide (tr zs = tr ys))) ∧ Below w.heap.size w w' := by
  have htl := tlen_le zs
  have htl' := tlen_le ys
  have hzl := h.zl
  have hyl := k.zl
  go_enter Tryz.func81, Tryz.ntmps81
  go_wp2_with fail
  refine (utrim_any K p n nc es zs _ h hn).mono ?_
  rintro e w1 ⟨rfl, hb1⟩
  go_wp2_with fail
  refine (utrim_any L q m mc fs ys _ (k.below hb1) hm).mono ?_
  rintro e w2 ⟨rfl, hb2⟩
  have h2 := ((h.below hb1).below hb2).trim
  have k2 := ((k.below hb1).below hb2).trim
  go_wp2_with fail
  refine (eqFunc_any h2 k2 (by omega) (by omega)).mono ?_
  rintro e w3 ⟨rfl, hb3⟩
  go_wp2
  go_ret
  exact ⟨rfl, bnext' (bnext' hb1 hb2) hb3⟩
end Go.Proofs.YtejnhpjejcpekaaGreatDoor
