/-
  ore.entry, combine, Add, Sub.
-/
import Derived.Test.YtejnhpjejcpekaaGreatDoorAcDsAeAfBnBoBrBpAh
import Derived.Test.YtejnhpjejcpekaaGreatDoorUiWiWj
import Derived.Deep.DeepFit
import Derived.Test.YtejnhpjejcpekaaGreatDoorUeUfUgHdNb
import Derived.Test.YtejnhpjejcpekaaGreatDoorFyUjBsLeUk
import Derived.Test.YtejnhpjejcpekaaGreatDoorCyViVuWxUpUqRmRpDkDlDbRiRjRgRkVqDcUmUoDmDvPmHuVsVtVy
import Derived.Test.YtejnhpjejcpekaaGreatDoorByDqUxUtUvUwUyUzUrUsHaHbHcWvUhHeVvCu
import Derived.Test.YtejnhpjejcpekaaGreatDoorRhCqRrRwVaVg
import Derived.Test.YtejnhpjejcpekaaGreatDoorWlBxBbCvNjUbUcUdOwRaWmBeRd
import Derived.Test.YtejnhpjejcpekaaGreatDoorOaOfJpRzCwDjVkJoNcOn
import Derived.Test.YtejnhpjejcpekaaGreatDoorLnWrIbWg
import Derived.Test.YtejnhpjejcpekaaGreatDoorRoVbDaCxRb
namespace Go.Proofs.YtejnhpjejcpekaaGreatDoor
open Go.RowKit
set_option linter.unusedVariables false
set_option linter.unusedSimpArgs false
set_option maxHeartbeats 8000000
theorem ez_nil (K E : Nat) (w : World) (B T : Nat) : EZ K E w B T [] ⟨none, 0, 0⟩ :=
  ⟨[], ⟨rfl, rfl, Nat.le_refl _, Nat.zero_le _, fun _ => rfl, PL.nil, fun j hj => absurd hj (Nat.not_lt_zero j)⟩, Nat.zero_le _, nofun, fun j hj => absurd hj (Nat.not_lt_zero j)⟩
theorem oentry_any {w : World} {B T K E D : Nat} {zss : List (List Int)} {h : Hdr} (H : HR D (EZ K E) w B T zss h) (i : Nat) (hD : D ≤ 1000) (hi : i ≤ 1000) :
    Calls Tryz.prog 151 #[.slice h.p h.n h.c, .int .i64 i] w fun e w' => ∃ hd, e = .returned (Hdr.val hd) ∧ EZ K E w B T (gt zss i) hd ∧ w' = w := by
  obtain ⟨hs, k⟩ := H
  have HX : Hid (HRow D (EZ K E) w B T zss h hs) := k
  have hn := k.few
  obtain ⟨p, n, nc⟩ := h
  simp only at hn ⊢
  clear k
  rcases Nat.lt_or_ge i n with hlt | hge
  · obtain ⟨b, o, hp, hc⟩ := HX.out.hl (by rw [HX.out.el]; show 0 < n; omega)
    simp only at hp
    subst hp
    have c0 := hc i (by rw [HX.out.el]; exact hlt)
    have HE : Hid (EZ K E w B T (gt zss i) (gh hs i)) := HX.out.ev i hlt
    have i1 : (i : Int) < (n : Int) := by omega
    generalize gh hs i = hd at c0 HE
    obtain ⟨p2, n2, nc2⟩ := hd
    simp only [Hdr.val] at c0
    clear hc
    go_enter Tryz.func151, Tryz.ntmps151
    go_wp2
    go_ret
    exact ⟨⟨p2, n2, nc2⟩, rfl, HE.out, rfl⟩
  · have HE : Hid (EZ K E w B T (gt zss i) ⟨none, 0, 0⟩) := by
      rw [gt_over0 _ _ (by have := HX.out.tl; simp only at this; omega)]
      exact ez_nil K E w B T
    have i1 : ¬ (i : Int) < (n : Int) := by omega
    go_enter Tryz.func151, Tryz.ntmps151
    go_wp2
    go_ret
    exact ⟨⟨none, 0, 0⟩, rfl, HE.out, rfl⟩
theorem tr_cut (zss : List (List Int)) (i : Nat) : tr (gt (zss.take (olen zss)) i) = tr (gt zss i) := by
  rcases Nat.lt_or_ge i (olen zss) with h | h
  · rw [gt_take _ _ _ h]
  · rw [gt_over0 _ _ (by have := olen_le zss; simp; omega)]
    have h1 := olen_zero zss i h
    rw [tr, tr, h1]
    simp
set_option maxRecDepth 100000 in
theorem combine_any {w : World} {B T K E D B2 T2 L E2 D2 K' E' : Nat} {zss yss : List (List Int)} {h k : Hdr} (H : HR D (EZ K E) w B T zss h) (G : HR D2 (EZ L E2) w B2 T2 yss k) (hT : T ≤ w.heap.size) (hT2 : T2 ≤ w.heap.size) (hD : D ≤ 1000) (hD2 : D2 ≤ 1000) (hE : E ≤ 1000000) (hE2 : E2 ≤ 1000000) (hK' : K' ≤ 1000) (hE' : E' ≤ 1000000) (J : Nat) (hE0 : ∀ args w', Sem.run Tryz.prog (callFunc J args) w' = .ok (.enter J args) w') (F : List Int → List Int → List Int)
    (hJ : ∀ wq i (x y : List Int) hd ke, EZ K E wq B T x hd → EZ L E2 wq B2 T2 y ke → tr x = tr (gt zss i) → tr y = tr (gt yss i) → Calls Tryz.prog J #[Hdr.val hd, Hdr.val ke] wq (PnP (F (tr (gt zss i)) (tr (gt yss i))) K' wq)) (hF : ∀ i, (F (tr (gt zss i)) (tr (gt yss i))).length ≤ E') :
    Calls Tryz.prog 79 #[.slice h.p h.n h.c, .slice k.p k.n k.c, .func (.func J) #[] #[]] w (OpP ((List.range (max (olen zss) (olen yss))).map fun i => F (tr (gt zss i)) (tr (gt yss i))) K' E' w) := by
  have ht := fun w' (hb : Below w.heap.size w w') => otrim_any ((lasts_HR (lasts_EZ L E2)).below G hT2 hb) (Nat.le_trans hT2 hb.size) (by omega) hE2
  have hs := otrim_any H hT (by omega) hE
  obtain ⟨hs1, kh⟩ := H
  obtain ⟨hs2, kk⟩ := G
  have hol := olen_le zss
  have hol2 := olen_le yss
  have hm : olen zss ≤ D := by have h1 := kh.tl; have h2 := kh.few; omega
  have hm2 : olen yss ≤ D2 := by have h1 := kk.tl; have h2 := kk.few; omega
  have HX : Hid (HR D (EZ K E) w B T (zss.take (olen zss)) ⟨h.p, olen zss, olen zss⟩ ∧ T ≤ w.heap.size) := ⟨⟨_, kh.cut _ (by have := kh.tl; omega)⟩, hT⟩
  have HY : Hid (HR D2 (EZ L E2) w B2 T2 (yss.take (olen yss)) ⟨k.p, olen yss, olen yss⟩ ∧ T2 ≤ w.heap.size) := ⟨⟨_, kk.cut _ (by have := kk.tl; omega)⟩, hT2⟩
  obtain ⟨p, n, nc⟩ := h
  obtain ⟨q, m, mc⟩ := k
  simp only at ht hs HX HY ⊢
  have HJ := (show Hid _ from hJ)
  have HF := (show Hid _ from hF)
  clear hJ hF kh kk hT hT2 hol hol2
  have HOL : Hid (olen zss ≤ D ∧ olen yss ≤ D2) := ⟨hm, hm2⟩
  generalize hz : olen zss = a at *
  generalize hy : olen yss = b at *
  obtain ⟨M, hM⟩ : ∃ M, M = max a b := ⟨_, rfl⟩
  rw [← hM]
  have hmk := mk_ops M (by omega)
  have q1 : max (a : Int) (b : Int) = (M : Int) := by omega
  have HM : Hid (M = max a b) := hM
  have hM3 : M ≤ 1000 := by omega
  clear hM
  go_enter Tryz.func79, Tryz.ntmps79
  go_wp2_with fail
  go_fit hs
  rintro e w1 ⟨rfl, hb1⟩
  have HB1 : Hid (Below w.heap.size w w1) := hb1
  have ht1 := ht w1 hb1
  clear hs ht hb1
  go_wp2_with fail
  go_fit ht1
  rintro e w2 ⟨rfl, hb2⟩
  have HB2 : Hid (Below w.heap.size w w2) := bnext' HB1.out hb2
  clear ht1 hb2 HB1
  go_wp2_with fail
  have HO : Hid (CB (fun i => F (tr (gt zss i)) (tr (gt yss i))) K' E' w2.heap.size M 0 w (w2.alloc (.cells ((hzs M).map Hdr.val).toArray 23))) :=
    ⟨hzs M, heap_alloc_new w2 _, by simp [hzs], fun r hr => absurd hr (Nat.not_lt_zero r), HB2.out.alloc HB2.out.size _, HB2.out.size⟩
  have HG1 : Hid (w.heap.size ≤ w2.heap.size) := HB2.out.size
  generalize w2.alloc (.cells ((hzs M).map Hdr.val).toArray 23) = W1 at *
  generalize w2.heap.size = g at *
  clear hmk HB2
  go_loopw [21] (fun kv wr => ∃ i : Nat, i ≤ M ∧ kv = .int .i64 i ∧ Hid (CB (fun i => F (tr (gt zss i)) (tr (gt yss i))) K' E' g M i w wr)) (fun kv _ => M - (intOf kv).toNat)
  case atStart => exact ⟨0, Nat.zero_le _, by go_num, HO.out⟩
  case round =>
    obtain ⟨i, hi, rfl, G⟩ := hrel
    rcases Nat.lt_or_ge i M with hlt | hge
    · obtain ⟨os, g1, g2, g3, g4, g5⟩ := G.out
      have i1 : (i : Int) < (M : Int) := by omega
      have ha := oentry_any ((lasts_HR (lasts_EZ K E)).below HX.out.1 HX.out.2 g4) i hD (by omega)
      have hb := oentry_any ((lasts_HR (lasts_EZ L E2)).below HY.out.1 HY.out.2 g4) i hD2 (by omega)
      have HT1 : Hid (tr (gt (zss.take a) i) = tr (gt zss i) ∧ tr (gt (yss.take b) i) = tr (gt yss i)) := by
        rw [← hz, ← hy]
        exact ⟨tr_cut zss i, tr_cut yss i⟩
      have hg1 := g1
      have hlg := g1.lt
      simp only at ha hb
      clear g1 g3
      go_wp2_with fail
      go_fit ha
      rintro e v1 ⟨⟨p2, n2, nc2⟩, rfl, e2, hw⟩
      subst v1
      have HE2 : Hid (EZ K E wr B T (gt (zss.take a) i) ⟨p2, n2, nc2⟩) := e2
      clear e2 ha
      simp only [Hdr.val]
      go_wp2_with fail
      go_fit hb
      rintro e v1 ⟨⟨p3, n3, nc3⟩, rfl, e3, hw⟩
      subst v1
      have hcall := HJ.out wr i _ _ _ _ HE2.out e3 HT1.out.1 HT1.out.2
      clear e3 hb HE2
      simp only [Hdr.val] at hcall ⊢
      go_wp2_with fail
      go_fit hcall
      rintro e v3 ⟨p8, n8, es8, rfl, hN8, hb3⟩
      have z0 := (hg1.below hb3 hlg).cell i (by omega)
      have f0 := (hg1.below hb3 hlg).frozen i
      have hle : n8 ≤ E' := by have h1 := HF.out i; rw [hN8.zl] at h1; exact h1
      have hstep := G.out.step hlt hb3 (hN8.mono hlg) hle
      have HST := (show Hid _ from hstep)
      clear hstep hN8 hb3 hcall
      go_wp2
      go_roundw
      case rel => exact ⟨i + 1, by omega, by go_num, HST.out⟩
      case measure => simp [intOf]; omega
    · obtain rfl : i = M := by omega
      have i1 : ¬ (i : Int) < (i : Int) := by omega
      obtain ⟨os, hN⟩ := G.out.no
      have HBW : Hid (Below w.heap.size w wr) := by obtain ⟨_, _, _, _, h4, _⟩ := G.out; exact h4
      have ht2 := otrim_any (hN.hr hK' hE' (by omega)) (Nat.le_refl _) (by omega) hE'
      have HN : Hid (NO g wr K' E' ((List.range i).map fun i => F (tr (gt zss i)) (tr (gt yss i))) (some ⟨g, 0, none⟩) i os) := hN
      simp only at ht2
      clear hN G
      go_wp2_with fail
      go_fit ht2
      rintro e w3 ⟨rfl, hb3⟩
      have hle := olen_le ((List.range i).map fun i => F (tr (gt zss i)) (tr (gt yss i)))
      rw [List.length_map, List.length_range] at hle
      have HR' : Hid (OpP ((List.range i).map fun i => F (tr (gt zss i)) (tr (gt yss i))) K' E' w (.returned (.slice (some ⟨g, 0, none⟩) (olen ((List.range i).map fun i => F (tr (gt zss i)) (tr (gt yss i)))) (olen ((List.range i).map fun i => F (tr (gt zss i)) (tr (gt yss i)))))) w3) :=
        ⟨some ⟨g, 0, none⟩, os.take _, rfl, ((HN.out.below hb3).cut hle).mono HG1.out, bnext' HBW.out hb3⟩
      clear hb3 ht2 hle
      generalize olen ((List.range i).map fun i => F (tr (gt zss i)) (tr (gt yss i))) = q at *
      go_wp2
      go_ret
      exact HR'.out
theorem callAddU (args : Array Value) (w' : World) : Sem.run Tryz.prog (callFunc 77 args) w' = .ok (.enter 77 args) w' := by
  have h1 : ¬ Tryz.f77.name = "runtime.NumGoroutine" := of_decide_eq_false (by kernel_rfl)
  have h2 : ¬ Tryz.f77.body = none := fun h => by cases h
  simp only [callFunc, Tryz.func77, go_sem]
  simp [h1, h2, go_sem]
theorem pzlen (f : Int → Int → Int) (a b : List Int) (E : Nat) (ha : a.length ≤ E) (hb : b.length ≤ E) : (tr (pz f (tr a) (tr b))).length ≤ E := by
  rw [length_tr]
  refine Nat.le_trans (tlen_le _) ?_
  have h1 := length_tr a
  have h2 := length_tr b
  have h3 := tlen_le a
  have h4 := tlen_le b
  simp only [pz, List.length_map, List.length_range]
  omega
def opz (f : Int → Int → Int) (a b : List (List Int)) : List (List Int) := (List.range (max (olen a) (olen b))).map fun i => tr (pz f (tr (gt a i)) (tr (gt b i)))
theorem oAdd_any {w : World} {B T K E D B2 T2 L D2 : Nat} {zss yss : List (List Int)} {h k : Hdr} (H : HR D (EZ K E) w B T zss h) (G : HR D2 (EZ L E) w B2 T2 yss k) (hT : T ≤ w.heap.size) (hT2 : T2 ≤ w.heap.size) (hD : D ≤ 1000) (hD2 : D2 ≤ 1000) (hE : E ≤ 1000000) (hK : K + L + 1 ≤ 1000) :
    Calls Tryz.prog 31 #[.slice h.p h.n h.c, .slice k.p k.n k.c] w (OpP (opz (· + ·) zss yss) (K + L + 1) E w) := by
  have hc := combine_any (K' := K + L + 1) (E' := E) H G hT hT2 hD hD2 hE hE hK hE 77 callAddU (fun x y => tr (pz (· + ·) x y)) (fun wq i x y hd ke hx hy ex ey => by
    obtain ⟨fs, hP, hd3, -⟩ := hx
    obtain ⟨gs, hQ, hd4, -⟩ := hy
    have := uAdd_any hP hQ (by omega) (by omega) hK
    rw [ex, ey] at this
    exact this) (fun i => pzlen _ _ _ E (hr_len H i) (hr_len G i))
  clear H G
  obtain ⟨p, n, nc⟩ := h
  obtain ⟨q, m, mc⟩ := k
  change Calls _ _ _ _ (OpP (opz (· + ·) zss yss) (K + L + 1) E w) at hc
  simp only at hc ⊢
  generalize opz (· + ·) zss yss = l at *
  go_enter Tryz.func31, Tryz.ntmps31
  go_wp2_with fail
  go_fit hc
  rintro e w1 ⟨q, hs, rfl, h1, h2⟩
  have HR' : Hid (OpP l (K + L + 1) E w (.returned (.slice q (olen l) (olen l))) w1) := ⟨q, hs, rfl, h1, h2⟩
  clear hc h1 h2
  generalize olen l = m at *
  go_wp2
  go_ret
  exact HR'.out
theorem zb_pb (zs : List Int) (j : Nat) (h : j < zs.length) : zb (gx zs j) ≤ pb zs := by
  have h1 : ∀ k, j < k → k ≤ zs.length → zb (gx zs j) ≤ pb (zs.take k) := by
    intro k
    induction k with
    | zero => intro h; omega
    | succ k ih =>
      intro h1 h2
      rw [pb_take zs k (by omega)]
      rcases Nat.lt_or_ge j k with h3 | h3
      · have := ih h3 (by omega)
        omega
      · have : k = j := by omega
        subst this
        omega
  have := h1 zs.length h (Nat.le_refl _)
  rwa [List.take_length] at this
theorem callScaleO (args : Array Value) (w' : World) : Sem.run Tryz.prog (callFunc 206 args) w' = .ok (.enter 206 args) w' := by
  have h1 : ¬ Tryz.f206.name = "runtime.NumGoroutine" := of_decide_eq_false (by kernel_rfl)
  have h2 : ¬ Tryz.f206.body = none := fun h => by cases h
  simp only [callFunc, Tryz.func206, go_sem]
  simp [h1, h2, go_sem]
theorem rIs_e {B : Nat} {w : World} {K N : Nat} {z : Int} {e f : Ent} (h : NV B w K z e) (hK : K ≤ 1000) (k : RE w N z f) (hN : N ≤ 1000) :
    Calls Tryz.prog 52 #[.agg #[.bool e.s, .slice e.p e.n e.c], .agg #[.bool f.s, .slice f.p f.n f.c]] w fun r w' => r = .returned (.bool true) ∧ Below w.heap.size w w' := by
  obtain ⟨xs, h1, h2, h3⟩ := h
  obtain ⟨⟨ds, k1, k2, k3⟩, k4⟩ := k
  rw [h2, k4]
  exact rIs_any h1 (by omega) k1.len (by omega) k1.rd k1.u k1.nrm k1.sg k2
theorem NV.drew {B : Nat} {w : World} {K : Nat} {z : Int} {e : Ent} (h : NV B w K z e) : NV B w.drew K z e := by
  obtain ⟨xs, h1, h2⟩ := h
  exact ⟨xs, h1.drew, h2⟩
set_option maxRecDepth 100000 in
theorem rpIs_any {B : Nat} {w : World} {K N : Nat} {p q : Option Addr} {n nc : Nat} {es fs : List Ent} {zs : List Int} (h : PN B w K p n es zs) (k : PR w N q n nc fs zs) (hK : K ≤ 1000) (hN : N ≤ 1000) (hn : n ≤ 1000000) :
    Calls Tryz.prog 19 #[.slice p n n, .slice q n nc] w fun r w' => r = .returned (.bool true) ∧ Below w.heap.size w w' := by
  have hel := h.el
  have hfl := k.el
  go_enter Tryz.func19, Tryz.ntmps19
  go_wp2_with fail
  go_loopw [5, 6] (fun iv sv wr => ∃ j : Nat, j ≤ n ∧ iv = .int .i64 j ∧ Hid (Below w.heap.size w wr)) (fun iv _ _ => n - (intOf iv).toNat)
  case atStart => exact ⟨0, Nat.zero_le _, by go_num, Below.refl _ _⟩
  case round =>
    obtain ⟨j, hj, rfl, H⟩ := hrel
    rcases Nat.lt_or_ge j n with hlt | hge
    · have hh := h.below H.out
      have hk := k.below H.out
      have hv := hh.ev j hlt
      have hw := hk.ev j hlt
      obtain ⟨b, o, hp, hc⟩ := hh.pl (by omega)
      obtain ⟨c, r, hq, hd⟩ := hk.pl (by omega)
      subst hp hq
      obtain ⟨c0, c1⟩ := hc j (by omega)
      obtain ⟨d0, d1⟩ := hd j (by omega)
      clear hc hd hh hk
      go_wp2_with fail
      go_region_held3 (fun w' => w'.cell? ⟨b, o + j * 2, none⟩ = some (.bool (ge es j).s) ∧ w'.cell? ⟨b, o + j * 2 + 1, none⟩ = some (.slice (ge es j).p (ge es j).n (ge es j).c) ∧ w'.cell? ⟨c, r + j * 2, none⟩ = some (.bool (ge fs j).s) ∧ w'.cell? ⟨c, r + j * 2 + 1, none⟩ = some (.slice (ge fs j).p (ge fs j).n (ge fs j).c)) (first | with_reducible exact ⟨c0, c1, d0, d1⟩ | with_reducible exact keepc4 ⟨c0, c1, d0, d1⟩ hV1 | (simp [go_sem, *]; done))
        (first
          | (go_at_call 52; refine (rIs_e (hv.drew) hK hw.drew hN).mono ?_; rintro e w1 ⟨rfl, hb1⟩; have hV1 := undrew hb1))
      have hB := bnext' H.out hV1
      clear c0 c1 d0 d1 hv hw
      go_wp2
      go_roundw
      case rel => exact ⟨j + 1, by omega, by go_num, hB⟩
      case measure => simp [intOf]; omega
    · obtain rfl : j = n := by omega
      go_wp2
      go_ret
      exact ⟨rfl, H.out⟩
theorem rd_two (w : World) (y z : Int) (t : Nat) : Rd (w.alloc (.cells #[.int .i64 y, .int .i64 z] t)) (some ⟨w.heap.size, 0, none⟩) .i64 [y, z] := fun _ => ⟨w.heap.size, 0, rfl, fun j hj => by
  match j, hj with
  | 0, _ => simp [go_sem, gx]
  | 1, _ => simp [go_sem, gx]⟩
theorem length_otr (l : List (List Int)) : (otr l).length = olen l := by
  have := olen_le l
  simp [otr]
  omega
theorem rng_oz (z : List (List Int)) : ((List.range (olen z)).map fun i => tr (gt z i)) = oz z := by
  apply List.ext_getElem
  · simp [length_oz]
  · intro i h1 h2
    have h3 : i < olen z := by simpa using h1
    have h4 : i < z.length := Nat.lt_of_lt_of_le h3 (olen_le z)
    simp [oz, gt, h4]
end Go.Proofs.YtejnhpjejcpekaaGreatDoor
