/-
  linalg.Times.
-/
import Derived.Test.YtlhgpejapmpcmaaGreatDoorUmUoDmDnOyVuWx
import Derived.Test.YtlhgpejapmpcmaaGreatDoorLeUkUi
import Derived.Test.YtlhgpejapmpcmaaGreatDoorRkVq
import Derived.Deep.DeepFit
namespace Go.Proofs.YtlhgpejapmpcmaaGreatDoor
open Go.RowKit
set_option linter.unusedVariables false
set_option linter.unusedSimpArgs false

theorem cell_later' {w w' : World} {a : Addr} {v : Value} (hb : Below w.heap.size w w') (h : w.cell? a = some v) : w'.cell? a = some v := by
  rw [hb.cell (block_lt_of_cell h)]
  exact h
/-- The answer's rows, some of them done: row i has the sum of the first k i products. -/
def OB (ts : List (List (List Int))) (zss : List (List Int)) (g n : Nat) (k : Nat → Nat) (w wr : World) : Prop :=
  ∃ hs : List Hdr, HB wr g hs ∧ hs.length = n ∧ (∀ i, i < n → (gh hs i).c = (gh hs i).n ∧ ∃ es, PN (g + 1) wr (4 * k i) (gh hs i).p (gh hs i).n es (accp (gt ts i) zss (k i))) ∧ Below w.heap.size w wr ∧ w.heap.size ≤ g
section
variable {ts : List (List (List Int))} {zss : List (List Int)} {g n : Nat} {k k' : Nat → Nat} {w wr w' v3 : World}
theorem OB.congr (h : OB ts zss g n k w wr) (hk : ∀ r, r < n → k r = k' r) : OB ts zss g n k' w wr := by
  obtain ⟨hs, h1, h2, h3, h4, h5⟩ := h
  exact ⟨hs, h1, h2, fun i hi => by rw [← hk i hi]; exact h3 i hi, h4, h5⟩
theorem OB.step {hs : List Hdr} {i : Nat} {p3 : Option Addr} {n3 : Nat} {es3 : List Ent} (h1 : HB wr g hs) (h2 : hs.length = n) (h3 : ∀ i, i < n → (gh hs i).c = (gh hs i).n ∧ ∃ es, PN (g + 1) wr (4 * k i) (gh hs i).p (gh hs i).n es (accp (gt ts i) zss (k i))) (h4 : Below w.heap.size w wr) (h5 : w.heap.size ≤ g)
    (hi : i < n) (hv : Below wr.heap.size wr v3) (hN : PN (g + 1) v3 (4 * k' i) p3 n3 es3 (accp (gt ts i) zss (k' i))) (hk : ∀ r, r ≠ i → k' r = k r) : OB ts zss g n k' w (v3.setCell ⟨g, i, none⟩ (.slice p3 n3 n3)) := by
  refine ⟨hs.set i ⟨p3, n3, n3⟩, (h1.below hv h1.lt).set i ⟨p3, n3, n3⟩, by simp [h2], fun r hr => ?_, (h4.trans (hv.mono h4.size)).setCell (p := ⟨g, i, none⟩) h5 _, h5⟩
  rw [gh_set _ _ _ _ (by omega)]
  by_cases e : r = i
  · subst e
    rw [if_pos rfl]
    exact ⟨rfl, es3, hN.put (Nat.lt_succ_self g) _⟩
  · rw [if_neg e, hk r e]
    obtain ⟨a, es, b⟩ := h3 r hr
    exact ⟨a, es, (b.below hv).put (Nat.lt_succ_self g) _⟩
end
theorem mulp_len (a b : List Int) (ha : a.length ≤ 3) (hb : b.length ≤ 3) : (mulp (tr a) (tr b)).length ≤ 5 := by
  have ta := tlen_le a
  have tb := tlen_le b
  unfold mulp
  split
  · simp
  · rw [length_mulz, length_tr, length_tr]
    omega
theorem accp_len (row vs : List (List Int)) (h1 : ∀ k, (gt row k).length ≤ 3) (h2 : ∀ k, (gt vs k).length ≤ 3) : ∀ k, (accp row vs k).length ≤ 5
  | 0 => by simp [accp]
  | k + 1 => by
    have ih := accp_len row vs h1 h2 k
    have a := h1 k
    have b := h2 k
    have ta := tlen_le (gt row k)
    have tb := tlen_le (gt vs k)
    rw [accp, length_tr]
    refine Nat.le_trans (tlen_le _) ?_
    rw [length_pz]
    have hm : (mulp (tr (gt row k)) (tr (gt vs k))).length ≤ 5 := by
      unfold mulp
      split
      · simp
      · rw [length_mulz, length_tr, length_tr]
        omega
    omega
theorem ez_len {w : World} {K D B T : Nat} {zs : List Int} {h : Hdr} (he : EZ K D w B T zs h) : zs.length ≤ D := by
  obtain ⟨fs, hP, hd, -⟩ := he
  rw [hP.zl]
  exact hd
theorem row_len {w : World} {B T C : Nat} {row : List (List Int)} {h : Hdr} (H : HR C (EZ 1 3) w B T row h) (k : Nat) : (gt row k).length ≤ 3 := by
  obtain ⟨rs, hr⟩ := H
  rcases Nat.lt_or_ge k row.length with hk | hk
  · exact ez_len (hr.ev k (by rw [← hr.tl]; exact hk))
  · have : gt row k = default := by simp [gt, hk]
    rw [this]
    exact Nat.zero_le _
set_option maxHeartbeats 4000000 in
set_option maxRecDepth 100000 in
/-- linalg.Times. -/
theorem lTimes_any {w : World} {B T B2 T2 R C : Nat} {ts : List (List (List Int))} {zss : List (List Int)} {h hv : Hdr} (H : HR R (HR C (EZ 1 3)) w B T ts h) (V : HR 5 (EZ 1 3) w B2 T2 zss hv) (hT : T ≤ w.heap.size) (hT2 : T2 ≤ w.heap.size) (hR : R ≤ 5) (hC : C ≤ 5) (hM : Mtx ts) (hl : zss.length = (gt ts 0).length) :
    Calls Tryz.prog 12 #[.slice h.p h.n h.c, .slice hv.p hv.n hv.c] w fun e w' => ∃ g, e = .returned (.tuple #[.slice (some ⟨g, 0, none⟩) h.n h.n, .int .i64 0]) ∧ OB ts zss g h.n (fun _ => zss.length) w w' := by
  have hi := isMatrix_any H hR hC
  obtain ⟨hs, k⟩ := H
  have HX : Hid (HRow R (HR C (EZ 1 3)) w B T ts h hs) := k
  have hn : h.n ≤ R := k.few
  obtain ⟨vs, kv⟩ := V
  have HV : Hid (HRow 5 (EZ 1 3) w B2 T2 zss hv vs) := kv
  have hnv : hv.n ≤ 5 := kv.few
  obtain ⟨p, n, nc⟩ := h
  obtain ⟨pv, nv, ncv⟩ := hv
  simp only at hn hnv hi ⊢
  have HL : Hid (zss.length = nv ∧ (gt ts 0).length = nv) := ⟨kv.tl, hl.symm.trans kv.tl⟩
  clear k kv
  have HT : Hid (T ≤ w.heap.size ∧ T2 ≤ w.heap.size ∧ Mtx ts) := ⟨hT, hT2, hM⟩
  have hn0 : 0 < n := by have h1 := hM.1; have h2 := HX.out.tl; simp only at h2; omega
  obtain ⟨b, o, hp, hc⟩ := HX.out.hl (by rw [HX.out.el]; exact hn0)
  simp only at hp
  subst hp
  have cg : Hid (∀ wq, Below w.heap.size w wq → ∀ k, k < n → wq.cell? ⟨b, o + k, none⟩ = some (gh hs k).val) := fun wq hb k hk => by
    have h1 := hc k (by rw [HX.out.el]; exact hk)
    rw [hb.cell (block_lt_of_cell h1)]
    exact h1
  have hnv0 : 0 < nv := by have h1 := hM.2.1; have := HL.out.2; omega
  obtain ⟨bv, ov, hpv, hcv⟩ := HV.out.hl (by rw [HV.out.el]; exact hnv0)
  simp only at hpv
  subst hpv
  have cv : Hid (∀ wq, Below w.heap.size w wq → ∀ k, k < nv → wq.cell? ⟨bv, ov + k, none⟩ = some (gh vs k).val) := fun wq hb k hk => by
    have h1 := hcv k (by rw [HV.out.el]; exact hk)
    rw [hb.cell (block_lt_of_cell h1)]
    exact h1
  have HR0 : Hid ((gh hs 0).n = nv) := (HX.out.ev 0 hn0).elim fun _ h => h.tl.symm.trans HL.out.2
  clear hc hcv hT hT2 hl
  go_enter Tryz.func12, Tryz.ntmps12
  go_wp2_with fail
  refine hi.mono ?_
  rintro e w1 ⟨bb, rfl, hbb, hB1⟩
  obtain rfl : bb = true := hbb.2 hM
  have HB1 : Hid (Below w.heap.size w w1) := hB1
  have c0 := cg.out w1 hB1 0 hn0
  have hr0 := HR0.out
  generalize gh hs 0 = hd0 at c0 hr0
  obtain ⟨p0, n0, nc0⟩ := hd0
  simp only [Hdr.val, Nat.add_zero] at c0 hr0
  subst hr0
  have hne : ((n0 : Int) != (n0 : Int)) = false := by simp
  have hmk := mk_polys n (by omega)
  clear hi hbb hB1 hM
  go_wp2_with fail
  have HO : Hid (OB ts zss w1.heap.size n (fun _ => 0) w (w1.alloc (.cells ((hzs n).map Hdr.val).toArray 37))) :=
    ⟨hzs n, heap_alloc_new w1 _, by simp [hzs], fun i hi => by rw [gh_hzs]; exact ⟨rfl, [], pn_nil _ _ _⟩, HB1.out.alloc HB1.out.size _, HB1.out.size⟩
  generalize w1.alloc (.cells ((hzs n).map Hdr.val).toArray 37) = W1 at *
  generalize w1.heap.size = g at *
  clear hmk c0 HB1 HR0
  have HV3 : Hid (∀ k, (gt zss k).length ≤ 3) := row_len ⟨vs, HV.out⟩
  go_loopw [28] (fun kv wr => ∃ i : Nat, i ≤ n ∧ kv = .int .i64 i ∧ Hid (OB ts zss g n (fun r => if r < i then n0 else 0) w wr)) (fun kv _ => n - (intOf kv).toNat)
  case atStart => exact ⟨0, Nat.zero_le _, by go_num, HO.out.congr fun r _ => by simp⟩
  case round =>
    obtain ⟨i, hi, rfl, H⟩ := hrel
    rcases Nat.lt_or_ge i n with hlt | hge
    · have hBw : Below w.heap.size w wr := by obtain ⟨_, _, _, _, h4, _⟩ := H.out; exact h4
      have c5 := cg.out wr hBw i hlt
      have HZ : Hid (∀ wq, Below w.heap.size w wq → HR C (EZ 1 3) wq B T (gt ts i) (gh hs i)) := fun wq hb => (lasts_HR (lasts_EZ 1 3)).below (HX.out.ev i hlt) HT.out.1 hb
      have HLI : Hid ((gt ts i).length = n0) := by have h1 := HT.out.2.2.2.2 i (by have := HX.out.tl; simp only at this; omega); rw [h1]; exact HL.out.2
      have i1 : (i : Int) < (n : Int) := by omega
      generalize gh hs i = hd at c5 HZ
      obtain ⟨p1, n1, nc1⟩ := hd
      simp only [Hdr.val] at c5 HZ
      have hn1 : n1 = n0 := (HZ.out wr hBw).elim fun _ h => h.tl.symm.trans HLI.out
      subst hn1
      have HR3 : Hid (∀ k, (gt (gt ts i) k).length ≤ 3) := row_len (HZ.out wr hBw)
      clear hBw
      go_wp2_with fail
      clear c5
      go_loopw [35] (fun kv wq => ∃ j : Nat, j ≤ n1 ∧ kv = .int .i64 j ∧ Hid (OB ts zss g n (fun r => if r < i then n1 else if r = i then j else 0) w wq)) (fun kv _ => n1 - (intOf kv).toNat)
      case atStart => exact ⟨0, Nat.zero_le _, by go_num, H.out.congr fun r _ => by by_cases e : r = i <;> simp [e]⟩
      case round =>
        obtain ⟨j, hj, rfl, G⟩ := hrel
        rcases Nat.lt_or_ge j n1 with hlt1 | hge1
        · obtain ⟨os, g1, g2, g3, g4, g5⟩ := G.out
          obtain ⟨rs0, hN⟩ := HZ.out wr g4
          obtain ⟨b1, o1, hp1, hc1⟩ := hN.hl (by rw [hN.el]; show 0 < n1; omega)
          simp only at hp1
          subst hp1
          have c7 := hc1 j (by rw [hN.el]; exact hlt1)
          have hP2 := hN.ev j hlt1
          have cvj := cv.out wr g4 j hlt1
          have hQ2 := (lasts_EZ 1 3).below (HV.out.ev j hlt1) HT.out.2.1 g4
          have hO := g3 i hlt
          simp only [Nat.lt_irrefl, if_false, if_true] at hO
          have x0 := g1.cell i (by omega)
          generalize gh rs0 j = hd2 at c7 hP2
          obtain ⟨p2, n2, nc2⟩ := hd2
          simp only [Hdr.val] at c7
          obtain ⟨es2, hP2, hd3, -, -⟩ := hP2
          simp only at hP2 hd3
          generalize gh vs j = hd4 at cvj hQ2
          obtain ⟨p4, n4, nc4⟩ := hd4
          simp only [Hdr.val] at cvj
          obtain ⟨es4, hQ2, hd5, -, -⟩ := hQ2
          simp only at hQ2 hd5
          generalize gh os i = hd6 at x0 hO
          obtain ⟨p6, n6, nc6⟩ := hd6
          simp only [Hdr.val] at x0 hO
          obtain ⟨hcn, es6, hO⟩ := hO
          subst hcn
          have hl6 : nc6 ≤ 5 := by
            have h1 := accp_len (gt ts i) zss HR3.out HV3.out j
            rw [hO.zl] at h1
            exact h1
          have j1 : (j : Int) < (n1 : Int) := by omega
          have hg1 := g1
          have HG3 : Hid (∀ i_1, i_1 < n → (gh os i_1).c = (gh os i_1).n ∧ ∃ es, PN (g + 1) wr (4 * (if i_1 < i then n1 else if i_1 = i then j else 0)) (gh os i_1).p (gh os i_1).n es (accp (gt ts i_1) zss (if i_1 < i then n1 else if i_1 = i then j else 0))) := g3
          have HML : Hid ((mulp (tr (gt (gt ts i) j)) (tr (gt zss j))).length ≤ 5) := mulp_len _ _ (HR3.out j) (HV3.out j)
          have hlg := g1.lt
          have hdw : Below wr.heap.size wr wr.drew := (Below.refl _ _).drew
          have hPd := hP2.below hdw
          have hQd := hQ2.below hdw
          clear hc1 hN g3 hP2 hQ2
          go_upto_region 10 with fail
          go_region_with (first
            | (go_at_call 29; go_fit (uMul_small hPd hQd hd3 hd5); rintro r v2 ⟨p7, n7, es7, rfl, hN7, hb2⟩; have hV2 := undrew hb2; have y0 := cell_later hV2 x0; have hO2 := hO.below hV2; have hn7 : n7 ≤ 5 := by (have h1 := HML.out; rw [hN7.zl] at h1; exact h1))
            | (go_at_call 28; go_fit (uAdd_any (hO2.pa (by omega) (by omega)) (hN7.pa (by decide) (by omega)) (by omega) (by omega) (by omega)); rintro r v3 ⟨p8, n8, es8, rfl, hN8, hb3⟩; have z0 := cell_later hb3 y0; have f0 := (hg1.below (hV2.trans (hb3.mono hV2.size)) hlg).frozen i))
          all_goals
            have hN9 : PN (g + 1) v3 (4 * (j + 1)) p8 n8 es8 (accp (gt ts i) zss (j + 1)) := by
              have h1 := hN8
              rw [hO2.tr, hN7.tr] at h1
              exact (h1.mono (Nat.le_trans hlg hV2.size)).wider (by omega)
            have hstep : OB ts zss g n (fun r => if r < i then n1 else if r = i then j + 1 else 0) w (v3.setCell ⟨g, i, none⟩ (.slice p8 n8 n8)) := OB.step hg1 g2 HG3.out g4 g5 hlt (hV2.trans (hb3.mono hV2.size)) (by simp only [Nat.lt_irrefl, if_false, if_true]; exact hN9) (fun r hr => by simp [hr])
            have HST := (show Hid _ from hstep)
            clear hstep hN9 hN8 hN7 hO2 hPd hQd x0 y0 hO hb2 hb3 hdw
            go_wp2
            refine ⟨⟨j + 1, by omega, by go_num, HST.out⟩, by simp [intOf]; omega⟩
        · obtain rfl : j = n1 := by omega
          have i2 : ¬ (j : Int) < (j : Int) := by omega
          have HE : Hid (OB ts zss g n (fun r => if r < i + 1 then j else 0) w wr) := G.out.congr fun r _ => by
            by_cases e1 : r < i
            · rw [if_pos e1, if_pos (by omega)]
            · rw [if_neg e1]
              by_cases e2 : r = i
              · rw [if_pos e2, if_pos (by omega)]
              · rw [if_neg e2, if_neg (by omega)]
          clear G
          go_wp2_with fail
          refine ⟨⟨i + 1, by omega, by go_num, HE.out⟩, by simp [intOf]; omega⟩
    · obtain rfl : i = n := by omega
      have i2 : ¬ (i : Int) < (i : Int) := by omega
      have HE : Hid (OB ts zss g i (fun _ => zss.length) w wr) := H.out.congr fun r hr => by rw [if_pos hr]; exact HL.out.1.symm
      clear H
      go_wp2
      refine bodyPost_ret (v := .tuple #[.slice (some ⟨g, 0, none⟩) i i, .int .i64 0]) (by simp [results, Tryz.results12, go_sem]) rfl ?_
      exact ⟨g, rfl, HE.out⟩
set_option maxHeartbeats 4000000 in
set_option maxRecDepth 100000 in
/-- linalg.Times of what does not go together. -/
theorem lTimes_none {w : World} {B T B2 T2 R C : Nat} {ts : List (List (List Int))} {zss : List (List Int)} {h hv : Hdr} (H : HR R (HR C (EZ 1 3)) w B T ts h) (V : HR 5 (EZ 1 3) w B2 T2 zss hv) (hR : R ≤ 5) (hC : C ≤ 5) (hM : ¬ (Mtx ts ∧ zss.length = (gt ts 0).length)) :
    Calls Tryz.prog 12 #[.slice h.p h.n h.c, .slice hv.p hv.n hv.c] w fun e w' => e = .returned (.tuple #[.slice none 0 0, .int .i64 1]) ∧ Below w.heap.size w w' := by
  have hi := isMatrix_any H hR hC
  obtain ⟨hs, k⟩ := H
  have HX : Hid (HRow R (HR C (EZ 1 3)) w B T ts h hs) := k
  obtain ⟨vs, kv⟩ := V
  have HV : Hid (HRow 5 (EZ 1 3) w B2 T2 zss hv vs) := kv
  obtain ⟨p, n, nc⟩ := h
  obtain ⟨pv, nv, ncv⟩ := hv
  simp only at hi ⊢
  have HM : Hid (¬ (Mtx ts ∧ zss.length = (gt ts 0).length)) := hM
  have HL : Hid (zss.length = nv) := kv.tl
  clear k kv hM
  go_enter Tryz.func12, Tryz.ntmps12
  go_wp2_with fail
  refine hi.mono ?_
  rintro e w1 ⟨bb, rfl, hbb, hB1⟩
  have HB1 : Hid (Below w.heap.size w w1) := hB1
  cases bb with
  | false =>
    clear hi hbb hB1
    go_wp2
    refine bodyPost_ret (v := .tuple #[.slice none 0 0, .int .i64 1]) (by simp [results, Tryz.results12, go_sem]) rfl ?_
    exact ⟨rfl, HB1.out⟩
  | true =>
    have hM : Mtx ts := hbb.1 rfl
    have hn0 : 0 < n := by have h1 := hM.1; have h2 := HX.out.tl; simp only at h2; omega
    obtain ⟨b, o, hp, hc⟩ := HX.out.hl (by rw [HX.out.el]; exact hn0)
    simp only at hp
    subst hp
    have c0 := cell_later' HB1.out (hc 0 (by rw [HX.out.el]; exact hn0))
    have hr0 : (gh hs 0).n = (gt ts 0).length := (HX.out.ev 0 hn0).elim fun _ h => h.tl.symm
    generalize gh hs 0 = hd0 at c0 hr0
    obtain ⟨p0, n0, nc0⟩ := hd0
    simp only [Hdr.val, Nat.add_zero] at c0 hr0
    have hne : ((nv : Int) != (n0 : Int)) = true := by
      rw [bne_iff_ne]
      intro e
      exact HM.out ⟨hM, by rw [HL.out, ← hr0]; omega⟩
    clear hi hbb hB1 hM hc hr0
    go_wp2
    refine bodyPost_ret (v := .tuple #[.slice none 0 0, .int .i64 1]) (by simp [results, Tryz.results12, go_sem]) rfl ?_
    exact ⟨rfl, HB1.out⟩
end Go.Proofs.YtlhgpejapmpcmaaGreatDoor
