/-
  upoly.Shift.
-/
import Derived.Test.YtejnhpjejcpekaaGreatDoorCyViVuWxUpUqRmRpDkDlDbRiRjRgRkVqDcUmUoDmDvPmHuVsVtVy
import Derived.Test.YtejnhpjejcpekaaGreatDoorBwGkVpVzCcGlPyHfCaHwDg
import Derived.Test.YtejnhpjejcpekaaGreatDoorByDqUxUtUvUwUyUzUrUsHaHbHcWvUhHeVvCu
import Derived.Test.YtejnhpjejcpekaaGreatDoorFpCdDeGaGbKpGcGdGeQaQbQcQdQgQhGfGgUnWfUu
import Derived.Deep.DeepFit
import Derived.Test.YtejnhpjejcpekaaGreatDoorAcDsAeAfBnBoBrBpAh
namespace Go.Proofs.YtejnhpjejcpekaaGreatDoor
open Go.RowKit
set_option linter.unusedVariables false
set_option linter.unusedSimpArgs false
set_option maxHeartbeats 8000000
theorem shr_step (a : Int) (zs : List Int) (i t : Nat) (hi : i ≤ zs.length) (ht : i ≤ t) : gx (shr a (i + 1) zs) t = gx (shr a i zs) t + a * gx (shr a (i + 1) zs) (t + 1) := by
  obtain ⟨s, rfl⟩ := Nat.exists_eq_add_of_le ht
  have hl : ((shr a i zs).take i).length = i := by rw [List.length_take, length_shr]; omega
  have e : ∀ u, gx (shr a (i + 1) zs) (i + u) = gx (hor a ((shr a i zs).drop i)) u := fun u => by
    have h := gx_app_hi ((shr a i zs).take i) (hor a ((shr a i zs).drop i)) u
    rw [hl] at h
    exact h
  rw [Nat.add_assoc, e, e, gx_hor, gx_drop]
theorem shr_low (a : Int) (zs : List Int) (i t : Nat) (hi : i ≤ zs.length) (ht : t < i) : gx (shr a (i + 1) zs) t = gx (shr a i zs) t := by
  rw [shr, gx_app_lo _ _ _ (by rw [List.length_take, length_shr]; omega), gx_take _ _ _ ht]
theorem hor_lt {a : Int} {A L : Nat} (ha : (a.natAbs : Int) < pw L) : ∀ (ds : List Int), (∀ t, ((gx ds t).natAbs : Int) < pw A) → ∀ s, ((gx (hor a ds) s).natAbs : Int) < pw (A + ds.length * (L + 1))
  | [], _, s => by simpa [hor, gx] using pw_pos _
  | c :: cs, h, s => by
    have ih := hor_lt ha cs (fun j => by have := h (j + 1); rwa [gx_cons_succ] at this)
    have e : A + (c :: cs).length * (L + 1) = A + cs.length * (L + 1) + L + 1 := by
      simp only [List.length_cons]
      rw [Nat.succ_mul]
      omega
    have hB : pw A ≤ pw (A + cs.length * (L + 1)) := pw_mono (by omega)
    rw [e, hor]
    generalize A + cs.length * (L + 1) = B at *
    cases s with
    | zero =>
      rw [gx_cons_zero]
      have h1 : ((a * gx (hor a cs) 0).natAbs : Int) ≤ pw (B + L) := by
        rw [Int.natAbs_mul, pw_add, Int.mul_comm (pw B)]
        push_cast
        exact Int.mul_le_mul (Int.le_of_lt ha) (Int.le_of_lt (ih 0)) (by omega) (Int.le_of_lt (pw_pos _))
      have h2 := h 0
      rw [gx_cons_zero] at h2
      have h3 : pw B ≤ pw (B + L) := pw_mono (by omega)
      have h4 := pw_pos (B + L)
      rw [pw_succ]
      omega
    | succ s =>
      rw [gx_cons_succ]
      exact Int.lt_of_lt_of_le (ih s) (pw_mono (by omega))
theorem shr_lt {a : Int} {K L : Nat} (ha : (a.natAbs : Int) < pw L) (zs : List Int) (h : ∀ t, ((gx zs t).natAbs : Int) < pw K) : ∀ i t, i ≤ zs.length → ((gx (shr a i zs) t).natAbs : Int) < pw (K + i * (zs.length * (L + 1)))
  | 0, t, _ => by rw [Nat.zero_mul]; exact h t
  | i + 1, t, hi => by
    have ih := fun t => shr_lt ha zs h i t (by omega)
    have e : K + (i + 1) * (zs.length * (L + 1)) = K + i * (zs.length * (L + 1)) + zs.length * (L + 1) := by rw [Nat.succ_mul]; omega
    rw [e]
    rcases Nat.lt_or_ge t i with h1 | h1
    · rw [shr_low a zs i t (by omega) h1]
      exact Int.lt_of_lt_of_le (ih t) (pw_mono (by omega))
    · obtain ⟨s, rfl⟩ := Nat.exists_eq_add_of_le h1
      have hl : ((shr a i zs).take i).length = i := by rw [List.length_take, length_shr]; omega
      have h2 := gx_app_hi ((shr a i zs).take i) (hor a ((shr a i zs).drop i)) s
      rw [hl] at h2
      show ((gx ((shr a i zs).take i ++ hor a ((shr a i zs).drop i)) (i + s)).natAbs : Int) < _
      rw [h2]
      have h3 := hor_lt ha ((shr a i zs).drop i) (fun t => by rw [gx_drop]; exact ih _) s
      refine Int.lt_of_lt_of_le h3 (pw_mono ?_)
      have h4 : ((shr a i zs).drop i).length ≤ zs.length := by rw [List.length_drop, length_shr]; omega
      have := Nat.mul_le_mul_right (L + 1) h4
      omega
def sif (a : Int) (zs : List Int) (i k t : Nat) : Int := if k ≤ t then gx (shr a (i + 1) zs) t else gx (shr a i zs) t
theorem sif_other (a : Int) (zs : List Int) (i j s : Nat) (h : s ≠ j) : sif a zs i j s = sif a zs i (j + 1) s := by
  rw [sif, sif]
  by_cases h9 : j ≤ s
  · rw [if_pos h9, if_pos (by omega)]
  · rw [if_neg h9, if_neg (by omega)]
structure SR (B : Nat) (wr : World) (g M n : Nat) (us : List Ent) (F : Nat → Int) : Prop where
  row : Row2 wr g 26 us
  len : us.length = n
  ev : ∀ t, t < n → NV B wr M (F t) (ge us t) ∧ (0 < (ge us t).n → Off g (ge us t).p)
theorem SR.below {B : Nat} {wr w' : World} {g M n : Nat} {us : List Ent} {F : Nat → Int} (h : SR B wr g M n us F) (hb : Below wr.heap.size wr w') : SR B w' g M n us F :=
  ⟨h.row.below hb h.row.lt, h.len, fun t ht => ⟨(h.ev t ht).1.below hb, (h.ev t ht).2⟩⟩
theorem SR.set {B : Nat} {wr : World} {g M n : Nat} {us : List Ent} {F G : Nat → Int} (h : SR B wr g M n us F) (t : Nat) (e : Ent) (ht : t < n) (hv : NV B wr M (G t) e) (ho : 0 < e.n → Off g e.p) (hG : ∀ s, s < n → s ≠ t → G s = F s) :
    SR B ((wr.setCell ⟨g, t * 2, none⟩ (.bool e.s)).setCell ⟨g, t * 2 + 1, none⟩ (.slice e.p e.n e.c)) g M n (us.set t e) G := by
  have hl := h.len
  refine ⟨h.row.set t e (by omega), by simpa using hl, fun s hs => ?_⟩
  by_cases he : s = t
  · subst he
    rw [ge_set_same _ _ _ (by omega)]
    exact ⟨hv.set2o ho, ho⟩
  · rw [ge_set_other _ _ _ _ he, hG s hs he]
    exact ⟨(h.ev s hs).1.set2o (h.ev s hs).2, (h.ev s hs).2⟩
theorem SR.same {B : Nat} {wr : World} {g M n : Nat} {us : List Ent} {F G : Nat → Int} (h : SR B wr g M n us F) (hG : ∀ s, s < n → G s = F s) : SR B wr g M n us G :=
  ⟨h.row, h.len, fun t ht => by rw [hG t ht]; exact h.ev t ht⟩
theorem shr_zero (zs : List Int) : shr 0 zs.length zs = zs := by
  refine gx_ext _ _ (length_shr _ _ _) fun j hj => ?_
  rw [gx_shr_all, co_zero]
theorem shr_top (a : Int) (zs : List Int) (h : tlen zs = zs.length) : tlen (shr a zs.length zs) = zs.length := by
  refine tlen_eq _ _ (fun j hj => gx_past _ zs.length (by rw [length_shr]; exact Nat.le_refl _) j hj) ?_
  cases zs with
  | nil => exact .inl rfl
  | cons c cs =>
    refine .inr ?_
    rw [gx_shr_all, List.length_cons, Nat.add_sub_cancel, co_top]
    have h1 := tlen_top (c :: cs) (by rw [h]; simp)
    rw [h, List.length_cons, Nat.add_sub_cancel] at h1
    exact h1
structure SH (w wr : World) (g M n : Nat) (us : List Ent) (F : Nat → Int) (L : Nat) (x : Int) (f : Ent) : Prop where
  sr : SR (w.heap.size + 1) wr g M n us F
  bx : Bx wr w.heap.size (.bool f.s) (.slice f.p f.n f.c)
  ev : EV wr L x f
  of : 0 < f.n → Off g f.p
  gt : w.heap.size < g
  bw : Below w.heap.size w wr
set_option maxRecDepth 100000 in
theorem uShift_any {w : World} {K L : Nat} {p : Option Addr} {n nc : Nat} {es : List Ent} {zs : List Int} {x : Int} {e : Ent} (h : PA w K p n nc es zs) (hx : EV w L x e) (hn : n ≤ 1000) (hL : L < 80) (hM : K + tlen zs * (tlen zs * (L + 1)) ≤ 800) :
    Calls Tryz.prog 135 #[.slice p n nc, .agg #[.bool e.s, .slice e.p e.n e.c]] w (PnP (shr x (tlen zs) (tr zs)) (K + tlen zs * (tlen zs * (L + 1))) w) := by
  have HX : Hid (PA w K p n nc es zs ∧ EV w L x e) := ⟨h, hx⟩
  have htl : tlen zs ≤ n := by have := tlen_le zs; have := h.zl; omega
  have hK : K ≤ 800 := by omega
  have HB : Hid (∀ i t, i ≤ tlen zs → ((gx (shr x i (tr zs)) t).natAbs : Int) < pw (K + tlen zs * (tlen zs * (L + 1)))) := by
    show ∀ i t, i ≤ tlen zs → ((gx (shr x i (tr zs)) t).natAbs : Int) < pw (K + tlen zs * (tlen zs * (L + 1)))
    intro i t hi
    have h1 := shr_lt (K := K) hx.bd (tr zs) (fun t => by rw [gx_tr]; exact h.gbd t) i t (by rw [length_tr]; exact hi)
    rw [length_tr] at h1
    refine Int.lt_of_lt_of_le h1 (pw_mono ?_)
    have := Nat.mul_le_mul_right (tlen zs * (L + 1)) hi
    omega
  have HM : Hid (K ≤ K + tlen zs * (tlen zs * (L + 1)) ∧ K + tlen zs * (tlen zs * (L + 1)) ≤ 800) := ⟨by omega, hM⟩
  clear h hx hM
  generalize K + tlen zs * (tlen zs * (L + 1)) = M at *
  generalize hN : tlen zs = N at *
  have HN : Hid (tlen zs = N) := hN
  clear hN
  go_enter Tryz.func135, Tryz.ntmps135
  go_wp2_with fail
  have hal := bel_al (o := .cells #[.bool e.s, .slice e.p e.n e.c] 26) (Below.refl w.heap.size w)
  have hX0 : Bx (w.alloc (.cells #[.bool e.s, .slice e.p e.n e.c] 26)) w.heap.size (.bool e.s) (.slice e.p e.n e.c) := Bx.new _ _ _ rfl
  generalize w.alloc (.cells #[.bool e.s, .slice e.p e.n e.c] 26) = W at *
  obtain ⟨k0, k1, -, -⟩ := id hX0
  have hpa := HX.out.1.below hal
  have hxe := HX.out.2.below hal
  have hlt : w.heap.size < W.heap.size := block_lt_of_cell k0
  go_cut [5] (fun ov wc => ∃ (g : Nat) (us : List Ent) (f : Ent), ov = .slice (some ⟨g, 0, none⟩) N N ∧ Hid (SH w wc g M N us (gx (shr x 0 (tr zs))) L x f))
  case first =>
    go_region_with (first
      | (go_at_call 48; go_fit (uNorm_row K p n nc es zs _ (hpa.below (Below.refl _ _).drew) (by omega) (by omega)); rintro r v1 ⟨g, us, rfl, hg, hR, hl, hE, hb1⟩; rw [HN.out] at hl hE; have hB1 := undrew hb1; have y0 := cell_later hB1 k0; have y1 := cell_later hB1 k1; have hg' : W.heap.size ≤ g := hg; rw [HN.out])
      | (go_at_call 207; go_fit (bare_any (hxe.below hB1) (by omega)); rintro r v2 ⟨f, rfl, hfp, hfn, hf, hb2⟩; have HFP : Hid (f.p = e.p) := hfp; clear hfp; obtain ⟨z0, z1, f0, f1⟩ := (hX0.later hB1).later hb2))
    all_goals
      have HS : Hid (SH w ((v2.setCell ⟨w.heap.size, 0, none⟩ (.bool f.s)).setCell ⟨w.heap.size, 1, none⟩ (.slice f.p f.n f.c)) g M N us (gx (shr x 0 (tr zs))) L x f) := by
        have hB2 := bnext' hB1 hb2
        have hfo : ∀ y, w.heap.size ≤ y → 0 < f.n → Off y f.p := fun y hy h0 => by rw [HFP.out]; exact HX.out.2.offm hy (by omega)
        refine ⟨⟨(hR.below hb2 hR.lt).set_other _ _ (by show g ≠ w.heap.size; omega) |>.set_other _ _ (by show g ≠ w.heap.size; omega), hl, fun t ht => ⟨?_, (hE t ht).2⟩⟩, Bx_set ((hX0.later hB1).later hb2), (hf.ev).set2 (o := 0) (hfo _ (Nat.le_refl _)), hfo _ (by omega), by omega, bset2 (bnext' hal hB2) (Nat.le_refl _) _ _⟩
        obtain ⟨xs, c1, c2, c3⟩ := ((hE t ht).1.below hb2).mono (show w.heap.size + 1 ≤ W.heap.size by omega)
        exact (show NV _ _ M _ _ from ⟨xs, c1, c2, by have := HM.out.1; omega⟩).set2 (o := 0) (Nat.lt_succ_self _) _ _
      clear hR hE hf
      go_wp2_with fail
      go_meet
      exact ⟨g, us, f, rfl, HS.out⟩
  case rest =>
    obtain ⟨g, us, f, rfl, HS⟩ := hcut
    clear hX0 hal k0 k1 hpa hxe hlt
    obtain ⟨k0, k1, -, -⟩ := id HS.out.bx
    have hz0 := isZero_any HS.out.ev
    go_wp2_with fail
    refine hz0.mono ?_
    rintro r w2 ⟨rfl, hb2⟩
    have H2 : Hid (SH w w2 g M N us (gx (shr x 0 (tr zs))) L x f) := ⟨HS.out.sr.below hb2, HS.out.bx.later hb2, HS.out.ev.below hb2, HS.out.of, HS.out.gt, bnext' HS.out.bw hb2⟩
    clear hz0 k0 k1 hb2 HS
    have hcs : Hid (x = 0 ∨ ¬ x = 0) := Classical.em _
    rcases hcs.out with hz | hz
    · rw [decide_eq_true hz]
      have HZ : Hid (x = 0) := hz
      clear hz hcs
      go_wp2
      go_ret
      have hN := HN.out
      refine ⟨_, N, us, rfl, ⟨H2.out.sr.len, ?_, ?_, H2.out.sr.row.pl, fun a ha => ?_, fun t ht => ?_⟩, H2.out.bw⟩
      · rw [length_shr, length_tr, hN]
      · have h1 := shr_top x (tr zs) (by rw [tlen_tr, length_tr])
        rw [length_tr, hN] at h1
        exact h1
      · cases ha
        exact Nat.le_of_lt H2.out.gt
      · have h1 := shr_zero (tr zs)
        rw [length_tr, hN] at h1
        rw [HZ.out, h1]
        exact ((H2.out.sr.ev t ht).1).mono (by omega)
    · rw [decide_eq_false hz]
      clear hz hcs
      go_wp2_with fail
      go_loopw [6, 7, 17] (fun _ _ kv wr => ∃ (i : Nat) (us : List Ent), i ≤ N ∧ kv = .int .i64 i ∧ Hid (SH w wr g M N us (gx (shr x i (tr zs))) L x f)) (fun _ _ kv _ => N - (intOf kv).toNat)
      case atStart => exact ⟨0, us, Nat.zero_le _, by go_num, H2.out⟩
      case round =>
        clear H2 us
        obtain ⟨i, us, hi, rfl, HI⟩ := hrel
        rcases Nat.lt_or_ge i N with hlt | hge
        · have i1 : (i : Int) < (N : Int) := by omega
          have v1 : IntKind.i64.wrap ((N : Int) - 2) = (N : Int) - 2 := by rw [IntKind.wrap_i64]; omega
          have HI0 : Hid (SH w wr g M N us (sif x (tr zs) i (N - 1)) L x f) := by
            obtain ⟨h1, h2, h3, h4, h5, h6⟩ := HI.out
            refine ⟨h1.same fun s hs => ?_, h2, h3, h4, h5, h6⟩
            rw [sif]
            split
            · obtain rfl : s = N - 1 := by omega
              rw [shr_step x (tr zs) i (N - 1) (by rw [length_tr, HN.out]; omega) (by omega), gx_past _ N (by rw [length_shr, length_tr, HN.out]; exact Nat.le_refl _) (N - 1 + 1) (by omega), Int.mul_zero, Int.add_zero]
            · rfl
          clear HI
          go_wp2_with fail
          go_loopw [7] (fun jv wi => ∃ (k : Nat) (us : List Ent), i ≤ k ∧ k ≤ N - 1 ∧ jv = .int .i64 ((k : Int) - 1) ∧ Hid (SH w wi g M N us (sif x (tr zs) i k) L x f)) (fun jv _ => (intOf jv + 1).toNat)
          case atStart => exact ⟨N - 1, us, by omega, Nat.le_refl _, by simp; omega, HI0.out⟩
          case round =>
            clear HI0 us
            obtain ⟨k, us, hk1, hk2, rfl, HJ⟩ := hrel
            rcases Nat.lt_or_ge i k with hik | hik
            · obtain ⟨j, rfl⟩ : ∃ j, k = j + 1 := ⟨k - 1, by omega⟩
              have i0 : ((j + 1 : Nat) : Int) - 1 = (j : Int) := by omega
              rw [i0]
              have i2 : (i : Int) ≤ (j : Int) := by omega
              have i3 : (j : Int) < (N : Int) := by omega
              have i4 : (j : Int) + 1 < (N : Int) := by omega
              have i5 : IntKind.i64.wrap ((j : Int) + 1) = ((j + 1 : Nat) : Int) := by rw [IntKind.wrap_i64]; omega
              have i6 : (((j + 1 : Nat) : Int)) < (N : Int) := by omega
              obtain ⟨hSR, hbx, hev, hof, hgt, hbw⟩ := HJ.out
              obtain ⟨x0, x1⟩ := hSR.row.cell j (by rw [hSR.len]; omega)
              obtain ⟨y0, y1⟩ := hSR.row.cell (j + 1) (by rw [hSR.len]; omega)
              obtain ⟨a0, a1, -, -⟩ := id hbx
              have hu := (hSR.ev (j + 1) (by omega)).1.ev (by have := HM.out.2; omega)
              have HE : Hid (SH w wr g M N us (sif x (tr zs) i (j + 1)) L x f) := HJ.out
              have hS0 := hSR.row.frozen (j * 2)
              clear hSR hbx HJ hS0
              go_upto_region 10 with fail
              go_region_with (first
                | (go_at_call 115; go_fit (Mul_ev (hev.below (Below.refl _ _).drew) (hu.below (Below.refl _ _).drew) hL); rintro r v2 ⟨e1, rfl, hN1, hb2⟩; have hV2 := undrew hb2; have hS2 := HE.out.sr.below hV2; obtain ⟨z0, z1⟩ := hS2.row.cell j (by rw [hS2.len]; omega))
                | (go_at_call 148; go_fit (Add_ev ((hS2.ev j (by omega)).1.ev (by have := HM.out.2; omega)) (hN1.ev (by have := HM.out.2; omega))); rintro r v3 ⟨e2, rfl, hN2, hb3⟩; have hS3 := hS2.below hb3; obtain ⟨t0, t1⟩ := hS3.row.cell j (by rw [hS3.len]; omega); have f0 := hS3.row.frozen (j * 2); have f1 := hS3.row.frozen (j * 2 + 1)))
              all_goals
                have hstep : SH w ((v3.setCell ⟨g, j * 2, none⟩ (.bool e2.s)).setCell ⟨g, j * 2 + 1, none⟩ (.slice e2.p e2.n e2.c)) g M N (us.set j e2) (sif x (tr zs) i j) L x f := by
                  have hB3 := bnext' hV2 hb3
                  have hgl := HE.out.sr.row.lt
                  have hs2 := hV2.size
                  have hsv : sif x (tr zs) i (j + 1) j + x * sif x (tr zs) i (j + 1) (j + 1) = sif x (tr zs) i j j := by
                    rw [sif, sif, sif, if_neg (by omega), if_pos (Nat.le_refl _), if_pos (Nat.le_refl _)]
                    exact (shr_step x (tr zs) i j (by rw [length_tr, HN.out]; omega) (by omega)).symm
                  rw [hsv] at hN2
                  have hN3 := (hN2.fit (M := M) (by rw [sif, if_pos (Nat.le_refl _)]; exact HB.out (i + 1) j (by omega))).mono (show w.heap.size + 1 ≤ v2.heap.size by omega)
                  have hoff : 0 < e2.n → Off g e2.p := fun _ a ha k => by have := hN2.frm a ha; omega
                  exact ⟨hS3.set j e2 (by omega) hN3 hoff (fun s hs hne => sif_other x (tr zs) i j s hne), Bx_any (HE.out.bx.later hB3) (by omega), (hev.below hB3).set2 hof, hof, hgt, Bel_st (Bel_st (bnext' hbw hB3) (by show w.heap.size ≤ g; omega)) (by show w.heap.size ≤ g; omega)⟩
                have HST := (show Hid _ from hstep)
                clear hstep x0 x1 y0 y1 a0 a1 z0 z1 t0 t1 f0 f1 HE hN1 hN2 hS2 hS3 hev hu
                go_wp2
                refine ⟨⟨j, _, by omega, by omega, by go_num, HST.out⟩, by simp [intOf]⟩
            · obtain rfl : k = i := by omega
              clear hik
              have HK : Hid (SH w wr g M N us (gx (shr x (k + 1) (tr zs))) L x f) := by
                obtain ⟨h1, h2, h3, h4, h5, h6⟩ := HJ.out
                refine ⟨h1.same fun s hs => ?_, h2, h3, h4, h5, h6⟩
                rw [sif]
                split
                · rfl
                · exact shr_low x (tr zs) k s (by rw [length_tr, HN.out]; omega) (by omega)
              have i7 : ¬ (k : Int) ≤ (k : Int) - 1 := by omega
              clear HJ
              go_wp2
              refine ⟨⟨k + 1, us, by omega, by go_num, HK.out⟩, by simp [intOf]; omega⟩
        · obtain rfl : i = N := by omega
          clear hge
          go_wp2
          go_ret
          have hN := HN.out
          refine ⟨_, i, us, rfl, ⟨HI.out.sr.len, ?_, ?_, HI.out.sr.row.pl, fun a ha => ?_, fun t ht => ?_⟩, HI.out.bw⟩
          · rw [length_shr, length_tr, hN]
          · have h1 := shr_top x (tr zs) (by rw [tlen_tr, length_tr])
            rw [length_tr, hN] at h1
            exact h1
          · cases ha
            exact Nat.le_of_lt HI.out.gt
          · exact ((HI.out.sr.ev t ht).1).mono (by omega)
set_option maxRecDepth 100000 in
theorem oSigma_diff {w : World} {g : Nat} {e : Ent} (h : RuleAt w g 2 e) {K : Nat} {p : Option Addr} {n nc : Nat} {es : List Ent} {zs : List Int} (hP : PA w K p n nc es zs) (hn : n ≤ 1000) (hK : K ≤ 1000) :
    Calls Tryz.prog 63 #[.pointer (some ⟨g, 0, none⟩), .slice p n nc] w (PnP (tr zs) K w) := by
  have hc := oAlg_any h
  clear h
  go_enter Tryz.func63, Tryz.ntmps63
  go_wp2_with fail
  go_fit hc
  rintro r w1 ⟨rfl, hb⟩
  have hd := uNorm_any K p n nc es zs w1 (hP.below hb) (by omega) hK
  clear hc
  go_wp2_with fail
  go_fit hd
  rintro r w2 ⟨p1, n1, es1, rfl, h1, hb2⟩
  have HR' : Hid (PnP (tr zs) K w (.returned (.slice p1 n1 n1)) w2) := ⟨p1, n1, es1, rfl, h1.mono hb.size, bnext' hb hb2⟩
  clear hd h1 hb2
  go_wp2
  go_ret
  exact HR'.out
set_option maxRecDepth 100000 in
theorem oSigma_shift {w : World} {g : Nat} {e : Ent} (h : RuleAt w g 1 e) {K : Nat} {p : Option Addr} {n nc : Nat} {es : List Ent} {zs : List Int} (hP : PA w K p n nc es zs) (hn : n ≤ 1000) (hM : K + tlen zs * (tlen zs * 3) ≤ 800) :
    Calls Tryz.prog 63 #[.pointer (some ⟨g, 0, none⟩), .slice p n nc] w (PnP (shr 1 (tlen zs) (tr zs)) (K + tlen zs * (tlen zs * 3)) w) := by
  have hc := oAlg_any h
  clear h
  have HM := (show Hid _ from hM)
  have HP := (show Hid (PA w K p n nc es zs) from hP)
  clear hM hP
  go_enter Tryz.func63, Tryz.ntmps63
  go_wp2_with fail
  go_fit hc
  rintro r w1 ⟨rfl, hb⟩
  clear hc
  go_wp2_with fail
  go_fit (Of_e 1 w1 (by decide) (by decide))
  rintro r w2 ⟨u, rfl, hN, hb2⟩
  have hB2 := bnext' hb hb2
  have hd := uShift_any (HP.out.below hB2) (hN.ev (by decide)) hn (by decide) HM.out
  clear hN
  go_wp2_with fail
  go_fit hd
  rintro r w3 ⟨p1, n1, es1, rfl, h1, hb3⟩
  have HR' : Hid (PnP (shr 1 (tlen zs) (tr zs)) (K + tlen zs * (tlen zs * 3)) w (.returned (.slice p1 n1 n1)) w3) := ⟨p1, n1, es1, rfl, h1.mono hB2.size, bnext' hB2 hb3⟩
  clear hd h1 hb3 hB2 hb2 hb
  go_wp2
  go_ret
  exact HR'.out
def SGM (al y : Int) (zs : List Int) : List Int := if al = 1 then coz 1 (tr zs) else if al = 3 then dlz y zs else tr zs
def DLM (al : Int) (zs : List Int) : List Int := if al = 2 then derz (tr zs) else []
theorem SGM_nrm (al y : Int) (zs : List Int) : tlen (SGM al y zs) = (SGM al y zs).length := by
  unfold SGM
  split
  · exact coz_nrm _ _
  · split
    · exact dlz_nrm _ _
    · rw [tlen_tr, length_tr]
theorem DLM_nrm (al : Int) (zs : List Int) : tlen (DLM al zs) = (DLM al zs).length := by
  unfold DLM
  split
  · rw [derz_top, length_derz, length_tr]
  · rfl
theorem SGM_len (al y : Int) (zs : List Int) : (SGM al y zs).length ≤ zs.length := by
  unfold SGM
  split
  · have h1 : (coz 1 (tr zs)).length ≤ (tr zs).length := by
      rw [coz, length_tr]
      refine Nat.le_trans (tlen_le _) ?_
      simp
    rw [length_tr] at h1
    exact Nat.le_trans h1 (tlen_le zs)
  · split
    · exact length_dlz _ _
    · rw [length_tr]; exact tlen_le zs
theorem DLM_len (al : Int) (zs : List Int) : (DLM al zs).length ≤ zs.length := by
  unfold DLM
  split
  · rw [length_derz, length_tr]
    have := tlen_le zs
    omega
  · exact Nat.zero_le _
theorem SGM_lt {al y : Int} {zs : List Int} {K : Nat} (hz : ∀ t, ((gx zs t).natAbs : Int) < pw K) (hy : (y.natAbs : Int) < pw 1) (t : Nat) : ((gx (SGM al y zs) t).natAbs : Int) < pw (K + zs.length * 2) := by
  have hl := tlen_le zs
  unfold SGM
  split
  · rw [gx_coz]
    have h1 := co_lt (a := 1) (K := K) (L := 1) (by decide) (tr zs) (fun t => by rw [gx_tr]; exact hz t) t
    have h2 := pw_mono (show K + (tr zs).length * (1 + 1) ≤ K + zs.length * 2 by rw [length_tr]; omega)
    omega
  · split
    · rw [gx_dlz]
      exact dl_lt hy zs hz t
    · rw [gx_tr]
      have h2 := pw_mono (show K ≤ K + zs.length * 2 by omega)
      have := hz t
      omega
theorem DLM_lt {al : Int} {zs : List Int} {K : Nat} (hz : ∀ t, ((gx zs t).natAbs : Int) < pw K) (hn : zs.length ≤ 1000) (t : Nat) : ((gx (DLM al zs) t).natAbs : Int) < pw (K + zs.length * 2) := by
  have hl := tlen_le zs
  unfold DLM
  split
  · rcases Nat.lt_or_ge t ((tr zs).length - 1) with h | h
    · rw [gx_derz _ _ h, gx_tr]
      rw [length_tr] at h
      have h1 := hz (t + 1)
      have h2 := pw_mono (show K + 1 ≤ K + zs.length * 2 by omega)
      rw [pw_succ] at h2
      have h3 : ((((t : Int) + 1) * gx zs (t + 1)).natAbs : Int) = ((t : Int) + 1) * ((gx zs (t + 1)).natAbs : Int) := by
        rw [Int.natAbs_mul, Int.natCast_mul, Int.natAbs_of_nonneg (by omega)]
      rw [h3]
      have h4 : ((t : Int) + 1) * ((gx zs (t + 1)).natAbs : Int) ≤ 1000 * ((gx zs (t + 1)).natAbs : Int) := Int.mul_le_mul_of_nonneg_right (by omega) (by omega)
      have h5 := pw_pos K
      omega
    · rw [gx_past _ _ (by rw [length_derz]; exact Nat.le_refl _) t h]
      exact pw_pos _
  · simp [gx]
    exact pw_pos _
theorem nrm_ext {a b : List Int} (ha : tlen a = a.length) (hb : tlen b = b.length) (h : ∀ j, gx a j = gx b j) : a = b := by
  have h1 := tr_same h
  rwa [tr_self ha, tr_self hb] at h1
theorem tr_tr (zs : List Int) : tr (tr zs) = tr zs := tr_self (by rw [tlen_tr, length_tr])
theorem SGM_tr (al y : Int) (zs : List Int) : SGM al y (tr zs) = SGM al y zs := by
  unfold SGM
  rw [tr_tr]
  split
  · rfl
  · split
    · exact nrm_ext (dlz_nrm _ _) (dlz_nrm _ _) fun j => by rw [gx_dlz, gx_dlz, dl_pow, dl_pow, gx_tr]
    · rfl
theorem DLM_tr (al : Int) (zs : List Int) : DLM al (tr zs) = DLM al zs := by
  unfold DLM
  rw [tr_tr]
theorem PN.fit {B : Nat} {w : World} {K M : Nat} {p : Option Addr} {n : Nat} {es : List Ent} {zs : List Int} (h : PN B w K p n es zs) (hz : ∀ t, ((gx zs t).natAbs : Int) < pw M) : PN B w M p n es zs := ⟨h.el, h.zl, h.nrm, h.pl, h.fr, fun j hj => (h.ev j hj).fit (hz j)⟩
theorem PnP.fit {zs : List Int} {K M : Nat} {w : World} {e : Ending} {w' : World} (h : PnP zs K w e w') (hz : ∀ t, ((gx zs t).natAbs : Int) < pw M) : PnP zs M w e w' := by
  obtain ⟨p, n, es, a, b, c⟩ := h
  exact ⟨p, n, es, a, b.fit hz, c⟩
structure RuleQ (w : World) (g : Nat) (al y : Int) : Prop where
  a : al = 1 ∨ al = 2 ∨ al = 3
  r : ∃ e, RuleAt w g al e ∧ EV w 1 y e
  q : al = 3 → y ≠ 0
theorem RuleQ.below {w w' : World} {g : Nat} {al y : Int} (h : RuleQ w g al y) (hb : Below w.heap.size w w') : RuleQ w' g al y := by
  obtain ⟨a, ⟨e, b, c⟩, d⟩ := h
  exact ⟨a, ⟨e, b.below hb, c.below hb⟩, d⟩
theorem RuleQ.bd {w : World} {g : Nat} {al y : Int} (h : RuleQ w g al y) : (y.natAbs : Int) < pw 1 := by
  obtain ⟨-, ⟨e, b, c⟩, -⟩ := h
  exact c.bd
theorem oSigma_all {w : World} {g : Nat} {al y : Int} (h : RuleQ w g al y) {K : Nat} {p : Option Addr} {n nc : Nat} {es : List Ent} {zs : List Int} (hP : PA w K p n nc es zs) (hn : n ≤ 15) (hK : K ≤ 60) :
    Calls Tryz.prog 63 #[.pointer (some ⟨g, 0, none⟩), .slice p n nc] w (PnP (SGM al y zs) (K + n * 2) w) := by
  have hl := tlen_le zs
  have hz := hP.zl
  have hlt := SGM_lt (al := al) (y := y) hP.gbd h.bd
  rw [hz] at hlt
  obtain ⟨ha, ⟨e, h1, h2⟩, h3⟩ := h
  have e1 : SGM 1 y zs = coz 1 (tr zs) := by unfold SGM; rw [if_pos rfl]
  have e2 : SGM 2 y zs = tr zs := by unfold SGM; rw [if_neg (by decide), if_neg (by decide)]
  have e3 : SGM 3 y zs = dlz y zs := by unfold SGM; rw [if_neg (by decide), if_pos rfl]
  rcases ha with rfl | rfl | rfl
  · have h4 := coz_shr 1 (tr zs) (by rw [tlen_tr, length_tr])
    rw [length_tr] at h4
    have h5 : tlen zs * (tlen zs * 3) ≤ 15 * (15 * 3) := Nat.mul_le_mul (by omega) (by omega)
    have h6 := oSigma_shift h1 hP (by omega) (by omega)
    rw [← h4, ← e1] at h6
    exact h6.mono fun r w' hr => hr.fit hlt
  · have h6 := oSigma_diff h1 hP (by omega) (by omega)
    rw [← e2] at h6
    exact h6.mono fun r w' hr => hr.fit hlt
  · have h6 := oSigma_q h1 h2 hP (by omega) (by omega) (by omega) (h3 rfl)
    rw [← e3] at h6
    exact h6.mono fun r w' hr => hr.fit hlt
theorem oDelta_all {w : World} {g : Nat} {al y : Int} (h : RuleQ w g al y) {K : Nat} {p : Option Addr} {n nc : Nat} {es : List Ent} {zs : List Int} (hP : PA w K p n nc es zs) (hn : n ≤ 15) (hK : K ≤ 60) :
    Calls Tryz.prog 64 #[.pointer (some ⟨g, 0, none⟩), .slice p n nc] w (PnP (DLM al zs) (K + n * 2) w) := by
  have hz := hP.zl
  have hlt := DLM_lt (al := al) hP.gbd (by omega)
  rw [hz] at hlt
  obtain ⟨ha, ⟨e, h1, h2⟩, h3⟩ := h
  rcases Int.decEq al 2 with h4 | h4
  · have h6 := oDelta_none h1 h4 p n nc K
    have e1 : DLM al zs = [] := by unfold DLM; rw [if_neg h4]
    rw [← e1] at h6
    exact h6.mono fun r w' hr => hr.fit hlt
  · subst h4
    have h6 := oDelta_diff h1 hP (by omega) (by omega)
    have e1 : DLM 2 zs = derz (tr zs) := by unfold DLM; rw [if_pos rfl]
    rw [← e1] at h6
    exact h6.mono fun r w' hr => hr.fit hlt
def LTR (al y : Int) (zs : List Int) : List Int := if al = 2 then DLM al zs else SGM al y zs
theorem LTR_nrm (al y : Int) (zs : List Int) : tlen (LTR al y zs) = (LTR al y zs).length := by
  unfold LTR
  split
  · exact DLM_nrm _ _
  · exact SGM_nrm _ _ _
theorem LTR_len (al y : Int) (zs : List Int) : (LTR al y zs).length ≤ zs.length := by
  unfold LTR
  split
  · exact DLM_len _ _
  · exact SGM_len _ _ _
theorem LTR_tr (al y : Int) (zs : List Int) : LTR al y (tr zs) = LTR al y zs := by
  unfold LTR
  rw [DLM_tr, SGM_tr]
def Fit (al y : Int) (f : List Int) : Nat → List Int
  | 0 => tr f
  | i + 1 => LTR al y (Fit al y f i)
theorem Fit_nrm (al y : Int) (f : List Int) : ∀ i, tlen (Fit al y f i) = (Fit al y f i).length
  | 0 => by rw [Fit, tlen_tr, length_tr]
  | i + 1 => LTR_nrm _ _ _
theorem Fit_len (al y : Int) (f : List Int) : ∀ i, (Fit al y f i).length ≤ f.length
  | 0 => by rw [Fit, length_tr]; exact tlen_le f
  | i + 1 => Nat.le_trans (LTR_len _ _ _) (Fit_len al y f i)
def Ozs (al y : Int) (cs : List (List Int)) (f : List Int) : Nat → List Int
  | 0 => []
  | i + 1 => tr (pz (· + ·) (Ozs al y cs f i) (mulp (tr (gt cs i)) (Fit al y f i)))
theorem Ozs_nrm (al y : Int) (cs : List (List Int)) (f : List Int) : ∀ i, tlen (Ozs al y cs f i) = (Ozs al y cs f i).length
  | 0 => rfl
  | i + 1 => by rw [Ozs, tlen_tr, length_tr]
end Go.Proofs.YtejnhpjejcpekaaGreatDoor
