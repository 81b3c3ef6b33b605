/-
  PolyContent's walk.
-/
import Derived.Test.YtppidaeoikahoaaGreatDoorVoTaTbTcRg
import Derived.Test.YtppidaeoikahoaaGreatDoorRmRpVnUx
import Derived.Test.YtppidaeoikahoaaGreatDoorHeRzCwVd
import Derived.Test.YtppidaeoikahoaaGreatDoorRfRhCqRr
import Derived.Deep.DeepFit
import Derived.Test.YtppidaeoikahoaaGreatDoorCyViOaOf
namespace Go.Proofs.YtppidaeoikahoaaGreatDoor
open Go.RowKit
set_option linter.unusedVariables false
set_option linter.unusedSimpArgs false

theorem gcdl_tr (zs : List Int) : gcdl (tr zs) = gcdl zs := by
  have step : ∀ j, tlen zs ≤ j → j ≤ zs.length → gcdl (zs.take j) = gcdl (tr zs) := by
    intro j
    induction j with
    | zero => intro h1 _; have : tlen zs = 0 := by omega
              rw [tr, this]
    | succ j ih =>
      intro h1 h2
      rcases Nat.lt_or_ge j (tlen zs) with h | h
      · have : tlen zs = j + 1 := by omega
        rw [tr, this]
      · rw [gcdl_take zs j (by omega), ih h (by omega), tlen_zero zs j h, Int.gcd_zero_right, Int.natAbs_natCast]
  have := step zs.length (tlen_le zs) (Nat.le_refl _)
  rw [List.take_length] at this
  exact this.symm
theorem pz_one {W : World} {g t : Nat} {e : Ent} (h0 : W.cell? ⟨g, 0, none⟩ = some (.bool e.s)) (h1 : W.cell? ⟨g, 1, none⟩ = some (.slice e.p e.n e.c)) (hr : RawE W e) : PZ W (some ⟨g, 0, none⟩) 1 1 [e] :=
  ⟨rfl, Nat.le_refl _, by decide, nofun, fun _ => ⟨g, 0, rfl, fun j hj => by
    obtain rfl : j = 0 := by simp at hj; omega
    exact ⟨h0, h1⟩⟩, fun j hj => by
    obtain rfl : j = 0 := by omega
    exact hr⟩
theorem cells_new (w : World) (x y : Value) (t : Nat) : (w.alloc (.cells #[x, y] t)).cell? ⟨w.heap.size, 0, none⟩ = some x ∧ (w.alloc (.cells #[x, y] t)).cell? ⟨w.heap.size, 1, none⟩ = some y := ⟨by simp [go_sem], by simp [go_sem]⟩
theorem fr_mono {X W1 : World} {q : Option Addr} (h : Go.Proofs.YtppidaeoikahoaaGreatDoor.From X.drew.heap.size q) (hs : W1.heap.size ≤ X.heap.size) : Go.Proofs.YtppidaeoikahoaaGreatDoor.From W1.heap.size q := fun a ha => Nat.le_trans hs (h a ha)
/-- The two arguments behind Cut. -/
structure P1 (w wc : World) (q : Option Addr) (m mc : Nat) (fs : List Ent) (zs : List Int) (E L L2 : Nat) (u : Ent) (y : Int) : Prop where
  pa : PA wc L q m mc fs zs
  me : m ≤ E
  bx : Bx wc w.heap.size (.bool u.s) (.slice u.p u.n u.c)
  ev : EV wc L2 y u
  bw : Below w.heap.size w wc
theorem P1.mk' {w W1 v1 v2 : World} {q : Option Addr} {m mc : Nat} {fs : List Ent} {zs : List Int} {E L L2 n : Nat} {e u : Ent} {y : Int} (hbx : Bx W1 w.heap.size (.bool e.s) (.slice e.p e.n e.c)) (hB : Below w.heap.size w W1) (hb1 : Below W1.heap.size W1 v1) (hb2 : Below v1.heap.size v1 v2) (hP : PA v1 L q m mc fs zs) (hm : m = min n E) (hq : Go.Proofs.YtppidaeoikahoaaGreatDoor.From W1.heap.size q) (hqe : ∀ j, j < m → 0 < (ge fs j).n → Go.Proofs.YtppidaeoikahoaaGreatDoor.From W1.heap.size (ge fs j).p) (hu : EV v2 L2 y u) (huo : 0 < u.n → Go.Proofs.YtppidaeoikahoaaGreatDoor.From W1.heap.size u.p) :
    P1 w ((v2.setCell ⟨w.heap.size, 0, none⟩ (.bool u.s)).setCell ⟨w.heap.size, 1, none⟩ (.slice u.p u.n u.c)) q m mc fs zs E L L2 u y := by
  have hlt : w.heap.size < W1.heap.size := block_lt_of_cell hbx.c0
  refine ⟨(hP.below hb2).gset (o := 0) (fun _ => off_from hq hlt) (fun j hj h0 => off_from (hqe j hj h0) hlt), by omega, Bx_set ((hbx.later hb1).later hb2), hu.set2 (o := 0) fun h0 => off_from (huo h0) hlt, bset2 (bnext' (bnext' hB hb1) hb2) (Nat.le_refl _) _ _⟩
set_option maxHeartbeats 4000000 in
set_option maxRecDepth 100000 in
/-- PolyContent. -/
theorem PolyContent_walk {w : World} {p : Option Addr} {n nc : Nat} {es : List Ent} {e : Ent} (h : PZ w p n nc es) (he : RawE w e) :
    Calls Tryz.prog 6 #[.slice p n nc, .agg #[.bool e.s, .slice e.p e.n e.c]] w fun r w' => r = .returned (.bool true) ∧ Below w.heap.size w w' := by
  have HX : Hid (PZ w p n nc es ∧ RawE w e) := ⟨h, he⟩
  clear h he
  go_enter Tryz.func6, Tryz.ntmps6
  go_wp2_with fail
  have hal0 := bel_al (o := .cells #[.bool e.s, .slice e.p e.n e.c] 26) (Below.refl w.heap.size w)
  have hX0 : Bx (w.alloc (.cells #[.bool e.s, .slice e.p e.n e.c] 26)) w.heap.size (.bool e.s) (.slice e.p e.n e.c) := Bx.new _ _ _ rfl
  generalize w.alloc (.cells #[.bool e.s, .slice e.p e.n e.c] 26) = W0 at *
  refine (begun3_any W0).mono ?_
  rintro r W1 ⟨rfl, hb0⟩
  have hbx := hX0.later hb0
  have hB := bnext' hal0 hb0
  obtain ⟨k0, k1, -, -⟩ := id hbx
  have hPZ := HX.out.1.below hB
  have hRE := HX.out.2.below hB
  clear hX0 hal0 hb0
  go_wp2_with fail
  go_cut [0] (fun pv wc => ∃ (q : Option Addr) (m mc : Nat) (fs : List Ent) (zs : List Int) (u : Ent) (y : Int), pv = .slice q m mc ∧ Hid (P1 w wc q m mc fs zs 9 4 2 u y))
  case first =>
    go_region_with (first
      | (go_at_call 10; go_fit (few_any (hPZ.below (by first | exact (Below.refl _ _).drew | exact (bel_al (Below.refl _ _)).drew))); rintro r v1 ⟨q, m, mc, fs, zs, rfl, hP1, hm1, hF1, hG1, hb1⟩; have HM1 : Hid (m = min n 9) := hm1; clear hm1; have hB1 := undrew hb1; have hW1 := comp (X2 := W1) (w2 := W1) (Below.refl _ _) (by (repeat apply bel_al); exact Below.refl _ _) hB1; have hFq := fr_mono (W1 := W1) hF1 (by simp); have hFe := fun j hj h0 => fr_mono (W1 := W1) (hG1 j hj h0) (by simp); have y0 := cell_later hW1 k0; have y1 := cell_later hW1 k1)
      | (go_at_call 35; (first | go_fit (Cut3_any (pz_one (e := e) (t := 0) (cells_new v1 _ _ _).1 (cells_new v1 _ _ _).2 ((hRE.below hW1).below (bel_al (Below.refl _ _)))) 1 2 (by decide) (by decide)) | go_fit (Cut3_any (pz_one (e := e) (t := 0) (cell_later hB1 (cells_new W1 _ _ _).1) (cell_later hB1 (cells_new W1 _ _ _).2) (hRE.below hW1)) 1 2 (by decide) (by decide))); rintro r v2 ⟨q2, m2, mc2, fs2, zs2, rfl, hP2, hm2, hF2, hG2, hb2⟩; obtain rfl : m2 = 1 := hm2; obtain ⟨b2, o2, hq2, hc2⟩ := hP2.pl (by rw [hP2.el]; decide); subst hq2; obtain ⟨z0, z1⟩ := hc2 0 (by rw [hP2.el]; decide); simp only [Nat.zero_mul, Nat.add_zero] at z0 z1; have hV2 := comp (X2 := v1) (w2 := v1) (Below.refl _ _) (by (repeat apply bel_al); exact Below.refl _ _) hb2; obtain ⟨x0, x1, f0, f1⟩ := (hbx.later hW1).later hV2; have hs2 := hW1.size; have hHP := P1.mk' (E := 9) hbx hB hW1 hV2 hP1 HM1.out hFq hFe (hP2.ev 0 (by decide)) (fun h0 a ha => by have h7 := hG2 0 (by decide) h0 a ha; (try simp only [World.size_alloc] at h7); omega)))
    all_goals
      have HP := (show Hid _ from hHP)
      clear hHP
      go_wp2_with fail
      go_meet
      exact ⟨q, m, mc, fs, zs, _, _, rfl, HP.out⟩
  case rest =>
    obtain ⟨q, m, mc, fs, zs, u, y, rfl, HQ⟩ := hcut
    clear hbx hB k0 k1 hPZ hRE HX
    have hm9 := HQ.out.me
    have hfr := rpFrom_any HQ.out.pa (by omega) (by decide)
    go_wp2_with fail
    refine hfr.mono ?_
    rintro r w2 ⟨q2, m2, es2, rfl, hR2, hF2, ht2, hb2⟩
    have hm2 := hR2.zl
    rw [length_tr] at hm2
    have htl := tlen_le zs
    have hzl := HQ.out.pa.zl
    have hm2' : m2 ≤ 9 := by omega
    have HT : Hid (tlen (tr zs) = (tr zs).length ∧ tlen (tr zs) = m2) := ⟨by rw [tlen_tr, length_tr], ht2⟩
    clear hfr hm2 htl hzl ht2
    -- content
    have hpa2 := HQ.out.pa.below hb2
    have hc1 := Content_any hpa2 (by omega) (by decide) (by decide)
    go_wp2_with fail
    refine hc1.mono ?_
    rintro r w3 ⟨u3, rfl, hN3, hb3⟩
    rw [← gcdl_tr zs] at hN3
    have hc2 := rpContent_any (hR2.below hb3) (by omega) (by decide) (by decide)
    clear hc1
    go_wp2_with fail
    refine hc2.mono ?_
    rintro r w4 ⟨u4, rfl, hE4, hb4⟩
    have his : Calls Tryz.prog 26 #[.agg #[.bool u3.s, .slice u3.p u3.n u3.c], .agg #[.bool u4.s, .slice u4.p u4.n u4.c]] w4 fun e w' => e = .returned (.bool true) ∧ Below w4.heap.size w4 w' := by
      obtain ⟨xs, k1, k2, k3⟩ := hN3.below hb4
      obtain ⟨⟨ds, l1, l2, l3⟩, l4⟩ := hE4
      rw [k2, l4]
      exact rIs_rn k1 (by omega) l1 (by omega) l2
    clear hc2 hN3 hE4
    go_wp2_with fail
    refine his.mono ?_
    rintro r w5 ⟨rfl, hb5⟩
    clear his
    have hB5 := bnext' hb2 (bnext' (bnext' hb3 hb4) hb5)
    have hB35 := bnext' (bnext' hb3 hb4) hb5
    have hpa5 := HQ.out.pa.below hB5
    have hR5 := hR2.below hB35
    have HB5 : Hid (Below w.heap.size w w5) := bnext' HQ.out.bw hB5
    have hbx5 := HQ.out.bx.later hB5
    have hev5 := HQ.out.ev.below hB5
    clear hpa2 hR2 hb2 hb3 hb4 hb5 hB35 hB5 HQ
    -- primitive part
    have hp1 := uPrim_any hpa5 (by omega) (by decide) (by decide)
    go_wp2_with fail
    refine hp1.mono ?_
    rintro r w6 ⟨p6, n6, es6, rfl, h6, hb6⟩
    have hp2 := rpPrim_any (hR5.below hb6) HT.out.2 (by omega) (by decide) (by decide)
    clear hp1
    go_wp2_with fail
    refine hp2.mono ?_
    rintro r w7 ⟨p7, n7, es7, rfl, h7, hf7, ht7, hb7⟩
    have hn67 : n7 = n6 := by rw [← h7.zl, ← h6.zl]
    subst hn67
    have hn7 : n7 ≤ 1000000 := by have h8 := h7.zl; rw [prml, List.length_map, ← HT.out.1, HT.out.2] at h8; omega
    have hi2 := rpIs_any (h6.below hb7) h7 (by decide) (by decide) hn7
    clear hp2 h6 h7 hf7 ht7 hn7
    go_wp2_with fail
    refine hi2.mono ?_
    rintro r w8 ⟨rfl, hb8⟩
    clear hi2
    have hB68 := bnext' hb6 (bnext' hb7 hb8)
    have hR8 := hR5.below hB68
    have hbx8 := hbx5.later hB68
    have hev8 := hev5.below hB68
    have HB8 : Hid (Below w.heap.size w w8) := bnext' HB5.out hB68
    clear hR5 hbx5 hev5 hb6 hb7 hb8 hB68 HB5 hpa5
    obtain ⟨k0, k1, -, -⟩ := id hbx8
    obtain ⟨xs, hA, hv, hle⟩ := hev8
    have hfa := From_ansF u.s u.p u.n u.c xs w8 hA
    rw [hv] at hfa
    clear hv hA hbx8
    go_wp2_with fail
    refine hfa.mono ?_
    rintro r w9 ⟨s9, p9, n9, d9, rfl, hr9, hv9, hn9, hF9, hb9⟩
    have hE9 : RE w9 4 y ⟨s9, p9, n9, n9⟩ := ⟨⟨d9, hr9, hv9, by show n9 ≤ 4; omega⟩, rfl⟩
    have hal := bel_al (o := .cells #[.bool s9, .slice p9 n9 n9] 35) (Below.refl w9.heap.size w9)
    have hX9 : Bx (w9.alloc (.cells #[.bool s9, .slice p9 n9 n9] 35)) w9.heap.size (.bool s9) (.slice p9 n9 n9) := Bx.new _ _ _ rfl
    have hE10 := hE9.below hal
    have hR10 := (hR8.below hb9).below hal
    have HB10 : Hid (Below w.heap.size w (w9.alloc (.cells #[.bool s9, .slice p9 n9 n9] 35))) := bnext' (bnext' HB8.out hb9) hal
    have hsg := rSign_e hE10
    clear hfa hr9 hv9 hn9 hF9 hE9 hal hR8 hb9 HB8 k0 k1
    go_wp2_with fail
    generalize w9.alloc (.cells #[.bool s9, .slice p9 n9 n9] 35) = W9 at *
    refine hsg.mono ?_
    rintro r w11 ⟨rfl, hb11⟩
    have hX11 := hX9.later hb11
    have hE11 := hE10.below hb11
    have hR11 := hR10.below hb11
    have HB11 : Hid (Below w.heap.size w w11) := bnext' HB10.out hb11
    clear hsg hX9 hE10 hR10 hb11 HB10
    obtain ⟨k0, k1, -, -⟩ := id hX11
    have hcs : Hid (y = 0 ∨ ¬ y = 0) := Classical.em _
    rcases hcs.out with hz | hz
    · rw [isgn_zero hz]
      clear hz hcs hE11 hR11 hX11
      go_wp2
      go_ret
      exact ⟨rfl, HB11.out⟩
    · have hi : isgn y = 1 ∨ isgn y = -1 := by
        rcases (show 0 < y ∨ y < 0 by omega) with h | h
        · exact .inl (isgn_pos h)
        · exact .inr (isgn_neg h)
      have htr : tr ((tr zs).map (y * ·)) = (tr zs).map (y * ·) := tr_of_tlen (by rw [tlen_scale y hz, HT.out.1, List.length_map])
      have hpr : prml ((tr zs).map (y * ·)) = prml (tr zs) := prml_scale y hz _ HT.out.1
      have HTR : Hid (tr ((tr zs).map (y * ·)) = (tr zs).map (y * ·) ∧ prml ((tr zs).map (y * ·)) = prml (tr zs)) := ⟨htr, hpr⟩
      have hsc := rpScale_any hR11 hE11 (by omega) (by decide) (by decide)
      rw [htr] at hsc
      clear hz hcs htr hpr
      rcases hi with hi | hi
      all_goals
        rw [hi]
        clear hi
        go_wp2_with fail
        refine hsc.mono ?_
        rintro r w12 ⟨p12, n12, es12, rfl, h12, hf12, ht12, hb12⟩
        have hn12 : n12 = m2 := by have h8 := h12.zl; rw [List.length_map, ← HT.out.1, HT.out.2] at h8; exact h8.symm
        subst hn12
        have hto := rpTo_any (K := 7) h12 (by omega) (by decide) (by decide)
        clear hf12 ht12
        go_wp2_with fail
        refine hto.mono ?_
        rintro r w13 ⟨q13, m13, mc13, fs13, rfl, h13, hb13⟩
        have hm13 : m13 = n12 := by have h8 := h13.zl; rw [List.length_map, ← HT.out.1, HT.out.2] at h8; exact h8.symm
        subst hm13
        have hp1 := uPrim_any h13 (by omega) (by decide) (by decide)
        rw [HTR.out.1, HTR.out.2] at hp1
        clear hto
        go_wp2_with fail
        refine hp1.mono ?_
        rintro r w14 ⟨p14, n14, es14, rfl, h14, hb14⟩
        have hB14 := bnext' hb12 (bnext' hb13 hb14)
        have hp2 := rpPrim_any (hR11.below hB14) HT.out.2 (by omega) (by decide) (by decide)
        clear hp1 h13 h12
        go_wp2_with fail
        refine hp2.mono ?_
        rintro r w15 ⟨p15, n15, es15, rfl, h15, hf15, ht15, hb15⟩
        have hn67 : n15 = n14 := by rw [← h15.zl, ← h14.zl]
        subst hn67
        have hn7 : n15 ≤ 1000000 := by have h8 := h15.zl; rw [prml, List.length_map, ← HT.out.1, HT.out.2] at h8; omega
        have hi2 := rpIs_any (h14.below hb15) h15 (by decide) (by decide) hn7
        have HBF : Hid (Below w.heap.size w w15) := bnext' HB11.out (bnext' hB14 hb15)
        clear hp2 h14 h15 hf15 ht15 hn7
        go_wp2_with fail
        refine hi2.mono ?_
        rintro r w16 ⟨rfl, hb16⟩
        clear hi2
        go_wp2
        go_ret
        exact ⟨rfl, bnext' HBF.out hb16⟩
end Go.Proofs.YtppidaeoikahoaaGreatDoor
/-
  What an argument of type api.Int is, read as data.
-/
namespace Go.Proofs.YtppidaeoikahoaaGreatDoor
open Go.ChangeShapes Go.WideShapes Go.ChangeAt Go.RowKit Go.Joins
set_option linter.unusedVariables false
set_option linter.unusedSimpArgs false

theorem cellsInt : Tryz.prog.cellsOf 26 = 2 := by kernel_rfl
theorem cellsLimb : Tryz.prog.cellsOf 83 = 1 := by kernel_rfl

/-- What an api.Int is, as an argument. -/
def IntArg (W : World) (v : Value) : Prop := ∃ (s : Bool) (pa : Option Addr) (n nc : Nat) (xs : List Int), v = .agg #[.bool s, .slice pa n nc] ∧ xs.length = n ∧ n ≤ nc ∧ nc ≤ maxLen ∧ Rd W pa .u32 xs ∧ U32 xs ∧ (pa = none → nc = 0)

set_option maxRecDepth 100000 in
theorem openInt {H : Type} {enc : TypeId × Value → H} {W : World} {base : Nat} {v0 : Value} {d0 : DataW H} {p0 : List MemPlace} (hv : Value.okWide Tryz.prog W .any base 26 v0)
    (h0 : DataW.Trod enc Tryz.prog W 0 (fun _ => true) true 26 v0 d0 p0) : IntArg W v0 := by
  obtain ⟨c0, c1, y0, y1, k, rfl, -, -, hy0, hy1⟩ := open_agg2 Tryz.underlying26 (by kernel_rfl) cellsInt hv h0
  obtain ⟨s, e0, -⟩ := DataW.trod_bool Tryz.underlying4 hy0
  simp only [List.cons.injEq, and_true] at e0
  subst e0
  rcases open_ints Tryz.underlying24 Tryz.underlying83 cellsLimb hy1 with ⟨hcs, -⟩ | ⟨a, len, cap, zs, hcs, -, hl, hm, hz, -, hcell, hwz⟩
  · simp only [List.cons.injEq, and_true] at hcs
    subst hcs
    exact ⟨s, none, 0, 0, [], rfl, rfl, Nat.le_refl _, Nat.zero_le _, Rd.nil, u32_nil, fun _ => rfl⟩
  · simp only [List.cons.injEq, and_true] at hcs
    subst hcs
    simp only [if_true] at hz
    refine ⟨s, some a, len, cap, zs.take len, rfl, by simp; omega, hl, hm, ?_, ?_, fun h => by cases h⟩
    · intro hp
      have hp' : 0 < zs.length := by simp at hp; omega
      obtain ⟨b, off, rfl, hc⟩ := ints_at hcell hp'
      refine ⟨b, off, rfl, fun j hj => ?_⟩
      have hj' : j < len ∧ j < zs.length := by simp at hj; omega
      rw [gx_take _ _ _ hj'.1]
      exact hc j hj'.2
    · refine u32_take (fun j => ?_) len
      by_cases hj : j < zs.length
      · have := hwz zs[j] (List.getElem_mem hj)
        rw [gx_mem zs j hj]
        have h4 : 0 ≤ zs[j] ∧ zs[j] ≤ 4294967295 := by
          simpa [Lit.wf, IntKind.min, IntKind.max, IntKind.signed, IntKind.bits] using this
        exact ⟨h4.1, by omega⟩
      · rw [gx_past zs _ (Nat.le_refl _) j (by omega)]; decide
end Go.Proofs.YtppidaeoikahoaaGreatDoor
