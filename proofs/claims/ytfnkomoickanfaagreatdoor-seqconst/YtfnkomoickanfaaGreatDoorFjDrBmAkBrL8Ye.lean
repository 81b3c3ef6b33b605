/-
  ashlarref9.Term.
-/
import Derived.Test.YtfnkomoickanfaaGreatDoorOrAvDxAxDyAwBqAzBlEeEfEyDjVkJoFi
import Derived.Test.YtfnkomoickanfaaGreatDoorRpDkDlDbRiRjRg
import Derived.Deep.DeepFit
import Derived.Test.YtfnkomoickanfaaGreatDoorUgUjLeUkUiWiWjUlDd
import Derived.Test.YtfnkomoickanfaaGreatDoorGgUnDqWfUuUxUtUvUwUyHgVwRzVdRsVfTaTbTc
import Derived.Test.YtfnkomoickanfaaGreatDoorAfBpBnBoAhAdDtAgWvUhAiAjCuOaOfJp
import Derived.Test.YtfnkomoickanfaaGreatDoorRkVqDcUmUoDmDvPmHuVs
import Derived.Test.YtfnkomoickanfaaGreatDoorVtVyVzD1DhVvVnVcDu
import Derived.Test.YtfnkomoickanfaaGreatDoorAcDsAe
import Derived.Test.YtfnkomoickanfaaGreatDoorD0BsReRxRfRhCqRrRwVaVg
import Derived.Test.YtfnkomoickanfaaGreatDoorD7D8OcOdTf
import Derived.Test.YtfnkomoickanfaaGreatDoorFeZeZfLhLjOiZgZhWnWoWpBgBfZiZnZpRqYiFf
import Derived.Test.YtfnkomoickanfaaGreatDoorZsYdFaFdZjCwYh
namespace Go.Proofs.YtfnkomoickanfaaGreatDoor
open Go.RowKit
set_option linter.unusedVariables false
set_option linter.unusedSimpArgs false
set_option maxHeartbeats 8000000
theorem rPlusI_any {w : World} (a b : Int) (ha : InI a) (hb : InT b) :
    Calls Tryz.prog 74 #[.int .i64 a, .int .i64 b] w fun e w' => e = .returned (.int .i64 (smf a b)) ∧ w' = w := by
  unfold InI at ha
  unfold InT at hb
  have v1 : wrap64 (4611686018427387904 - b) = 4611686018427387904 - b := by unfold wrap64; omega
  rcases Int.lt_or_le (4611686018427387904 - b) a with h | h
  · have HE : Hid (smf a b = 4611686018427387904) := by show smf a b = _; unfold smf; omega
    rw [HE.out]
    go_enter Tryz.func74, Tryz.ntmps74
    go_wp2
    go_ret
    exact ⟨rfl, rfl⟩
  · have HE : Hid (smf a b = a + b) := by show smf a b = _; unfold smf; omega
    have h' : ¬ 4611686018427387904 - b < a := by omega
    have v2 : wrap64 (a + b) = a + b := by unfold wrap64; omega
    rw [HE.out]
    go_enter Tryz.func74, Tryz.ntmps74
    go_wp2
    go_ret
    exact ⟨rfl, rfl⟩
theorem smfI_bd (a b : Int) (ha : InI a) (hb : InT b) : InT (smf a b) := by
  unfold InI at ha
  unfold InT at hb ⊢
  unfold smf
  omega
theorem zb_inI {x : Int} (h : InI x) : (zb x : Int) ≤ 64 := by
  rw [← len_zb h]
  exact blen_le h
set_option maxRecDepth 100000 in
theorem rTerm9_pos {w : World} {B T N E D K : Nat} {x : List (List Int)} {h : Hdr} {p1 : Option Addr} {n1 c1 : Nat} {rs : List Rq} {zs : List Rat} {n : Int} (H : HR D (EY N E) w B T x h) (hT : T ≤ w.heap.size) (hwa : WA (EM K) w p1 n1 c1 rs zs) (hD : D ≤ 1000000) (hE : E ≤ 1000000) (hN : N ≤ 1000) (hK : K ≤ 400) (hn1 : n1 ≤ 1000000) (hz : ∀ j, j < n1 → qb (gq zs j) ≤ 1000000) (b1 : SzB x) (hn : 0 ≤ n ∧ n ≤ 9223372036854775807) :
    Calls Tryz.prog 31 #[.slice h.p h.n h.c, .slice p1 n1 c1, .int .i64 n] w fun e w' => e = .returned (.int .i64 (max (tms [smf n 1, rszO x + 1, sms [rszB x, pmf (rszD x + 1) ((zb n : Int) + 1), 8]]) (tms [smf n 1, (wbt zs : Int) + 1]))) ∧ Below w.heap.size w w' := by
  have h1 := fun w' (hb : Below w.heap.size w w') => rSize8_any ((lasts_HR (lasts_EY N E)).below H hT hb) (Nat.le_trans hT hb.size) hD hE hN
  have h2 := fun w' (hb : Below w.heap.size w w') => rWindow9_any (hwa.below (lasts_EM K) hb) hK hn1 hz
  have bz : wbt zs ≤ 1000000 := by
    have := wbt_bd zs 1000000 (fun j hj => hz j (by rw [← hwa.zl]; exact hj)) zs.length (Nat.le_refl _)
    rwa [List.take_length] at this
  obtain ⟨p, m, mc⟩ := h
  simp only at h1 h2 ⊢
  clear H hT hwa hz
  unfold SzB at b1
  generalize rszO x = r at *
  generalize rszD x = d at *
  generalize rszB x = k at *
  generalize hbz : (wbt zs : Int) = wv at *
  have hw0 : 0 ≤ wv ∧ wv ≤ 1000000 := by omega
  clear hbz bz
  have iN : InI n := ⟨hn.1, hn.2⟩
  have hof := fun w' => rOf_e n w' iN.1 iN.2
  have hz64 := zb_inI iN
  have t1 := smfI_bd n 1 iN ⟨by decide, by decide⟩
  have hpl := fun w' => rPlusI_any (w := w') n 1 iN ⟨by decide, by decide⟩
  have i0 : ¬ n < 0 := by omega
  obtain ⟨⟨r0, r1⟩, ⟨d0, d1⟩, k0, k1⟩ := b1
  have v0 : wrap64 (r + 1) = r + 1 := by unfold wrap64; omega
  have v1 : wrap64 (d + 1) = d + 1 := by unfold wrap64; omega
  have v3 : wrap64 (wv + 1) = wv + 1 := by unfold wrap64; omega
  go_enter Tryz.func31, Tryz.ntmps31
  go_wp2_with fail
  go_fit (h1 w (Below.refl _ _))
  rintro e1 w1 ⟨rfl, hB1⟩
  have h2' := h2 w1 hB1
  go_wp2_with fail
  go_fit h2'
  rintro e1 w2 ⟨rfl, hb2⟩
  have hB2 := bnext' hB1 hb2
  clear h1 h2 h2' hb2 hB1
  go_wp2_with fail
  go_fit (hof w2)
  rintro e1 w3 ⟨u, rfl, hRE, -, hb3⟩
  have hB3 := bnext' hB2 hb3
  have hbt := rBits_e hRE (by decide)
  clear hof hb3 hB2 hRE
  go_wp2_with fail
  go_fit hbt
  rintro e1 w4 ⟨rfl, hzb, hb4⟩
  have hB4 := bnext' hB3 hb4
  clear hbt hb4 hB3 hzb
  generalize hbb : (zb n : Int) = b at *
  have HBB : Hid ((zb n : Int) = b ∧ 0 ≤ b) := ⟨hbb, by omega⟩
  have hb0 : 0 ≤ b := HBB.out.2
  clear hbb
  have v4 : wrap64 (b + 1) = b + 1 := by unfold wrap64; omega
  go_wp2_with fail
  go_fit (hpl w4)
  rintro e1 w5 ⟨rfl, hw⟩
  subst w5
  generalize hs1 : smf n 1 = s1 at *
  have HS1 : Hid (smf n 1 = s1) := hs1
  clear hs1
  have pg : InT (pmf (d + 1) (b + 1)) := pmf_bd (d + 1) (b + 1) (inT_small (by omega) (by omega)) (inI_small (by omega) (by omega))
  go_wp2_with fail
  go_fit (rBy0_any (d + 1) (b + 1) (inT_small (by omega) (by omega)) (inI_small (by omega) (by omega)))
  rintro e1 w6 ⟨rfl, hb6⟩
  have hB6 := bnext' hB4 hb6
  clear hB4 hb6
  generalize hgg : pmf (d + 1) (b + 1) = g at *
  have HGG : Hid (pmf (d + 1) (b + 1) = g) := hgg
  clear hgg
  have hrd : Rd (w6.alloc (.cells #[.int .i64 k, .int .i64 g, .int .i64 8] 3)) (some ⟨w6.heap.size, 0, none⟩) .i64 [k, g, 8] := rd_lit w6 [k, g, 8] 3
  have hin : ∀ y ∈ [k, g, 8], InT y := (List.forall_mem_cons.2 ⟨inT_small (by omega) (by omega), (List.forall_mem_cons.2 ⟨pg, (List.forall_mem_cons.2 ⟨inT_small (by omega) (by omega), (List.forall_mem_nil _)⟩)⟩)⟩)
  go_wp2_with fail
  go_fit (rsum_lit [k, g, 8] 3 rfl (by decide) hrd hin)
  rintro e1 w7 ⟨rfl, hb7⟩
  have hB7 : Below w.heap.size w w7 := bnext' hB6 (bnext' ((Below.refl _ _).alloc (Nat.le_refl _) _) hb7)
  have ps : InT (sms [k, g, 8]) := sms_inT hin
  clear hrd hin hB6 hb7
  generalize hss : sms [k, g, 8] = s2 at *
  have HSS : Hid (sms [k, g, 8] = s2) := hss
  clear hss
  have hrd : Rd (w7.alloc (.cells #[.int .i64 s1, .int .i64 (r + 1), .int .i64 s2] 3)) (some ⟨w7.heap.size, 0, none⟩) .i64 [s1, r + 1, s2] := rd_lit w7 [s1, r + 1, s2] 3
  have hin : ∀ y ∈ [s1, r + 1, s2], InI y := (List.forall_mem_cons.2 ⟨⟨t1.1, by have := t1.2; omega⟩, (List.forall_mem_cons.2 ⟨inI_small (by omega) (by omega), (List.forall_mem_cons.2 ⟨⟨ps.1, by have := ps.2; omega⟩, (List.forall_mem_nil _)⟩)⟩)⟩)
  go_wp2_with fail
  go_fit (rtimes_lit [s1, r + 1, s2] 3 rfl (by decide) hrd hin)
  rintro e1 w8 ⟨rfl, hb8⟩
  have hB8 : Below w.heap.size w w8 := bnext' hB7 (bnext' ((Below.refl _ _).alloc (Nat.le_refl _) _) hb8)
  clear hrd hin hB7 hb8
  generalize htt : tms [s1, r + 1, s2] = T1 at *
  have HTT : Hid (tms [s1, r + 1, s2] = T1) := htt
  clear htt
  go_wp2_with fail
  go_fit (hpl w8)
  rintro e1 w9 ⟨rfl, hw⟩
  subst w9
  have hrd : Rd (w8.alloc (.cells #[.int .i64 s1, .int .i64 (wv + 1)] 3)) (some ⟨w8.heap.size, 0, none⟩) .i64 [s1, wv + 1] := rd_lit w8 [s1, wv + 1] 3
  have hin : ∀ y ∈ [s1, wv + 1], InI y := (List.forall_mem_cons.2 ⟨⟨t1.1, by have := t1.2; omega⟩, (List.forall_mem_cons.2 ⟨inI_small (by omega) (by omega), (List.forall_mem_nil _)⟩)⟩)
  go_wp2_with fail
  go_fit (rtimes_lit [s1, wv + 1] 2 rfl (by decide) hrd hin)
  rintro e1 w10 ⟨rfl, hb10⟩
  have HB8 : Hid (Below w.heap.size w w10) := bnext' hB8 (bnext' ((Below.refl _ _).alloc (Nat.le_refl _) _) hb10)
  clear hrd hin hB8 hb10 hpl
  generalize hyy : tms [s1, wv + 1] = Y at *
  have HYY : Hid (tms [s1, wv + 1] = Y) := hyy
  clear hyy
  rcases Int.lt_or_le T1 Y with hlt | hge
  · have hmx : Hid (max T1 Y = Y) := by show max T1 Y = Y; omega
    go_wp2
    go_ret
    refine ⟨?_, HB8.out⟩
    rw [HBB.out.1, HS1.out, HGG.out, HSS.out, HTT.out, HYY.out, hmx.out]
    rfl
  · have hmx : Hid (max T1 Y = T1) := by show max T1 Y = T1; omega
    have i1 : ¬ T1 < Y := by omega
    go_wp2
    go_ret
    refine ⟨?_, HB8.out⟩
    rw [HBB.out.1, HS1.out, HGG.out, HSS.out, HTT.out, HYY.out, hmx.out]
    rfl
theorem EY.le {N E N' E' : Nat} {w : World} {B T : Nat} {z : List Int} {h : Hdr} (k : EY N E w B T z h) (hN : N ≤ N') (hE : E ≤ E') : EY N' E' w B T z h := by
  obtain ⟨fs, a, b, c, d, e⟩ := k
  exact ⟨fs, ⟨a.el, a.zl, a.cap, a.bnd, a.pl, fun j hj => (a.ev j hj).wide hN⟩, b, c, Nat.le_trans d hE, e⟩
theorem HR.le {N E N' E' D : Nat} {w : World} {B T : Nat} {z : List (List Int)} {h : Hdr} (k : HR D (EY N E) w B T z h) (hN : N ≤ N') (hE : E ≤ E') : HR D (EY N' E') w B T z h := by
  obtain ⟨hs, a⟩ := k
  exact ⟨hs, a.el, a.tl, a.cap, a.bnd, a.pn, a.few, a.hl, a.at_, fun j hj => (a.ev j hj).le hN hE⟩
theorem gt_mapt (z : List (List Int)) (j : Nat) : gt (z.map tr) j = tr (gt z j) := by
  rcases Nat.lt_or_ge j z.length with h | h
  · simp [gt, h]
  · rw [gt_over0 _ _ (by simpa using h), gt_over0 _ _ h]
    rfl
theorem olen_tlen {a b : List (List Int)} (h : ∀ j, tlen (gt a j) = tlen (gt b j)) : olen a = olen b := by
  refine olen_eq a (olen b) (fun j hj => by rw [h j]; exact olen_zero b j hj) ?_
  rcases Nat.eq_zero_or_pos (olen b) with h0 | h0
  · exact .inl h0
  · refine .inr ?_
    rw [h]
    intro e
    have h1 := tlen_top (b.map fun z => (tlen z : Int)) h0
    rw [gx_tlens] at h1
    apply h1
    show (tlen (gt b (olen b - 1)) : Int) = 0
    rw [e]
    rfl
theorem olen_mapt (z : List (List Int)) : olen (z.map tr) = olen z := olen_tlen fun j => by rw [gt_mapt, tlen_tr]
theorem otr_mapt (z : List (List Int)) : otr (z.map tr) = oz z := by rw [otr, olen_mapt, ← List.map_take]; rfl
structure RS (w : World) (base gs B T N E D Q : Nat) (l : List (List Int)) (h : Hdr) (wv v : Value) (rs : List Rq) (zs : List Rat) : Prop where
  bx : w.heap[gs]? = some (.cells #[.slice h.p h.n h.c, wv, v] 81 (0, 0))
  op : HR D (EY N E) w B T l h
  T : T ≤ base
  gb : base ≤ gs
  lw : LW base 45 (EM Q) w v rs zs
  no : v.ownBlock ≠ some gs
theorem frl_one {rs : List Rq} : ∀ u ∈ frl rs, u.oneCell' = true := fun u hu => by
  simp only [frl, List.mem_flatMap, Rq.cells, List.mem_cons, List.not_mem_nil, or_false] at hu
  obtain ⟨e, -, rfl | rfl | rfl | rfl⟩ := hu <;> rfl
theorem frl_news {w : World} {b o : Nat} {rs : List Rq} (h : ∀ j, j < rs.length → w.cell? ⟨b, o + j * 4, none⟩ = some (.bool (gr rs j).s) ∧ w.cell? ⟨b, o + j * 4 + 1, none⟩ = some (.slice (gr rs j).p (gr rs j).n (gr rs j).c) ∧ w.cell? ⟨b, o + j * 4 + 2, none⟩ = some (.bool (gr rs j).t) ∧ w.cell? ⟨b, o + j * 4 + 3, none⟩ = some (.slice (gr rs j).q (gr rs j).m (gr rs j).d)) : ∀ j u, (frl rs)[j]? = some u → w.cell? ((⟨b, o, none⟩ : Addr).add j) = some u := fun j u hu => by
  have hlt : j < (frl rs).length := (List.getElem?_eq_some_iff.1 hu).1
  rw [length_frl] at hlt
  have hq : j / 4 < rs.length := by omega
  obtain ⟨f0, f1, f2, f3⟩ := frl_get rs (j / 4) hq
  obtain ⟨c0, c1, c2, c3⟩ := h (j / 4) hq
  have hadd : (⟨b, o, none⟩ : Addr).add j = ⟨b, o + j, none⟩ := by unfold Addr.add; split <;> simp_all
  rw [hadd]
  have hm : j % 4 = 0 ∨ j % 4 = 1 ∨ j % 4 = 2 ∨ j % 4 = 3 := by omega
  rcases hm with e | e | e | e
  · have e1 : j = j / 4 * 4 := by omega
    rw [e1] at hu ⊢
    rw [f0] at hu
    rw [← Option.some.inj hu]
    exact c0
  · have e1 : j = j / 4 * 4 + 1 := by omega
    rw [e1] at hu ⊢
    rw [f1] at hu
    rw [← Option.some.inj hu]
    exact c1
  · have e1 : j = j / 4 * 4 + 2 := by omega
    rw [e1] at hu ⊢
    rw [f2] at hu
    rw [← Option.some.inj hu]
    exact c2
  · have e1 : j = j / 4 * 4 + 3 := by omega
    rw [e1] at hu ⊢
    rw [f3] at hu
    rw [← Option.some.inj hu]
    exact c3
theorem rts_lead : rts [1] 0 5 = [] := by decide
theorem pb_lead : pb [1] = 1 := by decide
theorem mul_mk (a b : Rat) : Rat.divInt (a.num * b.num) (a.den * b.den) = a * b := by
  have := Rat.divInt_mul_divInt a.num b.num (d₁ := a.den) (d₂ := b.den)
  rw [← this, Rat.num_divInt_den, Rat.num_divInt_den]
theorem add_mk (a b : Rat) : Rat.divInt (a.num * b.den + b.num * a.den) (a.den * b.den) = a + b := by
  have := Rat.divInt_add_divInt a.num b.num (d₁ := a.den) (d₂ := b.den) (by have := a.den_nz; omega) (by have := b.den_nz; omega)
  rw [← this, Rat.num_divInt_den, Rat.num_divInt_den]
set_option maxRecDepth 100000 in
theorem rMul_q {w : World} {Ka Kb : Nat} {sa ta sb tb : Bool} {pa qa pb qb : Option Addr} {na ma nb mb : Nat} {ra rb : Rat} (ha : MQ w Ka sa pa na ta qa ma ra) (hb : MQ w Kb sb pb nb tb qb mb rb) (hKa : 1 ≤ Ka) (hKb : 1 ≤ Kb) (hK : Ka + Kb ≤ 240) :
    Calls Tryz.prog 46 #[.agg #[.bool sa, .slice pa na na, .bool ta, .slice qa ma ma], .agg #[.bool sb, .slice pb nb nb, .bool tb, .slice qb mb mb]] w (MP (ra * rb) (Ka + Kb) w) := by
  have hs : Hid (Sz (ra * rb) (Ka + Kb)) := mul_sz ha.sz hb.sz hKa
  have hval : Hid (Rat.divInt (ra.num * rb.num) (ra.den * rb.den) = ra * rb) := mul_mk ra rb
  have la := ha.num.le
  go_enter Tryz.func46, Tryz.ntmps46
  go_wp2_with fail
  have hA0 : Bq ((((w).alloc (.cells #[.bool sa, .slice pa na na, .bool ta, .slice qa ma ma] 45)).alloc (.cells #[.bool sb, .slice pb nb nb, .bool tb, .slice qb mb mb] 45)).alloc (.cells #[.bool false, .slice none 0 0, .bool false, .slice none 0 0] 45)) w.heap.size (.bool sa) (.slice pa na na) (.bool ta) (.slice qa ma ma) := ((Bq.new _ _ _ _ _ rfl).alloc _).alloc _
  have hB0 : Bq ((((w).alloc (.cells #[.bool sa, .slice pa na na, .bool ta, .slice qa ma ma] 45)).alloc (.cells #[.bool sb, .slice pb nb nb, .bool tb, .slice qb mb mb] 45)).alloc (.cells #[.bool false, .slice none 0 0, .bool false, .slice none 0 0] 45)) (w.heap.size + 1) (.bool sb) (.slice pb nb nb) (.bool tb) (.slice qb mb mb) := (Bq.new _ _ _ _ _ (by simp)).alloc _
  have hR0 : Bq ((((w).alloc (.cells #[.bool sa, .slice pa na na, .bool ta, .slice qa ma ma] 45)).alloc (.cells #[.bool sb, .slice pb nb nb, .bool tb, .slice qb mb mb] 45)).alloc (.cells #[.bool false, .slice none 0 0, .bool false, .slice none 0 0] 45)) (w.heap.size + 1 + 1) (.bool false) (.slice none 0 0) (.bool false) (.slice none 0 0) := Bq.new _ _ _ _ _ (by simp)
  have hW : Below w.heap.size w ((((w).alloc (.cells #[.bool sa, .slice pa na na, .bool ta, .slice qa ma ma] 45)).alloc (.cells #[.bool sb, .slice pb nb nb, .bool tb, .slice qb mb mb] 45)).alloc (.cells #[.bool false, .slice none 0 0, .bool false, .slice none 0 0] 45)) := (((Below.refl _ _).alloc (Nat.le_refl _) _).alloc (by simp) _).alloc (by simp; omega) _
  generalize (((w).alloc (.cells #[.bool sa, .slice pa na na, .bool ta, .slice qa ma ma] 45)).alloc (.cells #[.bool sb, .slice pb nb nb, .bool tb, .slice qb mb mb] 45)).alloc (.cells #[.bool false, .slice none 0 0, .bool false, .slice none 0 0] 45) = W at *
  have hqa := ha.below hW
  have hqb := hb.below hW
  have nA : Hid (w.heap.size ≠ w.heap.size + 1 + 1) := (by omega : w.heap.size ≠ w.heap.size + 1 + 1)
  have nB : Hid (w.heap.size + 1 ≠ w.heap.size + 1 + 1) := (by omega : w.heap.size + 1 ≠ w.heap.size + 1 + 1)
  have a0 := hA0.c0
  have a1 := hA0.c1
  have a2 := hA0.c2
  have a3 := hA0.c3
  have b0 := hB0.c0
  have b1 := hB0.c1
  have b2 := hB0.c2
  have b3 := hB0.c3
  go_region_held3 (fun w' => w'.cell? ⟨w.heap.size, 0, none⟩ = some (.bool sa) ∧ w'.cell? ⟨w.heap.size, 1, none⟩ = some (.slice pa na na) ∧ w'.cell? ⟨w.heap.size, 2, none⟩ = some (.bool ta) ∧ w'.cell? ⟨w.heap.size, 3, none⟩ = some (.slice qa ma ma) ∧ w'.cell? ⟨w.heap.size + 1, 0, none⟩ = some (.bool sb) ∧ w'.cell? ⟨w.heap.size + 1, 1, none⟩ = some (.slice pb nb nb) ∧ w'.cell? ⟨w.heap.size + 1, 2, none⟩ = some (.bool tb) ∧ w'.cell? ⟨w.heap.size + 1, 3, none⟩ = some (.slice qb mb mb)) (first | with_reducible exact ⟨a0, a1, a2, a3, b0, b1, b2, b3⟩ | with_reducible exact keepq ⟨a0, a1, a2, a3, b0, b1, b2, b3⟩ hV1 | with_reducible exact keepq ⟨a0, a1, a2, a3, b0, b1, b2, b3⟩ hV2 | with_reducible exact keepq ⟨a0, a1, a2, a3, b0, b1, b2, b3⟩ hV3 | with_reducible exact keep8s ⟨a0, a1, a2, a3, b0, b1, b2, b3⟩ hV3 nA nB | (simp [go_sem, *]; done))
    (first
      | (go_at_call_of 43 (Value.agg #[.bool sa, .slice pa na na]); go_at_call_of 43 (Value.agg #[.bool sb, .slice pb nb nb]); refine (rMul_v hqa.num.drew hqb.num.drew (by omega) (by omega)).mono ?_; rintro e v1 ⟨s1, p1, n1, rfl, hr1, hF1, hv1⟩; have hV1 := undrew hv1)
      | (go_at_call_of 43 (Value.agg #[.bool ta, .slice qa ma ma]); go_at_call_of 43 (Value.agg #[.bool tb, .slice qb mb mb]); refine (rMul_v (hqa.den.below hV1) (hqb.den.below hV1) (by omega) (by omega)).mono ?_; rintro e v2 ⟨s2, p2, n2, rfl, hr2, hF2, hv2⟩; have hV2 := bnext' hV1 hv2)
      | (go_at_call 49; refine (Make_v (K := Ka + Kb) (hr1.below hv2) hr2 (by omega) (by omega) (by rw [hval.out]; exact hs.out)).mono ?_; rintro e v3 ⟨s3, p3, n3, t3, q3, m3, rfl, hm, hF3, hF3', hv3⟩; have hV3 := bnext' hV2 hv3; rw [hval.out] at hm; obtain ⟨r0, r1, r2, r3, f0, f1, f2, f3⟩ := hR0.later hV3))
  clear a0 a1 a2 a3 b0 b1 b2 b3
  go_wp2
  refine bodyPost_ret (v := .agg #[.bool s3, .slice p3 n3 n3, .bool t3, .slice q3 m3 m3]) (by simp [results, Tryz.results46, go_sem, r0, r1, r2, r3]) rfl ?_
  have sV := hV2.size
  exact end_mp hW (by omega) hR0.lt hV3 hm (fun a ha => Nat.le_trans sV (hF3 a ha)) (fun a ha => Nat.le_trans sV (hF3' a ha))
end Go.Proofs.YtfnkomoickanfaaGreatDoor
