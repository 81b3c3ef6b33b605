/-
  limbs.Quo of entries; upoly.parts.
-/
import Derived.Test.YtakfimhpnpapdaaGreatDoorWfUuUx
namespace Go.Proofs.YtakfimhpnpapdaaGreatDoor
open Go.RowKit
set_option linter.unusedVariables false
set_option linter.unusedSimpArgs false

theorem quo_uniq {a b Q R : Int} (hb : b ≠ 0) (h : Q * b + R = a) (h0 : 0 ≤ R) (h1 : R < (b.natAbs : Int)) : Q = a / b ∧ R = a % b := by
  have hz : R / b = 0 := by
    rcases Int.lt_or_gt_of_ne hb with hn | hp
    · have : R / (-b) = 0 := Int.ediv_eq_zero_of_lt h0 (by omega)
      rw [Int.ediv_neg] at this
      omega
    · exact Int.ediv_eq_zero_of_lt h0 (by omega)
  have e : a / b = Q := by
    rw [← h, Int.add_comm, Int.add_mul_ediv_right _ _ hb, hz, Int.zero_add]
  refine ⟨e.symm, ?_⟩
  have := Int.emod_def a b
  rw [e, Int.mul_comm] at this
  omega
theorem Quo_ev {w : World} {K L : Nat} {x y : Int} {e f : Ent} (h : EV w K x e) (k : EV w L y f) (hy : y ≠ 0) (hK : K < 159) : Calls Tryz.prog 82 #[.agg #[.bool e.s, .slice e.p e.n e.c], .agg #[.bool f.s, .slice f.p f.n f.c]] w fun r w' => ∃ u v : Ent, r = .returned (.tuple #[.agg #[.bool u.s, .slice u.p u.n u.c], .agg #[.bool v.s, .slice v.p v.n v.c], .int .i64 0]) ∧ NV w.heap.size w' (K + 3) (x / y) u ∧ NV w.heap.size w' (K + L + 1) (x % y) v ∧ Below w.heap.size w w' := by
  obtain ⟨xs, h1, rfl, h3⟩ := h
  obtain ⟨ys, k1, rfl, k3⟩ := k
  have hv : val ys ≠ 0 := fun e => hy (by rw [ival, e]; simp)
  refine (Quo_mid e.s f.s e.p f.p e.n e.c f.n f.c xs ys w h1 k1 (by omega) hv).mono ?_
  rintro r w' ⟨s1, p1, n1, qs, s2, p2, n2, rs, Q, R, g1, g2, g3, g4, g5, g6, g7, g8, g9⟩
  obtain ⟨rfl, rfl⟩ := quo_uniq hy g4 g5 g6
  exact ⟨⟨s1, p1, n1, n1⟩, ⟨s2, p2, n2, n2⟩, g1, ⟨qs, g2, rfl, by show n1 ≤ _; omega⟩, ⟨rs, g3, rfl, by show n2 ≤ _; omega⟩, g9⟩
theorem Neg_ev {w : World} {K : Nat} {x : Int} {e : Ent} (h : EV w K x e) : Calls Tryz.prog 80 #[.agg #[.bool e.s, .slice e.p e.n e.c]] w fun r w' => ∃ u : Ent, r = .returned (.agg #[.bool u.s, .slice u.p u.n u.c]) ∧ NV w.heap.size w' K (-x) u ∧ Below w.heap.size w w' := by
  obtain ⟨xs, h1, rfl, h3⟩ := h
  refine (Neg_any e.s e.p e.n e.c xs w h1).mono ?_
  rintro r w' ⟨s', p', n', zs, g1, g2, g3, g4⟩
  have e1 : ival (!e.s) xs = -ival e.s xs := by cases e.s <;> simp [ival]
  rw [e1] at g2
  exact ⟨⟨s', p', n', n'⟩, g1, ⟨zs, g2, rfl, by show n' ≤ _; omega⟩, g4⟩
theorem div_bd {x y P : Int} (hx : (x.natAbs : Int) < P) (hd : y ∣ x) (hy : y ≠ 0) : (((x / y)).natAbs : Int) < P := by
  obtain ⟨q, rfl⟩ := hd
  rw [Int.mul_ediv_cancel_left _ hy]
  have h1 : q.natAbs ≤ (y * q).natAbs := by
    rw [Int.natAbs_mul]
    exact Nat.le_mul_of_pos_left _ (by omega)
  omega
set_option maxHeartbeats 2000000 in
set_option maxRecDepth 100000 in
/-- parts' closure: d's box is handed along. -/
theorem parts1_any {w : World} {K L g : Nat} {y z : Int} {e f : Ent} (hX : Bx w g (.bool e.s) (.slice e.p e.n e.c)) (hy : EV w L y e) (h : EV w K z f) (hy0 : y ≠ 0) (hK : K < 159) :
    Calls Tryz.prog 81 #[.agg #[.bool f.s, .slice f.p f.n f.c], .pointer (some ⟨g, 0, none⟩)] w fun r w' => ∃ u : Ent, r = .returned (.agg #[.bool u.s, .slice u.p u.n u.c]) ∧ NV w.heap.size w' (K + 3) (z / y) u ∧ Below w.heap.size w w' := by
  obtain ⟨a0, a1, -, -⟩ := ((hX.alloc (.cells #[.bool f.s, .slice f.p f.n f.c] 29)).alloc (.cells #[.bool false, .slice none 0 0] 29))
  have hR0 : Bx ((w.alloc (.cells #[.bool f.s, .slice f.p f.n f.c] 29)).alloc (.cells #[.bool false, .slice none 0 0] 29)) (w.heap.size + 1) (.bool false) (.slice none 0 0) := Bx.new _ _ _ (by simp)
  have hW0 : Below w.heap.size w ((w.alloc (.cells #[.bool f.s, .slice f.p f.n f.c] 29)).alloc (.cells #[.bool false, .slice none 0 0] 29)) := ((Below.refl _ _).alloc (Nat.le_refl _) _).alloc (by simp) _
  go_enter Tryz.func81, Tryz.ntmps81
  go_wp2_with fail
  generalize (w.alloc (.cells #[.bool f.s, .slice f.p f.n f.c] 29)).alloc (.cells #[.bool false, .slice none 0 0] 29) = W0 at *
  refine (Quo_ev (h.below hW0) (hy.below hW0) hy0 hK).mono ?_
  rintro r w1 ⟨u, v, rfl, hN, -, hb1⟩
  have sR : w.heap.size + 1 < W0.heap.size := block_lt_of_cell hR0.c0
  have hal := bel_al (o := .cells #[.bool v.s, .slice v.p v.n v.c] 29) (bel_al (o := .cells #[.bool u.s, .slice u.p u.n u.c] 29) (Below.refl w1.heap.size w1))
  obtain ⟨r0, r1, f0, f1⟩ := (hR0.later hb1).later hal
  have HN : Hid (NV W0.heap.size w1 (K + 3) (z / y) u) := hN
  clear hN a0 a1 hR0
  go_wp2
  have hB := bnext' (bnext' hW0 hb1) hal
  have hN2 := HN.out.below hal
  generalize (w1.alloc (.cells #[.bool u.s, .slice u.p u.n u.c] 29)).alloc (.cells #[.bool v.s, .slice v.p v.n v.c] 29) = W2 at *
  refine bodyPost_ret (v := .agg #[.bool u.s, .slice u.p u.n u.c]) (by simp [results, Tryz.results81, go_sem, r0, r1]) rfl ⟨u, rfl, ?_, ?_⟩
  · exact (hN2.set2 (g := w.heap.size + 1) (o := 0) sR _ _).mono hW0.size
  · exact bset2 hB (by omega) _ _
/-- The primitive part. -/
def prml (zs : List Int) : List Int := zs.map (· / (if gx zs (zs.length - 1) < 0 then -(gcdl zs : Int) else gcdl zs))
theorem gx_mapd (y : Int) (zs : List Int) (j : Nat) : gx (zs.map (· / y)) j = gx zs j / y := by
  unfold gx
  rw [List.getD_eq_getElem?_getD, List.getD_eq_getElem?_getD, List.getElem?_map]
  cases h : zs[j]? with
  | none => simp
  | some v => simp
theorem gcdl_dvd_step (zs : List Int) : ∀ j, j ≤ zs.length → ∀ i, i < j → ((gcdl (zs.take j) : Nat) : Int) ∣ gx zs i
  | 0, _, i, hi => absurd hi (by omega)
  | j + 1, hj, i, hi => by
    rw [gcdl_take zs j (by omega)]
    rcases Nat.lt_or_ge i j with h | h
    · exact Int.dvd_trans (Int.gcd_dvd_left ..) (gcdl_dvd_step zs j (by omega) i h)
    · obtain rfl : i = j := by omega
      exact Int.gcd_dvd_right ..
theorem gcdl_dvd (zs : List Int) (i : Nat) : ((gcdl zs : Nat) : Int) ∣ gx zs i := by
  rcases Nat.lt_or_ge i zs.length with h | h
  · have := gcdl_dvd_step zs zs.length (Nat.le_refl _) i h
    rwa [List.take_length] at this
  · rw [gx_past zs zs.length (Nat.le_refl _) i h]
    exact Int.dvd_zero _
theorem gcdl_ne {zs : List Int} (h : tlen zs = zs.length) (h0 : 0 < zs.length) : gcdl zs ≠ 0 := fun e => by
  have h1 := tlen_top zs (by omega)
  have h2 := gcdl_dvd zs (tlen zs - 1)
  rw [e] at h2
  exact h1 (Int.zero_dvd.1 (by simpa using h2))
/-- What parts answers. -/
def PtP (zs : List Int) (K : Nat) (w : World) (e : Ending) (w' : World) : Prop :=
  ∃ (u : Ent) (p : Option Addr) (n : Nat) (es : List Ent), e = .returned (.tuple #[.agg #[.bool u.s, .slice u.p u.n u.c], .slice p n n]) ∧ NV w.heap.size w' K (gcdl zs) u ∧ PN w.heap.size w' K p n es (prml zs) ∧ Below w.heap.size w w'
theorem quo_lez {z y P : Int} (h : (z.natAbs : Int) < P) : (((z / y)).natAbs : Int) < P := by
  have := Int.natAbs_ediv_le_natAbs z y
  omega
theorem sign_en {w : World} {K : Nat} {z : Int} {e : Ent} (h : EN w K z e) (hz : z ≠ 0) : decide (z < 0) = e.s := by
  obtain ⟨xs, h1, h2, h3, h4, h5⟩ := h
  have hv := val_nonneg h1.u
  cases hs : e.s <;> rw [hs] at h2 <;> simp [ival] at h2 <;> simp <;> omega
theorem parts_end {w W3 v3 : World} {B0 K n : Nat} {zs : List Int} {Y : Int} {u : Ent} {q : Option Addr} {fs : List Ent} (s0 s1 : Value) (hzl : zs.length = n) (hYe : Y = (if gx zs (zs.length - 1) < 0 then -(gcdl zs : Int) else gcdl zs)) (hY0 : Y ≠ 0) (hnr : tlen zs = n) (hn1 : 1 ≤ n) (k1 : fs.length = n) (k2 : PL v3 q fs) (k3 : Go.Proofs.YtakfimhpnpapdaaGreatDoor.From W3.heap.size q) (k4 : ∀ j, j < n → NV W3.heap.size v3 K (gx zs j / Y) (ge fs j)) (hN : NV B0 v3 K (gcdl zs) u) (hB0 : w.heap.size < B0) (hB : Below w.heap.size w W3) (hb : Below W3.heap.size W3 v3) (hsz : w.heap.size < W3.heap.size) :
    NV w.heap.size ((v3.setCell ⟨w.heap.size, 0, none⟩ s0).setCell ⟨w.heap.size, 1, none⟩ s1) K (gcdl zs) u ∧ PN w.heap.size ((v3.setCell ⟨w.heap.size, 0, none⟩ s0).setCell ⟨w.heap.size, 1, none⟩ s1) K q n fs (prml zs) ∧ Below w.heap.size w ((v3.setCell ⟨w.heap.size, 0, none⟩ s0).setCell ⟨w.heap.size, 1, none⟩ s1) := by
  have hpl : (prml zs).length = n := by rw [prml, List.length_map, hzl]
  have hgx : ∀ j, gx (prml zs) j = gx zs j / Y := fun j => by rw [prml, gx_mapd, hYe]
  have hoff : Off w.heap.size q := off_from k3 hsz
  refine ⟨(hN.set2 (o := 0) hB0 _ _).mono (Nat.le_of_lt hB0), ⟨k1, hpl, ?_, (k2.set_other ⟨w.heap.size, 0, none⟩ s0 hoff).set_other ⟨w.heap.size, 1, none⟩ s1 hoff, fun a ha => Nat.le_trans (Nat.le_of_lt hsz) (k3 a ha), fun j hj => ?_⟩, bset2 (bnext' hB hb) (Nat.le_refl _) _ _⟩
  · refine tlen_eq _ _ (fun j hj => gx_past _ _ (by omega) j hj) (.inr ?_)
    rw [hgx]
    have h1 := tlen_top zs (by omega)
    rw [hnr] at h1
    have h2 := gcdl_dvd zs (n - 1)
    have h3 : Y ∣ gx zs (n - 1) := by
      rw [hYe]
      split
      · exact Int.neg_dvd.2 h2
      · exact h2
    intro h4
    have := Int.ediv_mul_cancel h3
    rw [h4, Int.zero_mul] at this
    exact h1 this.symm
  · rw [hgx]
    exact ((k4 j hj).set2 (o := 0) hsz _ _).mono (Nat.le_of_lt hsz)
set_option maxHeartbeats 4000000 in
set_option maxRecDepth 100000 in
/-- upoly.parts of a polynomial that is not zero. -/
theorem parts_any {B : Nat} {w : World} {K : Nat} {p : Option Addr} {n : Nat} {es : List Ent} {zs : List Int} (h : PB B w K p n es zs) (hn : n ≤ 1000000) (hn1 : 1 ≤ n) (hK : K < 150) (hK1 : 1 ≤ K) :
    Calls Tryz.prog 51 #[.slice p n n] w (PtP zs K w) := by
  have hpa := h.pa hn
  have g1 : ((n : Int) == 0) = false := by rw [beq_eq_false_iff_ne]; omega
  have g2 : ¬ (n : Int) = 0 := by omega
  go_enter Tryz.func51, Tryz.ntmps51
  go_wp2_with fail
  have hal0 := bel_al (o := .cells #[.bool false, .slice none 0 0] 29) (Below.refl w.heap.size w)
  have hR0 : Bx (w.alloc (.cells #[.bool false, .slice none 0 0] 29)) w.heap.size (.bool false) (.slice none 0 0) := Bx.new _ _ _ rfl
  generalize w.alloc (.cells #[.bool false, .slice none 0 0] 29) = W0 at *
  refine (Content_any (hpa.below hal0) hn hK hK1).mono ?_
  rintro r w1 ⟨u, rfl, hN, hb1⟩
  have hB1 := bnext' hal0 hb1
  have hal := bel_al (o := .cells #[.bool u.s, .slice u.p u.n u.c] 29) (bel_al (o := .cells #[.bool u.s, .slice u.p u.n u.c] 29) (Below.refl w1.heap.size w1))
  have hC2 : Bx ((w1.alloc (.cells #[.bool u.s, .slice u.p u.n u.c] 29)).alloc (.cells #[.bool u.s, .slice u.p u.n u.c] 29)) w1.heap.size (.bool u.s) (.slice u.p u.n u.c) := (Bx.new _ _ _ rfl).alloc _
  have hD2 : Bx ((w1.alloc (.cells #[.bool u.s, .slice u.p u.n u.c] 29)).alloc (.cells #[.bool u.s, .slice u.p u.n u.c] 29)) (w1.heap.size + 1) (.bool u.s) (.slice u.p u.n u.c) := Bx.new _ _ _ (by simp)
  have hR2 := (hR0.later hb1).later hal
  have hN2 := hN.below hal
  have hB2 := bnext' hB1 hal
  have hP2 := hpa.below hB2
  have hE2 := (h.ev (n - 1) (by omega)).below hB2
  obtain ⟨b, o, hp, hc⟩ := hP2.pl (by rw [h.el]; omega)
  subst hp
  have c0 := (hc (n - 1) (by rw [h.el]; omega)).1
  have i1 : (n : Int) - 1 = ((n - 1 : Nat) : Int) := by omega
  have i2 : ((n - 1 : Nat) : Int) < (n : Int) := by omega
  have i3 : IntKind.i64.wrap ((n - 1 : Nat) : Int) = ((n - 1 : Nat) : Int) := by rw [IntKind.wrap_i64]; omega
  clear hc
  have hnr := h.nrm
  have hzl := h.zl
  have hg0 := gcdl_ne (zs := zs) (by rw [hnr, hzl]) (by omega)
  have sR : w.heap.size < W0.heap.size := block_lt_of_cell hR0.c0
  have sW := hb1.size
  have hoffD : ∀ e : Ent, NV W0.heap.size w1 K (gcdl zs) e → 0 < e.n → Off (w1.heap.size + 1) e.p := fun e he h0 => by obtain ⟨xs, q1, -⟩ := he; exact q1.rd.off (by omega) (by rw [q1.len]; exact h0)
  have hsg := sign_en hE2 (by have := tlen_top zs (by omega); rw [hnr] at this; exact this)
  have hcs : Hid ((ge es (n - 1)).s = false ∨ (ge es (n - 1)).s = true) := by cases (ge es (n - 1)).s <;> simp [Hid] <;> decide
  rcases hcs.out with hs | hs
  · rw [hs] at c0 hsg
    clear hs hcs
    obtain ⟨Y, hYe, hY0⟩ : ∃ Y : Int, Y = (if gx zs (zs.length - 1) < 0 then -(gcdl zs : Int) else gcdl zs) ∧ Y ≠ 0 := ⟨_, rfl, by split <;> omega⟩
    have hYv : Y = gcdl zs := by rw [hYe, if_neg (by rw [hzl]; simpa using hsg)]
    go_wp2_with fail
    have hd3 := hN2.ev (by omega)
    rw [← hYv] at hd3
    have HYv : Hid (Y = gcdl zs) := hYv
    clear hYv
    have hN3 := hN2
    generalize (w1.alloc (.cells #[.bool u.s, .slice u.p u.n u.c] 29)).alloc (.cells #[.bool u.s, .slice u.p u.n u.c] 29) = W3 at *
    have hC3 := hC2
    have hD3 := hD2
    have hR3 := hR2
    have hP3 := hP2
    have hB3 := hB2
    clear hC2 hD2 hR2 hP2 hB2 hN2 c0 hE2 hN hal
    have hsz : w.heap.size < W3.heap.size := block_lt_of_cell hR3.c0
    have he := each_any K _ _ _ _ _ W3.drew hP3.drew hn 81 #[.pointer (some ⟨w1.heap.size + 1, 0, none⟩)] callParts (fun w z e => NV W3.heap.size w K z e) (· / Y) (fun _ _ _ _ h hb => h.below hb) (fun _ _ _ _ _ _ _ h ho => h.set2o ho)
      (fun w' z e hb hv => (parts1_any ((Bx.later (w := W3.drew) ⟨hD3.c0, hD3.c1, hD3.f0, hD3.f1⟩ hb)) (hd3.drew.below hb) hv hY0 (by omega)).mono fun r w'' ⟨u, a, b, c⟩ => ⟨u, a, (b.mono hb.size).fit (quo_lez hv.bd), fun _ => .inr (by obtain ⟨xs, k, -⟩ := b; exact k.fr), c⟩)
    obtain ⟨q0, q1, -, -⟩ := id hC3
    go_region_with (go_at_call 58; refine he.mono ?_; rintro r v3 ⟨q, fs, rfl, k1, k2, k3, k4, hb3⟩; have hb3' := undrew hb3; obtain ⟨m0, m1, -, -⟩ := hC3.later hb3'; obtain ⟨r0, r1, f0, f1⟩ := hR3.later hb3')
    all_goals
      have hfin := parts_end (W3 := W3) (.bool u.s) (.slice u.p u.n u.c) hzl hYe hY0 hnr hn1 k1 k2 k3 k4 (hN3.below hb3') sR hB3 hb3' hsz
      have HF := (show Hid _ from hfin)
      clear hfin he k1 k2 k3 k4 hN3 hP3 hD3 hC3 hR3 hd3
      go_wp2
      refine bodyPost_ret (v := .tuple #[.agg #[.bool u.s, .slice u.p u.n u.c], .slice q n n]) (by simp [results, Tryz.results51, go_sem, r0, r1]) rfl ?_
      exact ⟨u, q, n, fs, rfl, HF.out⟩
  · rw [hs] at c0 hsg
    clear hs hcs
    obtain ⟨Y, hYe, hY0⟩ : ∃ Y : Int, Y = (if gx zs (zs.length - 1) < 0 then -(gcdl zs : Int) else gcdl zs) ∧ Y ≠ 0 := ⟨_, rfl, by split <;> omega⟩
    have hYv : Y = -(gcdl zs : Int) := by rw [hYe, if_pos (by rw [hzl]; simpa using hsg)]
    go_wp2_with fail
    have hpo : Off (w1.heap.size + 1) (some ⟨b, o, none⟩) := hpa.pl.off (by have := hB1.size; omega) (by rw [h.el]; omega)
    have hpe : ∀ j, j < n → 0 < (ge es j).n → Off (w1.heap.size + 1) (ge es j).p := fun j hj h0 => by obtain ⟨xs, q1, -⟩ := hpa.ev j hj; exact q1.rd.off (by have := hB1.size; omega) (by rw [q1.len]; exact h0)
    have hoffU := hoffD u hN
    have sD : w1.heap.size + 1 < ((w1.alloc (.cells #[.bool u.s, .slice u.p u.n u.c] 29)).alloc (.cells #[.bool u.s, .slice u.p u.n u.c] 29)).heap.size := by simp
    generalize (w1.alloc (.cells #[.bool u.s, .slice u.p u.n u.c] 29)).alloc (.cells #[.bool u.s, .slice u.p u.n u.c] 29) = W2 at *
    refine (Neg_ev (hN2.ev (by omega))).mono ?_
    rintro r w2 ⟨d, rfl, hM, hb2⟩
    rw [← hYv] at hM
    have HYv : Hid (Y = -(gcdl zs : Int)) := hYv
    clear hYv
    have hD2' := hD2.later hb2
    obtain ⟨t0, t1, t2, t3⟩ := id hD2'
    have sW1 := hB1.size
    have hD3 := Bx_set (x := .bool d.s) (y := .slice d.p d.n d.c) hD2'
    have hC3 := Bx_oth (g := w1.heap.size + 1) (x := .bool d.s) (y := .slice d.p d.n d.c) (hC2.later hb2) (by omega)
    have hR3 := Bx_oth (g := w1.heap.size + 1) (x := .bool d.s) (y := .slice d.p d.n d.c) (hR2.later hb2) (by omega)
    have hN3 : NV W0.heap.size ((w2.setCell ⟨w1.heap.size + 1, 0, none⟩ (.bool d.s)).setCell ⟨w1.heap.size + 1, 1, none⟩ (.slice d.p d.n d.c)) K (gcdl zs) u := (hN2.below hb2).set2o (o := 0) hoffU
    have hd3 : EV ((w2.setCell ⟨w1.heap.size + 1, 0, none⟩ (.bool d.s)).setCell ⟨w1.heap.size + 1, 1, none⟩ (.slice d.p d.n d.c)) K Y d := (hM.set2 (o := 0) (u := .bool d.s) (v := .slice d.p d.n d.c) sD).ev (by omega)
    have hP3 := (hP2.below hb2).gset (g := w1.heap.size + 1) (o := 0) (u := .bool d.s) (v := .slice d.p d.n d.c) (fun _ => hpo) hpe
    have hB3 := bset2 (g := w1.heap.size + 1) (bnext' hB2 hb2) (by omega) (.bool d.s) (.slice d.p d.n d.c)
    clear hC2 hD2 hR2 hP2 hB2 hN2 c0 hE2 hN hal hD2' hM hpo hpe
    go_wp2_with fail
    generalize (w2.setCell ⟨w1.heap.size + 1, 0, none⟩ (.bool d.s)).setCell ⟨w1.heap.size + 1, 1, none⟩ (.slice d.p d.n d.c) = W3 at *
    have hsz : w.heap.size < W3.heap.size := block_lt_of_cell hR3.c0
    have he := each_any K _ _ _ _ _ W3.drew hP3.drew hn 81 #[.pointer (some ⟨w1.heap.size + 1, 0, none⟩)] callParts (fun w z e => NV W3.heap.size w K z e) (· / Y) (fun _ _ _ _ h hb => h.below hb) (fun _ _ _ _ _ _ _ h ho => h.set2o ho)
      (fun w' z e hb hv => (parts1_any ((Bx.later (w := W3.drew) ⟨hD3.c0, hD3.c1, hD3.f0, hD3.f1⟩ hb)) (hd3.drew.below hb) hv hY0 (by omega)).mono fun r w'' ⟨u, a, b, c⟩ => ⟨u, a, (b.mono hb.size).fit (quo_lez hv.bd), fun _ => .inr (by obtain ⟨xs, k, -⟩ := b; exact k.fr), c⟩)
    obtain ⟨q0, q1, -, -⟩ := id hC3
    go_region_with (go_at_call 58; refine he.mono ?_; rintro r v3 ⟨q, fs, rfl, k1, k2, k3, k4, hb3⟩; have hb3' := undrew hb3; obtain ⟨m0, m1, -, -⟩ := hC3.later hb3'; obtain ⟨r0, r1, f0, f1⟩ := hR3.later hb3')
    all_goals
      have hfin := parts_end (W3 := W3) (.bool u.s) (.slice u.p u.n u.c) hzl hYe hY0 hnr hn1 k1 k2 k3 k4 (hN3.below hb3') sR hB3 hb3' hsz
      have HF := (show Hid _ from hfin)
      clear hfin he k1 k2 k3 k4 hN3 hP3 hD3 hC3 hR3 hd3
      go_wp2
      refine bodyPost_ret (v := .tuple #[.agg #[.bool u.s, .slice u.p u.n u.c], .slice q n n]) (by simp [results, Tryz.results51, go_sem, r0, r1]) rfl ?_
      exact ⟨u, q, n, fs, rfl, HF.out⟩
end Go.Proofs.YtakfimhpnpapdaaGreatDoor
