/-
  Plain: one polynomial is a multiple of another.
-/
import Derived.Test.YtdjjlghlcffflaaGreatDoorFxX3X6Y3Fb
import Derived.Test.YtdjjlghlcffflaaGreatDoorUwUyInU0TaTbTc
import Derived.Test.YtdjjlghlcffflaaGreatDoorEqFyHuVyFpCdDeByUzUr
import Derived.Test.YtdjjlghlcffflaaGreatDoorUsHaHbHcHeCwVkJoNcDpAaEpGiGjFwBwGkVpVzCcGlPyHfCaHwDgHxCbNgNsPqPrPsPtPuPvPwPxKa
import Derived.Deep.DeepFit
import Derived.Test.YtdjjlghlcffflaaGreatDoorReRxRfRhCqRrRwVaRoVbDaCxRb
import Derived.Test.YtdjjlghlcffflaaGreatDoorUxUtUv
import Derived.Test.YtdjjlghlcffflaaGreatDoorDjDwDrBmBqDuAkM0S1BrAlApAqNrNaHdNbFvOiDyEo
import Derived.Test.YtdjjlghlcffflaaGreatDoorFr
import Derived.Test.YtdjjlghlcffflaaGreatDoorAfBpBnBoAhAdBsDtAgWvUhAiRzVdRtDhVeRsVfVcAj
import Derived.Test.YtdjjlghlcffflaaGreatDoorCyViDsAeVuWxUpUqRm
namespace Go.Proofs.YtdjjlghlcffflaaGreatDoor
open Go.RowKit
set_option linter.unusedVariables false
set_option linter.unusedSimpArgs false
set_option maxHeartbeats 8000000
theorem dvd_gd {zs ys : List Int} {m k n : Nat} (hk : 1 ≤ k) (hk13 : k ≤ 13) (hm12 : m ≤ 12) (hn : n = m + k) (hzl : zs.length = n) (hl : ys.length = m + 1) (hy : gx ys m ≠ 0) (hz : gx zs (n - 1) ≠ 0) :
    (GD (dF zs ys m k) (dC zs ys m k) (gx ys m) m k (k + pb zs + Lib.bitLen n) → Dvd zs ys) ∧ (∀ q : List Int, (∀ t, gx zs t = gx (mulp q ys) t) → GD (dF zs ys m k) (dC zs ys m k) (gx ys m) m k (k + pb zs + Lib.bitLen n) ∧ tlen q = k ∧ ∀ s, s < k → dC zs ys m k s = gx q s) := by
  refine ⟨fun h => ?_, fun q hq => ?_⟩
  · have h1 := dv_of_gd (by omega) (by omega) h
    refine ⟨(List.range k).map (dC zs ys m k), fun t => ?_⟩
    have hg : ∀ i, i < k → gx ((List.range k).map (dC zs ys m k)) i = dC zs ys m k i := fun i hi => by rw [gx_mem _ _ (by simpa using hi)]; simp
    have h2 := ps_late ((List.range k).map (dC zs ys m k)) ys t k
    have h3 := ps_more ((List.range k).map (dC zs ys m k)) ys t k (fun i hi => gx_past _ k (by simp) i hi) (t + 1)
    rw [gx_mulp, ← h2, Nat.add_comm (t + 1), h3, ps_cvf, h1 t]
    exact cvf_congr ys t _ (fun i hi => (hg i hi).symm)
  · have htz : tlen zs = n := tlen_eq _ _ (fun j hj => gx_past zs n (by omega) j hj) (.inr hz)
    have hqk : tlen q = k := by
      rcases mult_top hl hy hq with h0 | ⟨a, h1, h2, -⟩
      · omega
      · omega
    have hQ : ∀ i, k ≤ i → gx q i = 0 := fun i hi => tlen_zero q i (by omega)
    have hc : ∀ t, gx zs t = cvf (gx q) ys k t := fun t => by
      have h2 := ps_late q ys t k
      have h3 := ps_more q ys t k hQ (t + 1)
      rw [hq t, gx_mulp, ← h2, Nat.add_comm (t + 1), h3, ps_cvf]
    exact ⟨gd_of_dv (by omega) hy hc (fun s hs => quo_bits hk hk13 hm12 hn (by omega) (by omega) hy hQ hc s hs), hqk, (dv_all (by omega) hy hc).2⟩
def UxP (xs ys : List Int) (M : Nat) (w : World) (r : Ending) (w' : World) : Prop :=
  ((∃ (p : Option Addr) (n : Nat) (es : List Ent) (qz : List Int), r = .returned (.tuple #[.slice p n n, .bool true]) ∧ PN w.heap.size w' M p n es qz ∧ n ≤ 13 ∧ 1 ≤ ys.length ∧ ∀ t, gx xs t = gx (mulp qz ys) t) ∨ (r = .returned (.tuple #[.slice none (0 : Nat) (0 : Nat), .bool false]) ∧ (ys.length = 0 ∨ ¬ Dvd xs ys))) ∧ Below w.heap.size w w'
theorem mulp_nil1 (ys : List Int) (t : Nat) : gx (mulp [] ys) t = 0 := by
  rw [gx_mulp]
  have e : ∀ i, ps [] ys i t = 0 := fun i => by
    induction i with
    | zero => rfl
    | succ i ih => rw [ps_none [] ys i t (by simp [gx]), ih]
  exact e _
set_option maxRecDepth 100000 in
theorem exact_empty (w : World) (p q : Option Addr) (m mc : Nat) (hm : m ≤ 1000) :
    Calls Tryz.prog 83 #[.slice p 0 0, .slice q m mc] w fun r w' => r = .returned (.tuple #[.slice none (0 : Nat) (0 : Nat), .bool true]) ∧ w = w' := by
  go_enter Tryz.func83, Tryz.ntmps83
  go_wp2
  go_ret2
  exact ⟨rfl, rfl⟩
set_option maxRecDepth 100000 in
theorem uExact_any {w : World} {K L : Nat} {p q : Option Addr} {n nc m mc : Nat} {es fs : List Ent} {zs ys : List Int} (h : PA w K p n nc es zs) (hb : PA w L q m mc fs ys) (hn : n ≤ 30) (hm : m ≤ 13) (hK : K ≤ 9) (hL : L ≤ 4) (hk13 : 1 ≤ tlen ys → tlen zs < tlen ys + 13) :
    Calls Tryz.prog 41 #[.slice p n nc, .slice q m mc] w (UxP (tr zs) (tr ys) 17 w) := by
  have htz := tlen_le zs
  have hty := tlen_le ys
  have hzl := h.zl
  have hyl := hb.zl
  go_enter Tryz.func41, Tryz.ntmps41
  go_wp2_with fail
  refine (read_any K p n nc es zs _ h (by omega) (by omega)).mono ?_
  rintro e w1 ⟨p1, n1, es1, rfl, h1, hb1⟩
  go_wp2_with fail
  refine (read_any L q m mc fs ys _ (hb.below hb1) (by omega) (by omega)).mono ?_
  rintro e w2 ⟨q1, m1, fs1, rfl, k1, hb2⟩
  have hn' := h1.zl
  have hm1 := k1.zl
  rw [length_tr] at hn' hm1
  have hn30 : n1 ≤ 30 := by omega
  have hm13 : m1 ≤ 13 := by omega
  have HX : Hid (PB w.heap.size w2 K p1 n1 es1 (tr zs) ∧ PB w1.heap.size w2 L q1 m1 fs1 (tr ys) ∧ Below w.heap.size w w2 ∧ (1 ≤ m1 → n1 < m1 + 13)) := ⟨h1.below hb2, k1, bnext' hb1 hb2, by rw [← hn', ← hm1]; exact hk13⟩
  clear h hb h1 k1 hb1 hb2 hn' hm1 hk13 htz hty hzl hyl
  have hcs : Hid (m1 = 0 ∨ (1 ≤ m1 ∧ n1 = 0) ∨ (1 ≤ n1 ∧ n1 < m1) ∨ (1 ≤ m1 ∧ m1 ≤ n1)) := by show _ ∨ _; omega
  rcases hcs.out with h0 | ⟨h0, h1⟩ | ⟨h0, h1⟩ | ⟨h0, h1⟩
  · subst h0
    clear hcs
    go_wp2
    go_ret2
    exact ⟨.inr ⟨rfl, .inl HX.out.2.1.zl⟩, HX.out.2.2.1⟩
  · subst h1
    have i1 : ¬ (m1 : Int) = 0 := by omega
    have i1' : ((m1 : Int) == 0) = false := by rw [beq_eq_false_iff_ne]; exact i1
    have he := exact_empty w2 p1 q1 m1 m1 (by omega)
    clear hcs
    go_wp2_with fail
    refine he.mono ?_
    rintro r w3 ⟨rfl, rfl⟩
    clear he
    go_wp2
    go_ret2
    refine ⟨.inl ⟨none, 0, [], [], rfl, pn_nil _ _ _, Nat.zero_le _, by rw [HX.out.2.1.zl]; exact h0, fun t => ?_⟩, HX.out.2.2.1⟩
    rw [mulp_nil1, List.eq_nil_of_length_eq_zero HX.out.1.zl]
    simp [gx]
  · have i1 : ¬ (m1 : Int) = 0 := by omega
    have i1' : ((m1 : Int) == 0) = false := by rw [beq_eq_false_iff_ne]; exact i1
    have i2 : (0 : Int) < (n1 : Int) := by omega
    have i3 : (n1 : Int) < (m1 : Int) := by omega
    clear hcs
    go_wp2
    go_ret2
    refine ⟨.inr ⟨rfl, .inr fun hd => ?_⟩, HX.out.2.2.1⟩
    obtain ⟨pp, hp⟩ := hd
    have hyt := tlen_top (tr ys) (by rw [HX.out.2.1.nrm]; omega)
    rw [HX.out.2.1.nrm] at hyt
    rcases mult_top (m := m1 - 1) (by rw [HX.out.2.1.zl]; omega) hyt hp with h2 | ⟨a, -, h2, -⟩
    · have := HX.out.1.nrm; omega
    · have := HX.out.1.nrm; omega
  · obtain ⟨mm, hmm⟩ : ∃ mm, m1 = mm + 1 := ⟨m1 - 1, by omega⟩
    obtain ⟨k, hk⟩ : ∃ k, n1 = mm + k := ⟨n1 - mm, by omega⟩
    have i1 : ¬ (m1 : Int) = 0 := by omega
    have i1' : ((m1 : Int) == 0) = false := by rw [beq_eq_false_iff_ne]; exact i1
    have i2 : (0 : Int) < (n1 : Int) := by omega
    have i3 : (m1 : Int) ≤ (n1 : Int) := by omega
    have hk1 : 1 ≤ k := by omega
    have hk13 : k ≤ 13 := by have := HX.out.2.2.2 h0; omega
    have hB := HX.out.2.1
    rw [hmm] at hB
    have hpa := HX.out.1.pa (by omega)
    have hqa := HX.out.2.1.pa (by omega)
    have hpb := pb_le hpa (by omega)
    have hbl := bitLen_le n1
    have hdq := dq_of (zs := tr zs) (ys := tr ys) (m := mm) (k := k) (A := 9) (L := 4) (Q := 12) (D := 16) (most := k + pb (tr zs) + Lib.bitLen n1) (by omega) (fun t => Int.lt_of_lt_of_le (hpa.gbd t) (pw_mono hK)) (fun t => Int.lt_of_lt_of_le (hqa.gbd t) (pw_mono hL)) (by omega) (by decide) (by decide)
    rw [← hk] at hdq
    have hxa := exact_any HX.out.1 hB hk hk1 (by omega) (by omega) (by omega) 17 (by decide) hdq
    have hyt : gx (tr ys) mm ≠ 0 := by
      have h9 := tlen_top (tr ys) (by rw [HX.out.2.1.nrm]; omega)
      rw [HX.out.2.1.nrm] at h9
      rwa [show m1 - 1 = mm by omega] at h9
    have hzt : gx (tr zs) (n1 - 1) ≠ 0 := by
      have h9 := tlen_top (tr zs) (by rw [HX.out.1.nrm]; omega)
      rwa [HX.out.1.nrm] at h9
    have HD := (show Hid _ from dvd_gd (zs := tr zs) (ys := tr ys) (m := mm) (k := k) (n := n1) hk1 hk13 (by omega) hk HX.out.1.zl (by rw [HX.out.2.1.zl]; exact hmm) hyt hzt)
    rw [← hmm] at hxa
    clear hcs hB hpa hqa hpb hbl hdq hyt hzt
    clear hk hmm
    go_wp2_with fail
    refine hxa.mono ?_
    rintro r w3 ⟨hr, hb3⟩
    clear hxa
    have HB3 : Hid (Below w.heap.size w w3) := bnext' HX.out.2.2.1 hb3
    rcases hr with ⟨u, us, rfl, r1, r2, r3, r4, hG⟩ | ⟨rfl, hG⟩
    · have HF : Hid (UxP (tr zs) (tr ys) 17 w (.returned (.tuple #[.slice u k k, .bool true])) w3) := by
        obtain ⟨qq, hqq⟩ := HD.out.1 hG
        obtain ⟨-, hq1, hq2⟩ := HD.out.2 qq hqq
        have hs := HX.out.2.2.1.size
        refine ⟨.inl ⟨u, k, us, tr qq, rfl, ⟨r1, by rw [length_tr]; exact hq1, by rw [tlen_tr]; exact hq1, r2, fun a ha => Nat.le_trans hs (r3 a ha), fun i hi => ?_⟩, hk13, by rw [HX.out.2.1.zl]; exact h0, fun t => ?_⟩, HB3.out⟩
        · rw [gx_tr, ← hq2 i hi]
          exact (r4 i hi).mono hs
        · rw [hqq t, gx_mulp, gx_mulp]
          exact ps_same (fun j => (gx_tr qq j).symm) (fun _ => rfl) t _
      clear r1 r2 r3 r4 hG HD hb3 HB3
      go_wp2
      go_ret2
      exact HF.out
    · have HF : Hid (UxP (tr zs) (tr ys) 17 w (.returned (.tuple #[.slice none (0 : Nat) (0 : Nat), .bool false])) w3) := ⟨.inr ⟨rfl, .inr fun hd => by
        obtain ⟨qq, hqq⟩ := hd
        exact hG (HD.out.2 qq hqq).1⟩, HB3.out⟩
      clear hG HD hb3 HB3
      go_wp2
      go_ret2
      exact HF.out
set_option maxRecDepth 100000 in
theorem parts_nil {w : World} {p : Option Addr} {es : List Ent} (K : Nat) (hK : K < 150) (hK1 : 1 ≤ K) (h : PA w K p 0 0 es []) :
    Calls Tryz.prog 70 #[.slice p (0 : Nat) (0 : Nat)] w (PtP [] K w) := by
  go_enter Tryz.func70, Tryz.ntmps70
  go_wp2_with fail
  have hal0 := bel_al (o := .cells #[.bool false, .slice none 0 0] 50) (Below.refl w.heap.size w)
  have hR0 : Bx (w.alloc (.cells #[.bool false, .slice none 0 0] 50)) w.heap.size (.bool false) (.slice none 0 0) := Bx.new _ _ _ rfl
  generalize w.alloc (.cells #[.bool false, .slice none 0 0] 50) = W0 at *
  refine (Content_any (h.below hal0) (by decide) hK hK1).mono ?_
  rintro r w1 ⟨u, rfl, hN, hb1⟩
  have sR : w.heap.size < W0.heap.size := block_lt_of_cell hR0.c0
  have hal := bel_al (o := .cells #[.bool u.s, .slice u.p u.n u.c] 50) (Below.refl w1.heap.size w1)
  have hC : Bx (w1.alloc (.cells #[.bool u.s, .slice u.p u.n u.c] 50)) w1.heap.size (.bool u.s) (.slice u.p u.n u.c) := Bx.new _ _ _ rfl
  obtain ⟨q0, q1, -, -⟩ := id hC
  obtain ⟨r0, r1, f0, f1⟩ := (hR0.later hb1).later hal
  have hN2 := hN.below hal
  have hB2 := bnext' (bnext' hal0 hb1) hal
  clear hN
  go_wp2_with fail
  generalize w1.alloc (.cells #[.bool u.s, .slice u.p u.n u.c] 50) = W2 at *
  refine bodyPost_ret (v := .tuple #[.agg #[.bool u.s, .slice u.p u.n u.c], .slice none 0 0]) (by simp [results, Tryz.results70, go_sem, r0, r1]) rfl ?_
  exact ⟨u, none, 0, [], rfl, (hN2.set2 (g := w.heap.size) (o := 0) sR _ _).mono (Nat.le_of_lt sR), ⟨rfl, rfl, rfl, PL.nil, nofun, fun j hj => absurd hj (by omega)⟩, bset2 hB2 (Nat.le_refl _) _ _⟩
set_option maxRecDepth 100000 in
theorem uPrim_any {w : World} {K : Nat} {p : Option Addr} {n nc : Nat} {es : List Ent} {zs : List Int} (h : PA w K p n nc es zs) (hn : n ≤ 100000) (hK : K < 150) (hK1 : 1 ≤ K) :
    Calls Tryz.prog 132 #[.slice p n nc] w (PnP (prml (tr zs)) K w) := by
  go_enter Tryz.func132, Tryz.ntmps132
  go_wp2_with fail
  refine (read_any K p n nc es zs w h (by omega) (by omega)).mono ?_
  rintro r w1 ⟨p1, n1, es1, rfl, h1, hb1⟩
  have hn1 := h1.zl
  rw [length_tr] at hn1
  have hle := tlen_le zs
  have hzl := h.zl
  have hpt : Calls Tryz.prog 70 #[.slice p1 n1 n1] w1 (PtP (tr zs) K w1) := by
    rcases Nat.eq_zero_or_pos n1 with h0 | h0
    · have e : tr zs = [] := List.eq_nil_of_length_eq_zero (by rw [length_tr]; omega)
      rw [e] at h1 ⊢
      subst h0
      exact parts_nil K hK hK1 (h1.pa (by omega))
    · exact parts_any h1 (by omega) h0 hK hK1
  have HB : Hid (Below w.heap.size w w1) := hb1
  clear h1 hn1 hle hzl h hb1
  go_wp2_with fail
  refine hpt.mono ?_
  rintro r w2 ⟨u, p2, n2, es2, rfl, -, h2, hb2⟩
  have hal := bel_al (o := .cells #[.bool u.s, .slice u.p u.n u.c] 50) (Below.refl w2.heap.size w2)
  have HR : Hid (PnP (prml (tr zs)) K w (.returned (.slice p2 n2 n2)) (w2.alloc (.cells #[.bool u.s, .slice u.p u.n u.c] 50))) := ⟨p2, n2, es2, rfl, (h2.below hal).mono HB.out.size, bnext' (bnext' HB.out hb2) hal⟩
  clear hpt h2
  go_wp2
  go_ret
  exact HR.out
theorem mulp_zero {p ys : List Int} {m : Nat} (hl : ys.length = m + 1) (hy : gx ys m ≠ 0) (h : ∀ t, gx (mulp p ys) t = 0) : tlen p = 0 := by
  rcases Nat.eq_zero_or_pos (tlen p) with h0 | h0
  · exact h0
  · exfalso
    obtain ⟨a, ha⟩ : ∃ a, tlen p = a + 1 := ⟨tlen p - 1, by omega⟩
    have h1 := mulp_topp (p := p) hl a ha
    rw [h] at h1
    have h2 := tlen_top p h0
    rw [ha, Nat.add_sub_cancel] at h2
    exact Int.mul_ne_zero h2 hy h1.symm
theorem quo_one {a b ys : List Int} {m : Nat} (hl : ys.length = m + 1) (hy : gx ys m ≠ 0) (ha : tlen a = a.length) (hb : tlen b = b.length) (h : ∀ t, gx (mulp a ys) t = gx (mulp b ys) t) : a = b := by
  have h0 := mulp_zero (p := pz (· - ·) a b) hl hy (fun t => by
    have h1 := mulp_lin1 (a := a) (b := b) (c := pz (· - ·) a b) (ys := ys) (fun j => by rw [gx_pz0 _ rfl]; omega) t
    have h2 := h t
    omega)
  have h1 : ∀ j, gx a j = gx b j := fun j => by
    have h2 := tlen_zero (pz (· - ·) a b) j (by omega)
    rw [gx_pz0 _ rfl] at h2
    omega
  have h3 : a.length = b.length := by rw [← ha, ← hb]; exact tlen_same h1
  exact gx_ext _ _ h3 (fun j _ => h1 j)
theorem tr_whole {zs : List Int} (h : tlen zs = zs.length) : tr zs = zs := by rw [tr, h, List.take_length]
theorem gcdl_scale_step (a : Int) (zs : List Int) : ∀ j, j ≤ zs.length → gcdl ((zs.map (a * ·)).take j) = a.natAbs * gcdl (zs.take j)
  | 0, _ => by simp [gcdl]
  | j + 1, hj => by
    rw [gcdl_take _ j (by simp; omega), gcdl_take _ j (by omega), gcdl_scale_step a zs j (by omega), gx_map0 (a * ·) (by simp)]
    show Nat.gcd _ _ = _ * Nat.gcd _ _
    rw [Int.natAbs_natCast, Int.natAbs_natCast, Int.natAbs_mul, Nat.gcd_mul_left]
theorem gcdl_scale (a : Int) (zs : List Int) : gcdl (zs.map (a * ·)) = a.natAbs * gcdl zs := by
  have h := gcdl_scale_step a zs zs.length (Nat.le_refl _)
  rwa [List.take_length, List.take_of_length_le (by simp)] at h
def prd (zs : List Int) : Int := if gx zs (zs.length - 1) < 0 then -(gcdl zs : Int) else gcdl zs
theorem prml_eq (zs : List Int) : prml zs = zs.map (· / prd zs) := rfl
theorem prd_scale (a : Int) (ha : a ≠ 0) (zs : List Int) (h : gx zs (zs.length - 1) ≠ 0) : prd (zs.map (a * ·)) = a * prd zs := by
  unfold prd
  rw [gcdl_scale, List.length_map, gx_map0 (a * ·) (by simp)]
  generalize gx zs (zs.length - 1) = l at *
  generalize gcdl zs = g
  have e : ((a.natAbs * g : Nat) : Int) = (a.natAbs : Int) * (g : Int) := by push_cast; rfl
  rw [e]
  rcases Int.lt_or_gt_of_ne ha with h1 | h1 <;> rcases Int.lt_or_gt_of_ne h with h2 | h2
  · rw [if_neg (by have := Int.mul_pos_of_neg_of_neg h1 h2; omega), if_pos h2]
    have : (a.natAbs : Int) = -a := by omega
    rw [this, Int.neg_mul, Int.mul_neg]
  · rw [if_pos (Int.mul_neg_of_neg_of_pos h1 h2), if_neg (by omega)]
    have : (a.natAbs : Int) = -a := by omega
    rw [this, Int.neg_mul, Int.neg_neg]
  · rw [if_pos (Int.mul_neg_of_pos_of_neg h1 h2), if_pos h2]
    have : (a.natAbs : Int) = a := by omega
    rw [this, Int.mul_neg]
  · rw [if_neg (by have := Int.mul_pos h1 h2; omega), if_neg (by omega)]
    have : (a.natAbs : Int) = a := by omega
    rw [this]
theorem prml_scale (a : Int) (ha : a ≠ 0) (zs : List Int) (h : tlen zs = zs.length) : prml (zs.map (a * ·)) = prml zs := by
  rcases Nat.eq_zero_or_pos zs.length with h0 | h0
  · have : zs = [] := List.eq_nil_of_length_eq_zero h0
    subst this
    rfl
  · have h1 := tlen_top zs (by omega)
    rw [h] at h1
    have hg := gcdl_ne h h0
    have hy : prd zs ≠ 0 := by unfold prd; split <;> omega
    rw [prml_eq, prml_eq, prd_scale a ha zs h1, List.map_map]
    refine List.map_congr_left fun z hz => ?_
    obtain ⟨i, hi, rfl⟩ := List.getElem_of_mem hz
    have hd : prd zs ∣ zs[i] := by
      have h2 := gcdl_dvd zs i
      rw [gx_mem zs i hi] at h2
      unfold prd
      split
      · exact Int.neg_dvd.2 h2
      · exact h2
    obtain ⟨k, hk⟩ := hd
    show a * zs[i] / (a * prd zs) = zs[i] / prd zs
    rw [hk, ← Int.mul_assoc, Int.mul_ediv_cancel_left _ (Int.mul_ne_zero ha hy), Int.mul_ediv_cancel_left _ hy]
end Go.Proofs.YtdjjlghlcffflaaGreatDoor
namespace Go.Proofs.YtdjjlghlcffflaaGreatDoor.Md
open Go.Proofs.YtdjjlghlcffflaaGreatDoor
open Go.Proofs.YtdjjlghlcffflaaGreatDoor.Cp (su su_add su_mul su_congr su_dvd)
set_option linter.unusedVariables false
set_option linter.unusedSimpArgs false
theorem same_deg {p : Int} (hp : Gs.Pri p) {G A B d : Nat → Int} {g : Nat} (hG : ¬ p ∣ G g) (hGz : ∀ t, g < t → G t = 0) (hA : Mp p G A) (hB : Mp p G B)
    (hd : ∀ I, Idl p I → ((I A ∧ I B) ↔ I d)) (h1 : p ∣ d g - 1) (hz : ∀ t, g < t → p ∣ d t) (t : Nat) : p ∣ G t - G g * d t := by
  have hp1 : ¬ p ∣ d g := fun h => by
    have h2 : p ∣ 1 := by
      have := Int.dvd_sub h h1
      rwa [show d g - (d g - 1) = 1 by omega] at this
    have h3 := Int.natAbs_dvd_natAbs.2 h2
    have h4 := Nat.le_of_dvd (by decide) h3
    have h5 := hp.1
    omega
  have h := (hd _ (mp_idl p G)).1 ⟨hA, hB⟩
  rcases mp_deg hp hG (fun t ht => by rw [hGz t ht]; exact Int.dvd_zero p) h with h2 | ⟨q, e, he, hq, h3, h4, h5⟩
  · exact absurd (h2 g) hp1
  · obtain rfl : e = 0 := by
      rcases Nat.eq_zero_or_pos e with h6 | h6
      · exact h6
      · exact absurd (hz (e + g) (by omega)) h4
    have hc : ∀ t, p ∣ d t - q 0 * G t := fun t => by
      have h6 := su_one (p := p) (f := fun k => q k * G (t - k)) 0 (t + 1) (by omega) fun i hi hne => Int.dvd_mul_of_dvd_left (hq i (by omega))
      have h7 : p ∣ cvf q G t - q 0 * G t := h6
      have h8 := Int.dvd_add (h3 t) h7
      rwa [show d t - cvf q G t + (cvf q G t - q 0 * G t) = d t - q 0 * G t by omega] at h8
    obtain ⟨x, hx⟩ := hc t
    obtain ⟨y, hy⟩ := hc g
    obtain ⟨z, hzz⟩ := h1
    have e1 : d t = q 0 * G t + p * x := by omega
    have e2 : q 0 * G g = 1 + p * (z - y) := by rw [Int.mul_sub]; omega
    refine ⟨-((z - y) * G t + G g * x), ?_⟩
    rw [e1, Int.mul_add, ← Int.mul_assoc, Int.mul_comm (G g) (q 0), e2, Int.add_mul, Int.one_mul, Int.mul_neg, Int.mul_add, Int.mul_assoc, Int.mul_left_comm (G g)]
    omega
structure GG (A B H a b : List Int) : Prop where
  hl : tlen H = H.length
  h0 : 0 < gx H (H.length - 1)
  hP : Gs.Prm H
  aP : Gs.Prm a
  bP : Gs.Prm b
  hA : ∀ t, gx A t = cvf (gx a) (gx H) t
  hB : ∀ t, gx B t = cvf (gx b) (gx H) t
  cop : Cop (gx a) (gx b)
theorem prm_of {e f : List Int} {s : Int} (h : Gs.Prm e) (hf : ∀ t, gx e t = s * gx f t) : Gs.Prm f := fun p hp => h p fun t => by
  rw [hf t]; exact Int.dvd_mul_of_dvd_right (hp t)
theorem cvf_ss {a H a' H' : List Int} {s : Int} (hs : s * s = 1) (ha : ∀ t, gx a' t = s * gx a t) (hH : ∀ t, gx H' t = s * gx H t) (t : Nat) : cvf (gx a') (gx H') t = cvf (gx a) (gx H) t := by
  unfold cvf
  refine su_congr _ fun i _ => ?_
  show gx a' i * gx H' (t - i) = _
  rw [ha, hH]
  have : s * gx a i * (s * gx H (t - i)) = (s * s) * (gx a i * gx H (t - i)) := by
    rw [Int.mul_assoc, Int.mul_assoc, Int.mul_left_comm (gx a i)]
  rw [this, hs, Int.one_mul]
theorem gcd_norm {A B : List Int} (hA : Gs.Prm A) (hB : Gs.Prm B) : ∃ H a b : List Int, GG A B H a b := by
  obtain ⟨G, a, b, h1, h2, h3⟩ := gcd_ex _ A B rfl (prm_pos hA) (prm_pos hB)
  obtain ⟨aP, GP⟩ := prm_left hA h1
  obtain ⟨bP, -⟩ := prm_left hB h2
  have hG := prm_pos GP
  have htop := tlen_top G hG
  obtain ⟨s, hs, hs1, hsp⟩ : ∃ s : Int, s * s = 1 ∧ (s = 1 ∨ s = -1) ∧ 0 < s * gx G (tlen G - 1) := by
    rcases Int.lt_or_gt_of_ne htop with h | h
    · exact ⟨-1, rfl, .inr rfl, by omega⟩
    · exact ⟨1, rfl, .inl rfl, by omega⟩
  have sm : ∀ (l : List Int) (t : Nat), gx (l.map (s * ·)) t = s * gx l t := fun l t => Gs.gx_map _ (Int.mul_zero s) l t
  have sb : ∀ (l : List Int) (t : Nat), gx l t = s * gx (l.map (s * ·)) t := fun l t => by rw [sm, ← Int.mul_assoc, hs, Int.one_mul]
  have hH : ∀ t, gx ((tr G).map (s * ·)) t = s * gx G t := fun t => by rw [sm, gx_tr]
  have hl : ((tr G).map (s * ·)).length = tlen G := by rw [List.length_map, length_tr]
  refine ⟨(tr G).map (s * ·), a.map (s * ·), b.map (s * ·), ?_, ?_, ?_, prm_of aP (sb a), prm_of bP (sb b), fun t => ?_, fun t => ?_, fun d N hN hI => h3 d N hN fun I H hS hd => ?_⟩
  · rw [hl]
    exact tlen_eq _ _ (fun j hj => by rw [hH, tlen_zero G j hj, Int.mul_zero]) (.inr (by rw [hH]; omega))
  · rw [hl, hH]; exact hsp
  · exact prm_of (s := s) GP fun t => by rw [hH, ← Int.mul_assoc, hs, Int.one_mul]
  · rw [cvf_ss hs (sm a) hH, h1, Sk.gx_mulp_cv, cvf_cv]
  · rw [cvf_ss hs (sm b) hH, h2, Sk.gx_mulp_cv, cvf_cv]
  · obtain ⟨i1, i2⟩ := hI I H hS hd
    exact ⟨H.eq (H.mul s i1) (sb a), H.eq (H.mul s i2) (sb b)⟩
theorem GG.uniq {A B H a b e : List Int} (h : GG A B H a b) {R : Int} (hR : R ≠ 0) (hbz : ∀ I, Idl 0 I → I (gx a) → I (gx b) → I (cst R)) (hP : Gs.Prm e) (hl : tlen e = e.length) (h0 : 0 < gx e (e.length - 1)) (dA : Dvd A e) (dB : Dvd B e) (hd : tlen H ≤ tlen e) : e = H := by
  have q1 : ∀ {F : List Int}, Dvd F e → QM (gx e) (gx F) := fun ⟨q, hq⟩ => ⟨1, gx q, q.length, by decide, fun t ht => gx_past q _ (Nat.le_refl _) t ht, fun t => by rw [Int.one_mul, hq t, Sk.gx_mulp_cv, cvf_cv]⟩
  have hQ := com_dvd h.hA h.hB hR hbz (q1 dA) (q1 dB)
  obtain ⟨s, hs, he⟩ := prim_same h.hP hP (prm_pos h.hP) hQ hd
  have hs1 : s = 1 ∨ s = -1 := by omega
  have ht : tlen H = tlen e := by
    refine tlen_eq _ _ (fun j hj => by rw [he, tlen_zero e j hj, Int.mul_zero]) (.inr ?_)
    rw [he, hl]
    rcases hs1 with rfl | rfl <;> omega
  have hle : H.length = e.length := by rw [← h.hl, ht, hl]
  have h1 := h.h0
  rw [hle, he] at h1
  have hs2 : s = 1 := by
    rcases hs1 with rfl | rfl
    · rfl
    · omega
  exact gx_ext _ _ hle.symm fun t _ => by rw [he, hs2, Int.one_mul]
theorem fac_bits {F a q : List Int} (h : ∀ t, gx F t = gx (mulp q a) t) (hF : 0 < tlen F) (hn : tlen F ≤ 13) (s : Nat) : zb (gx a s) ≤ tlen a + pb (tr F) + Lib.bitLen (tlen F) := by
  have hq0 : 0 < tlen q := by
    rcases Nat.eq_zero_or_pos (tlen q) with h0 | h0
    · exfalso
      have h1 := tlen_top F hF
      rw [h, Sk.gx_mulp_cv, Sk.cv_zl fun i => tlen_zero q i (by omega)] at h1
      exact h1 rfl
    · exact h0
  obtain ⟨m, hm⟩ : ∃ m, tlen q = m + 1 := ⟨tlen q - 1, by omega⟩
  have hl : (tr q).length = m + 1 := by rw [length_tr, hm]
  have hy : gx (tr q) m ≠ 0 := by
    have := tlen_top q hq0
    rwa [hm, Nat.add_sub_cancel, ← gx_tr q m] at this
  have h2 : ∀ t, gx F t = gx (mulp a (tr q)) t := fun t => by
    rw [h t, mulp_comm, Sk.gx_mulp_cv, Sk.gx_mulp_cv]
    exact Sk.cv_congr (fun _ => rfl) (fun i => (gx_tr q i).symm) t
  rcases mult_top hl hy h2 with h3 | ⟨c, h3, h4, -⟩
  · omega
  · have hQ : ∀ i, tlen a ≤ i → gx a i = 0 := fun i hi => tlen_zero a i hi
    rcases Nat.lt_or_ge s (tlen a) with hs | hs
    · refine quo_bits (zs := tr F) (ys := tr q) (m := m) (k := tlen a) (n := tlen F) (Q := gx a) (by omega) (by omega) (by omega) (by omega) (by rw [length_tr]; exact Nat.le_refl _) (by omega) hy hQ (fun t => ?_) s hs
      have e2 := ps_late a (tr q) t (tlen a)
      have e3 := ps_more a (tr q) t (tlen a) hQ (t + 1)
      rw [gx_tr, h2 t, gx_mulp, ← e2, Nat.add_comm (t + 1), e3, ps_cvf]
    · rw [hQ s hs, zb_zero]; exact Nat.zero_le _
theorem pb_all {zs : List Int} {K : Nat} (h : ∀ t, zb (gx zs t) ≤ K) : pb zs ≤ K := by
  have := pb_le_of zs K (fun j _ => h j) zs.length (Nat.le_refl _)
  rwa [List.take_length] at this
theorem cof_dvd {X Z A H a : List Int} {c : Int} (hX : ∀ t, c * gx A t = cvf (gx X) (gx Z) t) (hA : ∀ t, gx A t = cvf (gx a) (gx H) t) (aP : Gs.Prm a) (hZ : 0 < tlen Z) (hq : QM (gx Z) (gx H)) : Dvd X a := by
  obtain ⟨k, w, N, hk, hN, hw⟩ := hq
  have hw' : ∀ t, k * gx H t = Sk.cv (gx (lst N w)) (gx Z) t := fun t => by
    rw [hw t, cvf_cv]
    exact Sk.cv_congr (fun i => (gx_lst hN i).symm) (fun _ => rfl) t
  generalize lst N w = w' at *
  obtain ⟨P, hP⟩ : ∃ P, P = mulp a w' := ⟨_, rfl⟩
  have gP : ∀ t, gx P t = Sk.cv (gx a) (gx w') t := fun t => by rw [hP, Sk.gx_mulp_cv]
  have key : ∀ t, k * Sk.cv (gx X) (gx Z) t = c * Sk.cv (gx P) (gx Z) t := fun t => by
    have e1 : Sk.cv (gx P) (gx Z) t = Sk.cv (gx a) (Sk.cv (gx w') (gx Z)) t := by
      rw [Sk.cv_assoc]
      exact Sk.cv_congr gP (fun _ => rfl) t
    have e2 : Sk.cv (gx a) (Sk.cv (gx w') (gx Z)) t = k * Sk.cv (gx a) (gx H) t := by
      rw [Sk.cv_congr (a := gx a) (b := gx a) (h := fun i => k * gx H i + 0 * gx H i) (fun _ => rfl) (fun i => by rw [← hw' i]; omega), Sk.cv_linr]
      omega
    rw [e1, e2, ← cvf_cv, ← hX t, hA t, cvf_cv, Int.mul_left_comm]
  obtain ⟨D, hD⟩ : ∃ D : List Int, ∀ t, gx D t = k * gx X t + (-c) * gx P t := ⟨Sk.lof (X.length + P.length) fun t => k * gx X t + (-c) * gx P t, Sk.gx_lof _ _ fun t ht => by
    rw [gx_past X _ (Nat.le_refl _) t (by omega), gx_past P _ (Nat.le_refl _) t (by omega)]; omega⟩
  obtain ⟨m, hm⟩ : ∃ m, tlen Z = m + 1 := ⟨tlen Z - 1, by omega⟩
  have hz : ∀ t, gx (mulp D (tr Z)) t = 0 := fun t => by
    rw [Sk.gx_mulp_cv, Sk.cv_congr hD (fun i => gx_tr Z i), Sk.cv_linl, key t, Int.neg_mul]
    omega
  have htop : gx (tr Z) m ≠ 0 := by
    have := tlen_top Z hZ
    rwa [hm, Nat.add_sub_cancel, ← gx_tr Z m] at this
  have hD0 := mulp_zero (by rw [length_tr, hm]) htop hz
  have hk2 : ∀ t, k * gx X t = c * gx P t := fun t => by
    have h1 := hD t
    rw [tlen_zero D t (by omega), Int.neg_mul] at h1
    omega
  refine dvd_of_qm (d := gx a) (k := 1) aP (fun t => (Int.one_mul _).symm) ⟨k, fun t => c * gx w' t, w'.length, hk, fun t ht => by show c * gx w' t = 0; rw [gx_past w' _ (Nat.le_refl _) t ht, Int.mul_zero], fun t => ?_⟩
  rw [hk2 t, cvf_mul, hP, mulp_comm, Sk.gx_mulp_cv, cvf_cv]
theorem cof_bits {X a : List Int} (h : Dvd X a) (hX : 0 < tlen X) (h5 : tlen X ≤ 5) (hb : ∀ t, zb (gx X t) ≤ 64) : (∀ t, (gx a t).natAbs ≤ 2 ^ 72) ∧ tlen a ≤ 5 := by
  obtain ⟨q, hq⟩ := h
  have hle : tlen a ≤ tlen X := by
    rcases Nat.eq_zero_or_pos (tlen a) with h0 | h0
    · omega
    · obtain ⟨m, hm⟩ : ∃ m, tlen a = m + 1 := ⟨tlen a - 1, by omega⟩
      have htop : gx (tr a) m ≠ 0 := by
        have := tlen_top a h0
        rwa [hm, Nat.add_sub_cancel, ← gx_tr a m] at this
      have h2 : ∀ t, gx X t = gx (mulp q (tr a)) t := fun t => by
        rw [hq t, Sk.gx_mulp_cv, Sk.gx_mulp_cv]
        exact Sk.cv_congr (fun _ => rfl) (fun i => (gx_tr a i).symm) t
      rcases mult_top (by rw [length_tr, hm]) htop h2 with h3 | ⟨c, h3, h4, -⟩
      · omega
      · omega
  refine ⟨fun t => ?_, by omega⟩
  have h1 := fac_bits hq hX (by omega) t
  have h2 : pb (tr X) ≤ 64 := pb_all fun t => by rw [gx_tr]; exact hb t
  have h3 : ∀ n, n ≤ 5 → Lib.bitLen n ≤ 3 := by decide
  have h4 := h3 _ h5
  have h5 := (zb_ib (gx a t)).2.1
  have h6 : (2 : Int) ^ zb (gx a t) ≤ 2 ^ 72 := p2_mono (by omega)
  have h7 : ((2 : Int) ^ 72) = ((2 ^ 72 : Nat) : Int) := rfl
  omega
def rb : Nat := 2116
theorem bd_cof : ∀ m, m ≤ 4 → Bd 4 4 m 72 72 ≤ rb := by decide +kernel
theorem bez_cof {a b : List Int} (ha : ∀ t, (gx a t).natAbs ≤ 2 ^ 72) (hb : ∀ t, (gx b t).natAbs ≤ 2 ^ 72) (ta : tlen a ≤ 5) (tb : tlen b ≤ 5) (b0 : 0 < tlen b) (hc : Cop (gx a) (gx b)) : ∃ R : Int, R ≠ 0 ∧ R.natAbs ≤ 2 ^ rb ∧ ∀ I, Idl 0 I → I (gx a) → I (gx b) → I (cst R) := by
  obtain ⟨R, h1, h2, h3⟩ := bez 4 4 (tlen b - 1) 72 72 (gx a) (gx b) (by omega) (fun t ht => tlen_zero a t (by omega)) (fun t ht => tlen_zero b t (by omega)) (tlen_top b b0) ha hb hc
  exact ⟨R, h1, Nat.le_trans h2 (Nat.pow_le_pow_right (by decide) (bd_cof _ (by omega))), h3⟩
end Go.Proofs.YtdjjlghlcffflaaGreatDoor.Md
