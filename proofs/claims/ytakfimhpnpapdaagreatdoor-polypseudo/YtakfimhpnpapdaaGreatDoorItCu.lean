/-
  upoly.Pseudo.
-/
import Derived.Test.YtakfimhpnpapdaaGreatDoorIr
import Derived.Deep.DeepFit
import Derived.Test.YtakfimhpnpapdaaGreatDoorUbUcUdOwRa
namespace Go.Proofs.YtakfimhpnpapdaaGreatDoor
open Go.RowKit
set_option linter.unusedVariables false
set_option linter.unusedSimpArgs false

theorem PN.wider {B : Nat} {w : World} {K L : Nat} {p : Option Addr} {n : Nat} {es : List Ent} {zs : List Int} (h : PN B w K p n es zs) (hL : K ≤ L) : PN B w L p n es zs :=
  ⟨h.el, h.zl, h.nrm, h.pl, h.fr, fun j hj => by obtain ⟨xs, a, b, c⟩ := h.ev j hj; exact ⟨xs, a, b, by omega⟩⟩
/-- What Pseudo must answer of two that are normal. -/
structure PsR (xs ys qz rz : List Int) : Prop where
  eq : tr (xs.map (gx ys (ys.length - 1) ^ (xs.length + 1 - ys.length) * ·)) = tr (pz (· + ·) (mulp qz ys) rz)
  lt : rz.length < ys.length
  qn : qz.length ≤ xs.length
theorem psr_low {xs ys : List Int} (h : xs.length < ys.length) : PsR xs ys [] xs := by
  refine ⟨tr_same fun t => ?_, h, Nat.zero_le _⟩
  rw [show xs.length + 1 - ys.length = 0 by omega, Int.pow_zero, gx_map0 (1 * ·) (by simp), gx_pz0 _ rfl, gx_mulp, Int.one_mul]
  have e : ∀ i, ps [] ys i t = 0 := fun i => by
    induction i with
    | zero => rfl
    | succ i ih => rw [ps_none [] ys i t (by simp [gx]), ih]
  rw [e, Int.zero_add]
theorem psr_some {xs ys : List Int} {m K0 : Nat} (hy : ys.length = m + 1) (hx : xs.length = K0 + m + 1) : PsR xs ys (pqz (gx ys m) ys m K0 (gx xs)) (tr (prz (gx ys m) ys m K0 (gx xs))) := by
  refine ⟨?_, ?_, ?_⟩
  · rw [hy, hx, show K0 + m + 1 + 1 - (m + 1) = K0 + 1 by omega, Nat.add_sub_cancel]
    refine pseudo_law (m := m) (fun i => ?_) (fun t => ?_)
    · split
      · rename_i h; exact gx_pqz _ _ _ _ _ i h
      · rename_i h; exact gx_past _ (K0 + 1) (by rw [length_pqz]; exact Nat.le_refl _) i (by omega)
    · rw [gx_tr]
      rcases Nat.lt_or_ge t m with h | h
      · exact gx_prz _ _ _ _ _ t h
      · rw [gx_past _ m (by rw [length_prz]; exact Nat.le_refl _) t h, rs_zero rfl (by omega) (fun t ht => gx_past xs (K0 + m + 1) (by omega) t ht) (K0 + 1) (Nat.le_refl _) t (by omega)]
  · rw [length_tr]
    have := tlen_le (prz (gx ys m) ys m K0 (gx xs))
    rw [length_prz] at this
    omega
  · rw [length_pqz]
    omega
/-- What Pseudo answers where it divides. -/
def PuP (xs ys : List Int) (M : Nat) (w : World) (r : Ending) (w' : World) : Prop :=
  ∃ (q : Option Addr) (qn cap : Nat) (es : List Ent) (p : Option Addr) (n : Nat) (fs : List Ent) (qz rz : List Int), r = .returned (.tuple #[.slice q qn cap, .slice p n n, .int .i64 0]) ∧ qn ≤ cap ∧ cap ≤ maxLen ∧ (q = none → cap = 0) ∧ PN w.heap.size w' M q qn es qz ∧ PN w.heap.size w' M p n fs rz ∧ PsR xs ys qz rz ∧ Below w.heap.size w w'
set_option maxHeartbeats 2000000 in
set_option maxRecDepth 100000 in
theorem uPseudo_zero {w : World} {K : Nat} {p q : Option Addr} {n nc m mc : Nat} {es fs : List Ent} {zs ys : List Int} (h : PA w K p n nc es zs) (k : PA w K q m mc fs ys) (hn : n ≤ 20) (hm : m ≤ 20) (hK : K ≤ 10) (h0 : tlen ys = 0) :
    Calls Tryz.prog 14 #[.slice p n nc, .slice q m mc] w fun r w' => r = .returned (.tuple #[.slice none 0 0, .slice none 0 0, .int .i64 2]) ∧ Below w.heap.size w w' := by
  have HX : Hid (PA w K p n nc es zs ∧ PA w K q m mc fs ys ∧ tlen ys = 0) := ⟨h, k, h0⟩
  clear h k h0
  go_enter Tryz.func14, Tryz.ntmps14
  go_wp2_with fail
  refine (read_any K p n nc es zs _ HX.out.1 (by omega) (by omega)).mono ?_
  rintro r w1 ⟨p1, n1, es1, rfl, h1, hb1⟩
  go_wp2_with fail
  refine (read_any K q m mc fs ys _ (HX.out.2.1.below hb1) (by omega) (by omega)).mono ?_
  rintro r w2 ⟨q1, m1, fs1, rfl, k1, hb2⟩
  have hm' := k1.zl
  rw [length_tr, HX.out.2.2] at hm'
  subst hm'
  have HB : Hid (Below w.heap.size w w2) := bnext' hb1 hb2
  clear h1 k1 hb1 hb2
  go_wp2
  exact bodyPost_ret (v := .tuple #[.slice none 0 0, .slice none 0 0, .int .i64 2]) (by simp [results, Tryz.results14, go_sem]) rfl ⟨rfl, HB.out⟩
theorem pb_top {B : Nat} {w : World} {K : Nat} {p : Option Addr} {n : Nat} {es : List Ent} {zs : List Int} (h : PB B w K p n es zs) (h0 : 1 ≤ n) : gx zs (n - 1) ≠ 0 := by
  have h1 := tlen_top zs (by rw [h.nrm]; exact h0)
  rwa [h.nrm] at h1
set_option maxHeartbeats 2000000 in
set_option maxRecDepth 100000 in
/-- upoly.Pseudo. -/
theorem uPseudo_any {w : World} {K M : Nat} {p q : Option Addr} {n nc m mc : Nat} {es fs : List Ent} {zs ys : List Int} (h : PA w K p n nc es zs) (k : PA w K q m mc fs ys) (hn : n ≤ 20) (hm : m ≤ 20) (hK1 : 1 ≤ K) (hK : K ≤ 10) (h0 : 1 ≤ tlen ys) (hM : K + n * (K + 1) ≤ M) (hM8 : M < 80) :
    Calls Tryz.prog 14 #[.slice p n nc, .slice q m mc] w (PuP (tr zs) (tr ys) M w) := by
  have htz := tlen_le zs
  have hzl := h.zl
  have HX : Hid (PA w K p n nc es zs ∧ PA w K q m mc fs ys ∧ 1 ≤ tlen ys ∧ tlen zs ≤ n ∧ K + n * (K + 1) ≤ M) := ⟨h, k, h0, by omega, hM⟩
  clear h k h0 htz hzl hM
  go_enter Tryz.func14, Tryz.ntmps14
  go_wp2_with fail
  refine (read_any K p n nc es zs _ HX.out.1 (by omega) (by omega)).mono ?_
  rintro r w1 ⟨p1, n1, es1, rfl, h1, hb1⟩
  go_wp2_with fail
  refine (read_any K q m mc fs ys _ (HX.out.2.1.below hb1) (by omega) (by omega)).mono ?_
  rintro r w2 ⟨q1, m1, fs1, rfl, k1, hb2⟩
  have hn' := h1.zl
  have hm' := k1.zl
  rw [length_tr] at hn' hm'
  have hn1 : n1 ≤ 20 := by have := HX.out.2.2.2.1; omega
  have hm1 : 1 ≤ m1 := by have := HX.out.2.2.1; omega
  have HY : Hid (PB w.heap.size w2 K p1 n1 es1 (tr zs) ∧ PB w1.heap.size w2 K q1 m1 fs1 (tr ys) ∧ Below w.heap.size w w2 ∧ n1 ≤ n) := ⟨h1.below hb2, k1, bnext' hb1 hb2, by have := HX.out.2.2.2.1; omega⟩
  have i0 : ((m1 : Int) == 0) = false := by rw [beq_eq_false_iff_ne]; omega
  have i1 : ¬ (m1 : Int) = 0 := by omega
  clear h1 k1 hb1 hb2 hn' hm'
  rcases Nat.lt_or_ge n1 m1 with hlt | hge
  · have i2 : (n1 : Int) < (m1 : Int) := by omega
    have hnm := uNorm_any K p1 n1 n1 es1 (tr zs) w2 (HY.out.1.pa (by omega)) (by omega) (by omega)
    go_wp2_with fail
    refine hnm.mono ?_
    rintro r w3 ⟨p3, n3, es3, rfl, h3, hb3⟩
    clear hnm
    have htt : tr (tr zs) = tr zs := by rw [tr, tlen_tr, ← length_tr, List.take_length]
    rw [htt] at h3
    have HR : Hid (PuP (tr zs) (tr ys) M w (.returned (.tuple #[.slice none (0 : Nat) (0 : Nat), .slice p3 n3 n3, .int .i64 0])) w3) := ⟨none, 0, 0, [], p3, n3, es3, [], tr zs, rfl, Nat.le_refl _, Nat.zero_le _, fun _ => rfl, pn_nil _ _ _, (h3.mono HY.out.2.2.1.size).wider (by have := HX.out.2.2.2.2; omega), psr_low (by rw [HY.out.1.zl, HY.out.2.1.zl]; exact hlt), bnext' HY.out.2.2.1 hb3⟩
    clear h3 hb3 htt
    go_wp2
    exact bodyPost_ret (v := .tuple #[.slice none 0 0, .slice p3 n3 n3, .int .i64 0]) (by simp [results, Tryz.results14, go_sem]) rfl HR.out
  · have i2 : ¬ (n1 : Int) < (m1 : Int) := by omega
    obtain ⟨m2, hm2⟩ : ∃ m2, m1 = m2 + 1 := ⟨m1 - 1, by omega⟩
    obtain ⟨K0, hK0⟩ : ∃ K0, n1 = K0 + m2 + 1 := ⟨n1 - m1, by omega⟩
    have hMk : K + (K0 + 1) * (K + 1) ≤ M := by
      have h5 := HX.out.2.2.2.2
      have h6 := Nat.mul_le_mul_right (K + 1) (show K0 + 1 ≤ n by have := HY.out.2.2.2; omega)
      omega
    have hz0 := pb_top HY.out.1 (by omega)
    have hy0 := pb_top HY.out.2.1 (by omega)
    rw [show n1 - 1 = K0 + m2 by omega] at hz0
    rw [show m1 - 1 = m2 by omega] at hy0
    have hpq := pseudo_q (HY.out.1.pa (by omega)) (HY.out.2.1.pa (by have := HX.out.2.1.zl; omega)) hm2 hK0 hn1 hK1 (by omega) hz0 hy0
    have HM : Hid (K + (K0 + 1) * (K + 1) ≤ M ∧ m1 = m2 + 1 ∧ n1 = K0 + m2 + 1) := ⟨hMk, hm2, hK0⟩
    clear hMk hm2 hK0 hz0 hy0
    go_wp2_with fail
    refine hpq.mono ?_
    rintro r w3 ⟨q3, cap, es3, p3, n3, fs3, rfl, hc1, hc2, hq3, hp3, hb3⟩
    clear hpq
    have HR : Hid (PuP (tr zs) (tr ys) M w (.returned (.tuple #[.slice q3 (K0 + 1 : Nat) cap, .slice p3 n3 n3, .int .i64 0])) w3) := by
      have hs := HY.out.2.2.1.size
      have hmk := HM.out.1
      refine ⟨q3, K0 + 1, cap, es3, p3, n3, fs3, _, _, rfl, hc1, hc2, fun e => ?_, (hq3.mono hs).wider hmk, (hp3.mono hs).wider hmk, psr_some (by rw [HY.out.2.1.zl]; exact HM.out.2.1) (by rw [HY.out.1.zl]; exact HM.out.2.2), bnext' HY.out.2.2.1 hb3⟩
      obtain ⟨b, o, hq, -⟩ := hq3.pl (by rw [hq3.el]; omega)
      rw [hq] at e
      cases e
    clear hq3 hp3 hb3 HM
    generalize K0 + 1 = R at *
    go_wp2
    exact bodyPost_ret (v := .tuple #[.slice q3 R cap, .slice p3 n3 n3, .int .i64 0]) (by simp [results, Tryz.results14, go_sem]) rfl HR.out
end Go.Proofs.YtakfimhpnpapdaaGreatDoor
/-
  ashlarlaw1.Cut: the lowest 24 limbs, in memory of their own.
-/
namespace Go.Proofs.YtakfimhpnpapdaaGreatDoor
open Go.RowKit
set_option linter.unusedVariables false
set_option linter.unusedSimpArgs false

/-- What Cut answers. -/
def CutPost (s : Bool) (xs : List Int) (w : World) (e : Ending) (w' : World) : Prop :=
  ∃ p' n' nc', e = .returned (.agg #[.bool s, .slice p' n' nc']) ∧ AI w' p' n' nc' (xs.take 24) ∧ n' ≤ 24 ∧ From w.heap.size p' ∧ Below w.heap.size w w'

set_option maxHeartbeats 1000000 in
set_option maxRecDepth 100000 in
theorem Cut_some (s : Bool) (b off n nc k : Nat) (xs : List Int) (w : World) (hl : xs.length = n) (hnc : n ≤ nc) (hb : nc ≤ maxLen) (hX : Rd w (some ⟨b, off, none⟩) .u32 xs) (hU : U32 xs) (hk : k = min n 24) (hk0 : 0 < k) :
    Calls Tryz.prog 40 #[.agg #[.bool s, .slice (some ⟨b, off, none⟩) n nc]] w (CutPost s xs w) := by
  have hb' := hb
  unfold maxLen at hb'
  obtain ⟨i0, hi, hzz⟩ := Option.map_eq_some_iff.1 info_u32
  simp only [Prod.mk.injEq] at hzz
  obtain ⟨hz0, hz1, hz2⟩ := hzz
  have HI : Hid (Tryz.prog.info? 26 = some i0 ∧ i0.zero = some (.int .u32 0) ∧ i0.size = 1 ∧ i0.bytes = 4) := ⟨hi, hz0, hz1, hz2⟩
  clear hi hz0 hz1 hz2
  have HX : Hid (k = min n 24) := hk
  clear hk
  by_cases hn : 24 < n
  · have hn' : 24 < (n : Int) := by omega
    have h24 : (24 : Int) ≤ (nc : Int) := by omega
    have h24n : 24 ≤ nc := by omega
    have h24m : (24 : Int) ≤ (n : Int) := by omega
    obtain rfl : k = 24 := by have := HX.out; omega
    go_enter Tryz.func40, Tryz.ntmps40
    go_wp2
    have hb1 : Bx ((w.alloc (.cells #[.bool s, .slice (some ⟨b, off, none⟩) n nc] 29)).alloc (.cells #[.bool false, .slice none 0 0] 29)) w.heap.size (.bool s) (.slice (some ⟨b, off, none⟩) n nc) := (Bx.new _ _ _ rfl).alloc _
    have hb2 : Bx ((w.alloc (.cells #[.bool s, .slice (some ⟨b, off, none⟩) n nc] 29)).alloc (.cells #[.bool false, .slice none 0 0] 29)) (w.heap.size + 1) (.bool false) (.slice none 0 0) := Bx.new _ _ _ (World.size_alloc ..).symm
    have hbw : Below w.heap.size w ((w.alloc (.cells #[.bool s, .slice (some ⟨b, off, none⟩) n nc] 29)).alloc (.cells #[.bool false, .slice none 0 0] 29)) := ((Below.refl _ _).alloc (Nat.le_refl _) _).alloc (by simp) _
    have hsz : ((w.alloc (.cells #[.bool s, .slice (some ⟨b, off, none⟩) n nc] 29)).alloc (.cells #[.bool false, .slice none 0 0] 29)).heap.size = w.heap.size + 1 + 1 := by simp
    generalize ((w.alloc (.cells #[.bool s, .slice (some ⟨b, off, none⟩) n nc] 29)).alloc (.cells #[.bool false, .slice none 0 0] 29)) = W at *
    have HS : Hid (W.heap.size = w.heap.size + 1 + 1) := hsz
    clear hsz
    have k0 := hb1.c0
    have k1 := hb1.c1
    obtain ⟨hi, hz0, hz1, hz2⟩ := HI.out
    have hsrc : ∀ j v, ((xs.take 24).map (Value.int .u32))[j]? = some v → W.drew.cell? ((⟨b, off, none⟩ : Addr).add j) = some v := by
      obtain ⟨b', off', hp, hc⟩ := ((hX.below hbw).take 24).drew (by simp; omega)
      cases hp
      exact Rd.src hc
    go_region_held3 (fun w' => w'.cell? ⟨w.heap.size, 0, none⟩ = some (.bool s) ∧ w'.cell? ⟨w.heap.size, 1, none⟩ = some (.slice (some ⟨b, off, none⟩) n nc)) (first | (simp [go_sem, *]; done) | exact keepc2 (by assumption) (by assumption))
      (first
        | (refine step_append_lies _ rfl _ _ 27 rfl w.heap.size 26 i0 (.int .u32 0) 1 4 Tryz.underlying27 hi hz0 hz1 hz2 rfl (by decide) (.slice none 0 0) 0 [] rfl (World.ownsRow_nil _ _ _ _) ⟨b, off, none⟩ 24 nc ((xs.take 24).map (Value.int .u32)) rfl (by simp; omega) ?_ (oneCell_ca _ _) (by decide) (by unfold maxLen; decide) (by decide) hbw.size _ rfl ?_; exact hsrc; intro g cap w3 hown3 hgrow3 hat3 hlt3; have hb3 := below_of_grown (w := W.drew) hgrow3; obtain ⟨c0, c1, f0, f1⟩ := resbox (undrew hb3) hb2.c0 hb2.c1 hb2.f0 hb2.f1))
    go_wp2
    obtain rfl : g = W.heap.size := by rcases hat3 with h | h; cases h; exact h
    have hr3 : Rd w3 (some ⟨W.heap.size, 0, none⟩) .u32 (xs.take 24) := rd_owns (by simpa using hown3)
    have hs3 := HS.out
    have hcp : 24 ≤ cap ∧ cap ≤ maxLen := by
      rcases hown3.2 with ⟨h, _⟩ | ⟨g', cap', cur, h, _, _, h4, h5, _⟩
      · cases h
      · cases h; exact ⟨by omega, h5⟩
    refine bodyPost_ret (v := .agg #[.bool s, .slice (some ⟨W.heap.size, 0, none⟩) 24 cap]) (by simp [results, Tryz.results40, go_sem, c0, c1]) rfl ?_
    refine ⟨_, 24, cap, rfl, ⟨by simp; omega, hcp.1, hcp.2, by omega, ?_, u32_take hU 24⟩, by omega, from_new hbw.size, ?_⟩
    · skip
      exact (hr3.set_other _ _ (fun a ha => by cases ha; simp; omega)).set_other _ _ (fun a ha => by cases ha; simp; omega)
    · exact (((hbw.trans ((undrew hb3).mono hbw.size)).setCell (by simp) _).setCell (by simp) _)
  · have hn' : ¬ 24 < (n : Int) := by omega
    obtain rfl : k = n := by have := HX.out; omega
    have hkc : (k : Int) ≤ (nc : Int) := by omega
    have hk24 : k ≤ 24 := by omega
    go_enter Tryz.func40, Tryz.ntmps40
    go_wp2
    have hb1 : Bx ((w.alloc (.cells #[.bool s, .slice (some ⟨b, off, none⟩) k nc] 29)).alloc (.cells #[.bool false, .slice none 0 0] 29)) w.heap.size (.bool s) (.slice (some ⟨b, off, none⟩) k nc) := (Bx.new _ _ _ rfl).alloc _
    have hb2 : Bx ((w.alloc (.cells #[.bool s, .slice (some ⟨b, off, none⟩) k nc] 29)).alloc (.cells #[.bool false, .slice none 0 0] 29)) (w.heap.size + 1) (.bool false) (.slice none 0 0) := Bx.new _ _ _ (World.size_alloc ..).symm
    have hbw : Below w.heap.size w ((w.alloc (.cells #[.bool s, .slice (some ⟨b, off, none⟩) k nc] 29)).alloc (.cells #[.bool false, .slice none 0 0] 29)) := ((Below.refl _ _).alloc (Nat.le_refl _) _).alloc (by simp) _
    have hsz : ((w.alloc (.cells #[.bool s, .slice (some ⟨b, off, none⟩) k nc] 29)).alloc (.cells #[.bool false, .slice none 0 0] 29)).heap.size = w.heap.size + 1 + 1 := by simp
    generalize ((w.alloc (.cells #[.bool s, .slice (some ⟨b, off, none⟩) k nc] 29)).alloc (.cells #[.bool false, .slice none 0 0] 29)) = W at *
    have HS : Hid (W.heap.size = w.heap.size + 1 + 1) := hsz
    clear hsz
    have k0 := hb1.c0
    have k1 := hb1.c1
    obtain ⟨hi, hz0, hz1, hz2⟩ := HI.out
    have hsrc : ∀ j v, ((xs.take k).map (Value.int .u32))[j]? = some v → W.drew.cell? ((⟨b, off, none⟩ : Addr).add j) = some v := by
      obtain ⟨b', off', hp, hc⟩ := ((hX.below hbw).take k).drew (by simp; omega)
      cases hp
      exact Rd.src hc
    go_region_held3 (fun w' => w'.cell? ⟨w.heap.size, 0, none⟩ = some (.bool s) ∧ w'.cell? ⟨w.heap.size, 1, none⟩ = some (.slice (some ⟨b, off, none⟩) k nc)) (first | (simp [go_sem, *]; done) | exact keepc2 (by assumption) (by assumption))
      (first
        | (refine step_append_lies _ rfl _ _ 27 rfl w.heap.size 26 i0 (.int .u32 0) 1 4 Tryz.underlying27 hi hz0 hz1 hz2 rfl (by decide) (.slice none 0 0) 0 [] rfl (World.ownsRow_nil _ _ _ _) ⟨b, off, none⟩ k nc ((xs.take k).map (Value.int .u32)) rfl (by simp; omega) ?_ (oneCell_ca _ _) hk0 (by unfold maxLen; omega) (by omega) hbw.size _ rfl ?_; exact hsrc; intro g cap w3 hown3 hgrow3 hat3 hlt3; have hb3 := below_of_grown (w := W.drew) hgrow3; obtain ⟨c0, c1, f0, f1⟩ := resbox (undrew hb3) hb2.c0 hb2.c1 hb2.f0 hb2.f1))
    go_wp2
    obtain rfl : g = W.heap.size := by rcases hat3 with h | h; cases h; exact h
    have hr3 : Rd w3 (some ⟨W.heap.size, 0, none⟩) .u32 (xs.take k) := rd_owns (by simpa using hown3)
    have hs3 := HS.out
    have hcp : k ≤ cap ∧ cap ≤ maxLen := by
      rcases hown3.2 with ⟨h, _⟩ | ⟨g', cap', cur, h, _, _, h4, h5, _⟩
      · cases h
      · cases h; exact ⟨by omega, h5⟩
    refine bodyPost_ret (v := .agg #[.bool s, .slice (some ⟨W.heap.size, 0, none⟩) k cap]) (by simp [results, Tryz.results40, go_sem, c0, c1]) rfl ?_
    refine ⟨_, k, cap, rfl, ⟨by simp; omega, hcp.1, hcp.2, by omega, ?_, u32_take hU 24⟩, by omega, from_new hbw.size, ?_⟩
    · rw [List.take_of_length_le (l := xs) (i := k) (by omega)] at hr3
      rw [List.take_of_length_le (l := xs) (i := 24) (by omega)]
      exact (hr3.set_other _ _ (fun a ha => by cases ha; simp; omega)).set_other _ _ (fun a ha => by cases ha; simp; omega)
    · exact (((hbw.trans ((undrew hb3).mono hbw.size)).setCell (by simp) _).setCell (by simp) _)

theorem app_none (ty : TypeId) (q : Option Addr) (c : Nat) (w : World) : (Builtin.append_ #[27, 27] ty #[.slice none 0 0, .slice q 0 c]).run Tryz.prog w = .ok (.slice none 0 0) w := by
  obtain ⟨i0, hi, hzz⟩ := Option.map_eq_some_iff.1 info_u32
  cases q <;> simp [Builtin.append_, run_underlying Tryz.underlying27, sizeOf, typeInfo, hi, Builtin.lenOf, Builtin.firstCells, loadCells, loadCellsFrom]

set_option maxRecDepth 100000 in
set_option maxHeartbeats 1000000 in
theorem Cut_none1 (s : Bool)  (w : World) :
    Calls Tryz.prog 40 #[.agg #[.bool s, .slice none 0 0]] w (CutPost s [] w) := by
  have ha := fun ty w => app_none ty none 0 w
  go_enter Tryz.func40, Tryz.ntmps40
  go_wp2
  have hb1 : Bx ((w.alloc (.cells #[.bool s, .slice none 0 0] 29)).alloc (.cells #[.bool false, .slice none 0 0] 29)) w.heap.size (.bool s) (.slice none 0 0) := (Bx.new _ _ _ rfl).alloc _
  have hb2 : Bx ((w.alloc (.cells #[.bool s, .slice none 0 0] 29)).alloc (.cells #[.bool false, .slice none 0 0] 29)) (w.heap.size + 1) (.bool false) (.slice none 0 0) := Bx.new _ _ _ (World.size_alloc ..).symm
  have hbw : Below w.heap.size w ((w.alloc (.cells #[.bool s, .slice none 0 0] 29)).alloc (.cells #[.bool false, .slice none 0 0] 29)) := ((Below.refl _ _).alloc (Nat.le_refl _) _).alloc (by simp) _
  generalize ((w.alloc (.cells #[.bool s, .slice none 0 0] 29)).alloc (.cells #[.bool false, .slice none 0 0] 29)) = W at *
  have k0 := hb1.c0
  have k1 := hb1.c1
  have c0 := hb2.c0
  have c1 := hb2.c1
  have f0 := hb2.f0
  have f1 := hb2.f1
  go_region_held3 (fun w' => w'.cell? ⟨w.heap.size, 0, none⟩ = some (.bool s) ∧ w'.cell? ⟨w.heap.size, 1, none⟩ = some (.slice none 0 0)) (first | (simp [go_sem, *]; done) | exact keepc2 (by assumption) (by assumption)) (fail)
  go_wp2
  refine bodyPost_ret (v := .agg #[.bool s, .slice none 0 0]) (by simp [results, Tryz.results40, go_sem, c0, c1]) rfl ?_
  exact ⟨none, 0, 0, rfl, ⟨rfl, Nat.le_refl _, by unfold maxLen; decide, by decide, Rd.nil, u32_nil⟩, by decide, from_none, (hbw.drew.setCell (by simp) _).setCell (by simp) _⟩

set_option maxRecDepth 100000 in
set_option maxHeartbeats 1000000 in
theorem Cut_none2 (s : Bool) (a : Addr) (nc : Nat) (w : World) (hb : nc ≤ maxLen) :
    Calls Tryz.prog 40 #[.agg #[.bool s, .slice (some a) 0 nc]] w (CutPost s [] w) := by
  have hb' := hb
  unfold maxLen at hb'
  have ha := fun ty w => app_none ty (some a) nc w
  have hnc0 : (0 : Int) ≤ (nc : Int) := by omega
  go_enter Tryz.func40, Tryz.ntmps40
  go_wp2
  have hb1 : Bx ((w.alloc (.cells #[.bool s, .slice (some a) 0 nc] 29)).alloc (.cells #[.bool false, .slice none 0 0] 29)) w.heap.size (.bool s) (.slice (some a) 0 nc) := (Bx.new _ _ _ rfl).alloc _
  have hb2 : Bx ((w.alloc (.cells #[.bool s, .slice (some a) 0 nc] 29)).alloc (.cells #[.bool false, .slice none 0 0] 29)) (w.heap.size + 1) (.bool false) (.slice none 0 0) := Bx.new _ _ _ (World.size_alloc ..).symm
  have hbw : Below w.heap.size w ((w.alloc (.cells #[.bool s, .slice (some a) 0 nc] 29)).alloc (.cells #[.bool false, .slice none 0 0] 29)) := ((Below.refl _ _).alloc (Nat.le_refl _) _).alloc (by simp) _
  generalize ((w.alloc (.cells #[.bool s, .slice (some a) 0 nc] 29)).alloc (.cells #[.bool false, .slice none 0 0] 29)) = W at *
  have k0 := hb1.c0
  have k1 := hb1.c1
  have c0 := hb2.c0
  have c1 := hb2.c1
  have f0 := hb2.f0
  have f1 := hb2.f1
  go_region_held3 (fun w' => w'.cell? ⟨w.heap.size, 0, none⟩ = some (.bool s) ∧ w'.cell? ⟨w.heap.size, 1, none⟩ = some (.slice (some a) 0 nc)) (first | (simp [go_sem, *]; done) | exact keepc2 (by assumption) (by assumption)) (fail)
  go_wp2
  refine bodyPost_ret (v := .agg #[.bool s, .slice none 0 0]) (by simp [results, Tryz.results40, go_sem, c0, c1]) rfl ?_
  exact ⟨none, 0, 0, rfl, ⟨rfl, Nat.le_refl _, by unfold maxLen; decide, by decide, Rd.nil, u32_nil⟩, by decide, from_none, (hbw.drew.setCell (by simp) _).setCell (by simp) _⟩

/-- ashlarlaw1.Cut. -/
theorem Cut_any (s : Bool) (p : Option Addr) (n nc : Nat) (xs : List Int) (w : World) (hl : xs.length = n) (hnc : n ≤ nc) (hb : nc ≤ maxLen) (hX : Rd w p .u32 xs) (hU : U32 xs) (hp : p = none → nc = 0) :
    Calls Tryz.prog 40 #[.agg #[.bool s, .slice p n nc]] w (CutPost s xs w) := by
  rcases Nat.eq_zero_or_pos n with h | h
  · subst h
    obtain rfl : xs = [] := List.eq_nil_of_length_eq_zero hl
    cases p with
    | none => rw [hp rfl]; exact Cut_none1 s w
    | some a => exact Cut_none2 s a nc w hb
  · obtain ⟨b, off, rfl, _⟩ := hX (by omega)
    exact Cut_some s b off n nc (min n 24) xs w hl hnc hb hX hU rfl (by omega)
end Go.Proofs.YtakfimhpnpapdaaGreatDoor
