/-
  ashlarref3.To; upoly.Prim.
-/
import Derived.Test.YtkjpeehbhmcojaaGreatDoorVkJoNcDpAaEpGiGjFwBwGkVpVzCcGlPyHfCaHwDgHxCbNgNsPqPrPsPtPuPvPwPxKa
import Derived.Test.YtkjpeehbhmcojaaGreatDoorAbDnDoAcReRxRfRhCqRrRwVa
import Derived.Test.YtkjpeehbhmcojaaGreatDoorByUxUtUvUw
import Derived.Test.YtkjpeehbhmcojaaGreatDoorRnYqVlVnVrFrDw
import Derived.Test.YtkjpeehbhmcojaaGreatDoorX3X6Y3DfFbFcFsTaTbTc
import Derived.Test.YtkjpeehbhmcojaaGreatDoorHeVvCu
import Derived.Test.YtkjpeehbhmcojaaGreatDoorUoDmVtAfBpBnBoAhAdBsDtAgWvUhAiRzVd
import Derived.Deep.DeepFit
import Derived.Test.YtkjpeehbhmcojaaGreatDoorCyViDsAeVuWxUpUq
namespace Go.Proofs.YtkjpeehbhmcojaaGreatDoor
open Go.RowKit
set_option linter.unusedVariables false
set_option linter.unusedSimpArgs false
set_option maxHeartbeats 8000000
set_option maxRecDepth 100000 in
theorem parts_nil {w : World} {p : Option Addr} {es : List Ent} (K : Nat) (hK : K < 150) (hK1 : 1 ≤ K) (h : PA w K p 0 0 es []) :
    Calls Tryz.prog 38 #[.slice p (0 : Nat) (0 : Nat)] w (PtP [] K w) := by
  go_enter Tryz.func38, Tryz.ntmps38
  go_wp2_with fail
  have hal0 := bel_al (o := .cells #[.bool false, .slice none 0 0] 47) (Below.refl w.heap.size w)
  have hR0 : Bx (w.alloc (.cells #[.bool false, .slice none 0 0] 47)) w.heap.size (.bool false) (.slice none 0 0) := Bx.new _ _ _ rfl
  generalize w.alloc (.cells #[.bool false, .slice none 0 0] 47) = W0 at *
  refine (Content_any (h.below hal0) (by decide) hK hK1).mono ?_
  rintro r w1 ⟨u, rfl, hN, hb1⟩
  have sR : w.heap.size < W0.heap.size := block_lt_of_cell hR0.c0
  have hal := bel_al (o := .cells #[.bool u.s, .slice u.p u.n u.c] 47) (Below.refl w1.heap.size w1)
  have hC : Bx (w1.alloc (.cells #[.bool u.s, .slice u.p u.n u.c] 47)) w1.heap.size (.bool u.s) (.slice u.p u.n u.c) := Bx.new _ _ _ rfl
  obtain ⟨q0, q1, -, -⟩ := id hC
  obtain ⟨r0, r1, f0, f1⟩ := (hR0.later hb1).later hal
  have hN2 := hN.below hal
  have hB2 := bnext' (bnext' hal0 hb1) hal
  clear hN
  go_wp2_with fail
  generalize w1.alloc (.cells #[.bool u.s, .slice u.p u.n u.c] 47) = W2 at *
  refine bodyPost_ret (v := .tuple #[.agg #[.bool u.s, .slice u.p u.n u.c], .slice none 0 0]) (by simp [results, Tryz.results38, go_sem, r0, r1]) rfl ?_
  exact ⟨u, none, 0, [], rfl, (hN2.set2 (g := w.heap.size) (o := 0) sR _ _).mono (Nat.le_of_lt sR), ⟨rfl, rfl, rfl, PL.nil, nofun, fun j hj => absurd hj (by omega)⟩, bset2 hB2 (Nat.le_refl _) _ _⟩
set_option maxRecDepth 100000 in
theorem uPrim_any {w : World} {K : Nat} {p : Option Addr} {n nc : Nat} {es : List Ent} {zs : List Int} (h : PA w K p n nc es zs) (hn : n ≤ 100000) (hK : K < 150) (hK1 : 1 ≤ K) :
    Calls Tryz.prog 86 #[.slice p n nc] w (PnP (prml (tr zs)) K w) := by
  go_enter Tryz.func86, Tryz.ntmps86
  go_wp2_with fail
  refine (read_any K p n nc es zs w h (by omega) (by omega)).mono ?_
  rintro r w1 ⟨p1, n1, es1, rfl, h1, hb1⟩
  have hn1 := h1.zl
  rw [length_tr] at hn1
  have hle := tlen_le zs
  have hzl := h.zl
  have hpt : Calls Tryz.prog 38 #[.slice p1 n1 n1] w1 (PtP (tr zs) K w1) := by
    rcases Nat.eq_zero_or_pos n1 with h0 | h0
    · have e : tr zs = [] := List.eq_nil_of_length_eq_zero (by rw [length_tr]; omega)
      rw [e] at h1 ⊢
      subst h0
      exact parts_nil K hK hK1 (h1.pa (by omega))
    · exact parts_any h1 (by omega) h0 hK hK1
  have HB : Hid (Below w.heap.size w w1) := hb1
  clear h1 hn1 hle hzl h hb1
  go_wp2_with fail
  refine hpt.mono ?_
  rintro r w2 ⟨u, p2, n2, es2, rfl, -, h2, hb2⟩
  have hal := bel_al (o := .cells #[.bool u.s, .slice u.p u.n u.c] 47) (Below.refl w2.heap.size w2)
  have HR : Hid (PnP (prml (tr zs)) K w (.returned (.slice p2 n2 n2)) (w2.alloc (.cells #[.bool u.s, .slice u.p u.n u.c] 47))) := ⟨p2, n2, es2, rfl, (h2.below hal).mono HB.out.size, bnext' (bnext' HB.out hb2) hal⟩
  clear hpt h2
  go_wp2
  go_ret
  exact HR.out
theorem mulp_zero {p ys : List Int} {m : Nat} (hl : ys.length = m + 1) (hy : gx ys m ≠ 0) (h : ∀ t, gx (mulp p ys) t = 0) : tlen p = 0 := by
  rcases Nat.eq_zero_or_pos (tlen p) with h0 | h0
  · exact h0
  · exfalso
    obtain ⟨a, ha⟩ : ∃ a, tlen p = a + 1 := ⟨tlen p - 1, by omega⟩
    have h1 := mulp_topp (p := p) hl a ha
    rw [h] at h1
    have h2 := tlen_top p h0
    rw [ha, Nat.add_sub_cancel] at h2
    exact Int.mul_ne_zero h2 hy h1.symm
theorem rpIs_l {B : Nat} {w : World} {K N : Nat} {p q : Option Addr} {n m : Nat} {es fs : List Ent} {zs : List Int} (h : PN B w K p n es zs) (k : PR w N q m m fs zs) (hK : K ≤ 1000) (hN : N ≤ 1000) (hl : n ≤ 1000000) :
    Calls Tryz.prog 11 #[.slice p n n, .slice q m m] w fun r w' => r = .returned (.bool true) ∧ Below w.heap.size w w' := by
  obtain rfl : m = n := by rw [← h.zl, ← k.zl]
  exact rpIs_any h k hK hN hl
theorem tr_whole {zs : List Int} (h : tlen zs = zs.length) : tr zs = zs := by rw [tr, h, List.take_length]
theorem gcdl_scale_step (a : Int) (zs : List Int) : ∀ j, j ≤ zs.length → gcdl ((zs.map (a * ·)).take j) = a.natAbs * gcdl (zs.take j)
  | 0, _ => by simp [gcdl]
  | j + 1, hj => by
    rw [gcdl_take _ j (by simp; omega), gcdl_take _ j (by omega), gcdl_scale_step a zs j (by omega), gx_map0 (a * ·) (by simp)]
    show Nat.gcd _ _ = _ * Nat.gcd _ _
    rw [Int.natAbs_natCast, Int.natAbs_natCast, Int.natAbs_mul, Nat.gcd_mul_left]
theorem gcdl_scale (a : Int) (zs : List Int) : gcdl (zs.map (a * ·)) = a.natAbs * gcdl zs := by
  have h := gcdl_scale_step a zs zs.length (Nat.le_refl _)
  rwa [List.take_length, List.take_of_length_le (by simp)] at h
def prd (zs : List Int) : Int := if gx zs (zs.length - 1) < 0 then -(gcdl zs : Int) else gcdl zs
theorem prml_eq (zs : List Int) : prml zs = zs.map (· / prd zs) := rfl
theorem prd_scale (a : Int) (ha : a ≠ 0) (zs : List Int) (h : gx zs (zs.length - 1) ≠ 0) : prd (zs.map (a * ·)) = a * prd zs := by
  unfold prd
  rw [gcdl_scale, List.length_map, gx_map0 (a * ·) (by simp)]
  generalize gx zs (zs.length - 1) = l at *
  generalize gcdl zs = g
  have e : ((a.natAbs * g : Nat) : Int) = (a.natAbs : Int) * (g : Int) := by push_cast; rfl
  rw [e]
  rcases Int.lt_or_gt_of_ne ha with h1 | h1 <;> rcases Int.lt_or_gt_of_ne h with h2 | h2
  · rw [if_neg (by have := Int.mul_pos_of_neg_of_neg h1 h2; omega), if_pos h2]
    have : (a.natAbs : Int) = -a := by omega
    rw [this, Int.neg_mul, Int.mul_neg]
  · rw [if_pos (Int.mul_neg_of_neg_of_pos h1 h2), if_neg (by omega)]
    have : (a.natAbs : Int) = -a := by omega
    rw [this, Int.neg_mul, Int.neg_neg]
  · rw [if_pos (Int.mul_neg_of_pos_of_neg h1 h2), if_pos h2]
    have : (a.natAbs : Int) = a := by omega
    rw [this, Int.mul_neg]
  · rw [if_neg (by have := Int.mul_pos h1 h2; omega), if_neg (by omega)]
    have : (a.natAbs : Int) = a := by omega
    rw [this]
theorem prml_scale (a : Int) (ha : a ≠ 0) (zs : List Int) (h : tlen zs = zs.length) : prml (zs.map (a * ·)) = prml zs := by
  rcases Nat.eq_zero_or_pos zs.length with h0 | h0
  · have : zs = [] := List.eq_nil_of_length_eq_zero h0
    subst this
    rfl
  · have h1 := tlen_top zs (by omega)
    rw [h] at h1
    have hg := gcdl_ne h h0
    have hy : prd zs ≠ 0 := by unfold prd; split <;> omega
    rw [prml_eq, prml_eq, prd_scale a ha zs h1, List.map_map]
    refine List.map_congr_left fun z hz => ?_
    obtain ⟨i, hi, rfl⟩ := List.getElem_of_mem hz
    have hd : prd zs ∣ zs[i] := by
      have h2 := gcdl_dvd zs i
      rw [gx_mem zs i hi] at h2
      unfold prd
      split
      · exact Int.neg_dvd.2 h2
      · exact h2
    obtain ⟨k, hk⟩ := hd
    show a * zs[i] / (a * prd zs) = zs[i] / prd zs
    rw [hk, ← Int.mul_assoc, Int.mul_ediv_cancel_left _ (Int.mul_ne_zero ha hy), Int.mul_ediv_cancel_left _ hy]
end Go.Proofs.YtkjpeehbhmcojaaGreatDoor
namespace Go.Proofs.YtkjpeehbhmcojaaGreatDoor.Md
open Go.Proofs.YtkjpeehbhmcojaaGreatDoor
open Go.Proofs.YtkjpeehbhmcojaaGreatDoor.Cp (su su_add su_mul su_congr su_dvd)
set_option linter.unusedVariables false
set_option linter.unusedSimpArgs false
theorem same_deg {p : Int} (hp : Gs.Pri p) {G A B d : Nat → Int} {g : Nat} (hG : ¬ p ∣ G g) (hGz : ∀ t, g < t → G t = 0) (hA : Mp p G A) (hB : Mp p G B)
    (hd : ∀ I, Idl p I → ((I A ∧ I B) ↔ I d)) (h1 : p ∣ d g - 1) (hz : ∀ t, g < t → p ∣ d t) (t : Nat) : p ∣ G t - G g * d t := by
  have hp1 : ¬ p ∣ d g := fun h => by
    have h2 : p ∣ 1 := by
      have := Int.dvd_sub h h1
      rwa [show d g - (d g - 1) = 1 by omega] at this
    have h3 := Int.natAbs_dvd_natAbs.2 h2
    have h4 := Nat.le_of_dvd (by decide) h3
    have h5 := hp.1
    omega
  have h := (hd _ (mp_idl p G)).1 ⟨hA, hB⟩
  rcases mp_deg hp hG (fun t ht => by rw [hGz t ht]; exact Int.dvd_zero p) h with h2 | ⟨q, e, he, hq, h3, h4, h5⟩
  · exact absurd (h2 g) hp1
  · obtain rfl : e = 0 := by
      rcases Nat.eq_zero_or_pos e with h6 | h6
      · exact h6
      · exact absurd (hz (e + g) (by omega)) h4
    have hc : ∀ t, p ∣ d t - q 0 * G t := fun t => by
      have h6 := su_one (p := p) (f := fun k => q k * G (t - k)) 0 (t + 1) (by omega) fun i hi hne => Int.dvd_mul_of_dvd_left (hq i (by omega))
      have h7 : p ∣ cvf q G t - q 0 * G t := h6
      have h8 := Int.dvd_add (h3 t) h7
      rwa [show d t - cvf q G t + (cvf q G t - q 0 * G t) = d t - q 0 * G t by omega] at h8
    obtain ⟨x, hx⟩ := hc t
    obtain ⟨y, hy⟩ := hc g
    obtain ⟨z, hzz⟩ := h1
    have e1 : d t = q 0 * G t + p * x := by omega
    have e2 : q 0 * G g = 1 + p * (z - y) := by rw [Int.mul_sub]; omega
    refine ⟨-((z - y) * G t + G g * x), ?_⟩
    rw [e1, Int.mul_add, ← Int.mul_assoc, Int.mul_comm (G g) (q 0), e2, Int.add_mul, Int.one_mul, Int.mul_neg, Int.mul_add, Int.mul_assoc, Int.mul_left_comm (G g)]
    omega
structure GG (A B H a b : List Int) : Prop where
  hl : tlen H = H.length
  h0 : 0 < gx H (H.length - 1)
  hP : Gs.Prm H
  aP : Gs.Prm a
  bP : Gs.Prm b
  hA : ∀ t, gx A t = cvf (gx a) (gx H) t
  hB : ∀ t, gx B t = cvf (gx b) (gx H) t
  cop : Cop (gx a) (gx b)
theorem prm_of {e f : List Int} {s : Int} (h : Gs.Prm e) (hf : ∀ t, gx e t = s * gx f t) : Gs.Prm f := fun p hp => h p fun t => by
  rw [hf t]; exact Int.dvd_mul_of_dvd_right (hp t)
theorem cvf_ss {a H a' H' : List Int} {s : Int} (hs : s * s = 1) (ha : ∀ t, gx a' t = s * gx a t) (hH : ∀ t, gx H' t = s * gx H t) (t : Nat) : cvf (gx a') (gx H') t = cvf (gx a) (gx H) t := by
  unfold cvf
  refine su_congr _ fun i _ => ?_
  show gx a' i * gx H' (t - i) = _
  rw [ha, hH]
  have : s * gx a i * (s * gx H (t - i)) = (s * s) * (gx a i * gx H (t - i)) := by
    rw [Int.mul_assoc, Int.mul_assoc, Int.mul_left_comm (gx a i)]
  rw [this, hs, Int.one_mul]
theorem gcd_norm {A B : List Int} (hA : Gs.Prm A) (hB : Gs.Prm B) : ∃ H a b : List Int, GG A B H a b := by
  obtain ⟨G, a, b, h1, h2, h3⟩ := gcd_ex _ A B rfl (prm_pos hA) (prm_pos hB)
  obtain ⟨aP, GP⟩ := prm_left hA h1
  obtain ⟨bP, -⟩ := prm_left hB h2
  have hG := prm_pos GP
  have htop := tlen_top G hG
  obtain ⟨s, hs, hs1, hsp⟩ : ∃ s : Int, s * s = 1 ∧ (s = 1 ∨ s = -1) ∧ 0 < s * gx G (tlen G - 1) := by
    rcases Int.lt_or_gt_of_ne htop with h | h
    · exact ⟨-1, rfl, .inr rfl, by omega⟩
    · exact ⟨1, rfl, .inl rfl, by omega⟩
  have sm : ∀ (l : List Int) (t : Nat), gx (l.map (s * ·)) t = s * gx l t := fun l t => Gs.gx_map _ (Int.mul_zero s) l t
  have sb : ∀ (l : List Int) (t : Nat), gx l t = s * gx (l.map (s * ·)) t := fun l t => by rw [sm, ← Int.mul_assoc, hs, Int.one_mul]
  have hH : ∀ t, gx ((tr G).map (s * ·)) t = s * gx G t := fun t => by rw [sm, gx_tr]
  have hl : ((tr G).map (s * ·)).length = tlen G := by rw [List.length_map, length_tr]
  refine ⟨(tr G).map (s * ·), a.map (s * ·), b.map (s * ·), ?_, ?_, ?_, prm_of aP (sb a), prm_of bP (sb b), fun t => ?_, fun t => ?_, fun d N hN hI => h3 d N hN fun I H hS hd => ?_⟩
  · rw [hl]
    exact tlen_eq _ _ (fun j hj => by rw [hH, tlen_zero G j hj, Int.mul_zero]) (.inr (by rw [hH]; omega))
  · rw [hl, hH]; exact hsp
  · exact prm_of (s := s) GP fun t => by rw [hH, ← Int.mul_assoc, hs, Int.one_mul]
  · rw [cvf_ss hs (sm a) hH, h1, Sk.gx_mulp_cv, cvf_cv]
  · rw [cvf_ss hs (sm b) hH, h2, Sk.gx_mulp_cv, cvf_cv]
  · obtain ⟨i1, i2⟩ := hI I H hS hd
    exact ⟨H.eq (H.mul s i1) (sb a), H.eq (H.mul s i2) (sb b)⟩
theorem GG.uniq {A B H a b e : List Int} (h : GG A B H a b) {R : Int} (hR : R ≠ 0) (hbz : ∀ I, Idl 0 I → I (gx a) → I (gx b) → I (cst R)) (hP : Gs.Prm e) (hl : tlen e = e.length) (h0 : 0 < gx e (e.length - 1)) (dA : Dvd A e) (dB : Dvd B e) (hd : tlen H ≤ tlen e) : e = H := by
  have q1 : ∀ {F : List Int}, Dvd F e → QM (gx e) (gx F) := fun ⟨q, hq⟩ => ⟨1, gx q, q.length, by decide, fun t ht => gx_past q _ (Nat.le_refl _) t ht, fun t => by rw [Int.one_mul, hq t, Sk.gx_mulp_cv, cvf_cv]⟩
  have hQ := com_dvd h.hA h.hB hR hbz (q1 dA) (q1 dB)
  obtain ⟨s, hs, he⟩ := prim_same h.hP hP (prm_pos h.hP) hQ hd
  have hs1 : s = 1 ∨ s = -1 := by omega
  have ht : tlen H = tlen e := by
    refine tlen_eq _ _ (fun j hj => by rw [he, tlen_zero e j hj, Int.mul_zero]) (.inr ?_)
    rw [he, hl]
    rcases hs1 with rfl | rfl <;> omega
  have hle : H.length = e.length := by rw [← h.hl, ht, hl]
  have h1 := h.h0
  rw [hle, he] at h1
  have hs2 : s = 1 := by
    rcases hs1 with rfl | rfl
    · rfl
    · omega
  exact gx_ext _ _ hle.symm fun t _ => by rw [he, hs2, Int.one_mul]
theorem fac_bits {F a q : List Int} (h : ∀ t, gx F t = gx (mulp q a) t) (hF : 0 < tlen F) (hn : tlen F ≤ 13) (s : Nat) : zb (gx a s) ≤ tlen a + pb (tr F) + Lib.bitLen (tlen F) := by
  have hq0 : 0 < tlen q := by
    rcases Nat.eq_zero_or_pos (tlen q) with h0 | h0
    · exfalso
      have h1 := tlen_top F hF
      rw [h, Sk.gx_mulp_cv, Sk.cv_zl fun i => tlen_zero q i (by omega)] at h1
      exact h1 rfl
    · exact h0
  obtain ⟨m, hm⟩ : ∃ m, tlen q = m + 1 := ⟨tlen q - 1, by omega⟩
  have hl : (tr q).length = m + 1 := by rw [length_tr, hm]
  have hy : gx (tr q) m ≠ 0 := by
    have := tlen_top q hq0
    rwa [hm, Nat.add_sub_cancel, ← gx_tr q m] at this
  have h2 : ∀ t, gx F t = gx (mulp a (tr q)) t := fun t => by
    rw [h t, mulp_comm, Sk.gx_mulp_cv, Sk.gx_mulp_cv]
    exact Sk.cv_congr (fun _ => rfl) (fun i => (gx_tr q i).symm) t
  rcases mult_top hl hy h2 with h3 | ⟨c, h3, h4, -⟩
  · omega
  · have hQ : ∀ i, tlen a ≤ i → gx a i = 0 := fun i hi => tlen_zero a i hi
    rcases Nat.lt_or_ge s (tlen a) with hs | hs
    · refine quo_bits (zs := tr F) (ys := tr q) (m := m) (k := tlen a) (n := tlen F) (Q := gx a) (by omega) (by omega) (by omega) (by omega) (by rw [length_tr]; exact Nat.le_refl _) (by omega) hy hQ (fun t => ?_) s hs
      have e2 := ps_late a (tr q) t (tlen a)
      have e3 := ps_more a (tr q) t (tlen a) hQ (t + 1)
      rw [gx_tr, h2 t, gx_mulp, ← e2, Nat.add_comm (t + 1), e3, ps_cvf]
    · rw [hQ s hs, zb_zero]; exact Nat.zero_le _
theorem pb_all {zs : List Int} {K : Nat} (h : ∀ t, zb (gx zs t) ≤ K) : pb zs ≤ K := by
  have := pb_le_of zs K (fun j _ => h j) zs.length (Nat.le_refl _)
  rwa [List.take_length] at this
theorem cof_dvd {X Z A H a : List Int} {c : Int} (hX : ∀ t, c * gx A t = cvf (gx X) (gx Z) t) (hA : ∀ t, gx A t = cvf (gx a) (gx H) t) (aP : Gs.Prm a) (hZ : 0 < tlen Z) (hq : QM (gx Z) (gx H)) : Dvd X a := by
  obtain ⟨k, w, N, hk, hN, hw⟩ := hq
  have hw' : ∀ t, k * gx H t = Sk.cv (gx (lst N w)) (gx Z) t := fun t => by
    rw [hw t, cvf_cv]
    exact Sk.cv_congr (fun i => (gx_lst hN i).symm) (fun _ => rfl) t
  generalize lst N w = w' at *
  obtain ⟨P, hP⟩ : ∃ P, P = mulp a w' := ⟨_, rfl⟩
  have gP : ∀ t, gx P t = Sk.cv (gx a) (gx w') t := fun t => by rw [hP, Sk.gx_mulp_cv]
  have key : ∀ t, k * Sk.cv (gx X) (gx Z) t = c * Sk.cv (gx P) (gx Z) t := fun t => by
    have e1 : Sk.cv (gx P) (gx Z) t = Sk.cv (gx a) (Sk.cv (gx w') (gx Z)) t := by
      rw [Sk.cv_assoc]
      exact Sk.cv_congr gP (fun _ => rfl) t
    have e2 : Sk.cv (gx a) (Sk.cv (gx w') (gx Z)) t = k * Sk.cv (gx a) (gx H) t := by
      rw [Sk.cv_congr (a := gx a) (b := gx a) (h := fun i => k * gx H i + 0 * gx H i) (fun _ => rfl) (fun i => by rw [← hw' i]; omega), Sk.cv_linr]
      omega
    rw [e1, e2, ← cvf_cv, ← hX t, hA t, cvf_cv, Int.mul_left_comm]
  obtain ⟨D, hD⟩ : ∃ D : List Int, ∀ t, gx D t = k * gx X t + (-c) * gx P t := ⟨Sk.lof (X.length + P.length) fun t => k * gx X t + (-c) * gx P t, Sk.gx_lof _ _ fun t ht => by
    rw [gx_past X _ (Nat.le_refl _) t (by omega), gx_past P _ (Nat.le_refl _) t (by omega)]; omega⟩
  obtain ⟨m, hm⟩ : ∃ m, tlen Z = m + 1 := ⟨tlen Z - 1, by omega⟩
  have hz : ∀ t, gx (mulp D (tr Z)) t = 0 := fun t => by
    rw [Sk.gx_mulp_cv, Sk.cv_congr hD (fun i => gx_tr Z i), Sk.cv_linl, key t, Int.neg_mul]
    omega
  have htop : gx (tr Z) m ≠ 0 := by
    have := tlen_top Z hZ
    rwa [hm, Nat.add_sub_cancel, ← gx_tr Z m] at this
  have hD0 := mulp_zero (by rw [length_tr, hm]) htop hz
  have hk2 : ∀ t, k * gx X t = c * gx P t := fun t => by
    have h1 := hD t
    rw [tlen_zero D t (by omega), Int.neg_mul] at h1
    omega
  refine dvd_of_qm (d := gx a) (k := 1) aP (fun t => (Int.one_mul _).symm) ⟨k, fun t => c * gx w' t, w'.length, hk, fun t ht => by show c * gx w' t = 0; rw [gx_past w' _ (Nat.le_refl _) t ht, Int.mul_zero], fun t => ?_⟩
  rw [hk2 t, cvf_mul, hP, mulp_comm, Sk.gx_mulp_cv, cvf_cv]
theorem cof_bits {X a : List Int} (h : Dvd X a) (hX : 0 < tlen X) (h5 : tlen X ≤ 5) (hb : ∀ t, zb (gx X t) ≤ 64) : (∀ t, (gx a t).natAbs ≤ 2 ^ 72) ∧ tlen a ≤ 5 := by
  obtain ⟨q, hq⟩ := h
  have hle : tlen a ≤ tlen X := by
    rcases Nat.eq_zero_or_pos (tlen a) with h0 | h0
    · omega
    · obtain ⟨m, hm⟩ : ∃ m, tlen a = m + 1 := ⟨tlen a - 1, by omega⟩
      have htop : gx (tr a) m ≠ 0 := by
        have := tlen_top a h0
        rwa [hm, Nat.add_sub_cancel, ← gx_tr a m] at this
      have h2 : ∀ t, gx X t = gx (mulp q (tr a)) t := fun t => by
        rw [hq t, Sk.gx_mulp_cv, Sk.gx_mulp_cv]
        exact Sk.cv_congr (fun _ => rfl) (fun i => (gx_tr a i).symm) t
      rcases mult_top (by rw [length_tr, hm]) htop h2 with h3 | ⟨c, h3, h4, -⟩
      · omega
      · omega
  refine ⟨fun t => ?_, by omega⟩
  have h1 := fac_bits hq hX (by omega) t
  have h2 : pb (tr X) ≤ 64 := pb_all fun t => by rw [gx_tr]; exact hb t
  have h3 : ∀ n, n ≤ 5 → Lib.bitLen n ≤ 3 := by decide
  have h4 := h3 _ h5
  have h5 := (zb_ib (gx a t)).2.1
  have h6 : (2 : Int) ^ zb (gx a t) ≤ 2 ^ 72 := p2_mono (by omega)
  have h7 : ((2 : Int) ^ 72) = ((2 ^ 72 : Nat) : Int) := rfl
  omega
def rb : Nat := 2116
theorem bd_cof : ∀ m, m ≤ 4 → Bd 4 4 m 72 72 ≤ rb := by decide +kernel
theorem bez_cof {a b : List Int} (ha : ∀ t, (gx a t).natAbs ≤ 2 ^ 72) (hb : ∀ t, (gx b t).natAbs ≤ 2 ^ 72) (ta : tlen a ≤ 5) (tb : tlen b ≤ 5) (b0 : 0 < tlen b) (hc : Cop (gx a) (gx b)) : ∃ R : Int, R ≠ 0 ∧ R.natAbs ≤ 2 ^ rb ∧ ∀ I, Idl 0 I → I (gx a) → I (gx b) → I (cst R) := by
  obtain ⟨R, h1, h2, h3⟩ := bez 4 4 (tlen b - 1) 72 72 (gx a) (gx b) (by omega) (fun t ht => tlen_zero a t (by omega)) (fun t ht => tlen_zero b t (by omega)) (tlen_top b b0) ha hb hc
  exact ⟨R, h1, Nat.le_trans h2 (Nat.pow_le_pow_right (by decide) (bd_cof _ (by omega))), h3⟩
theorem dvs_one {p : Int} (hp : 2 ≤ p) (iv : Int → Int) (hiv : ∀ a, ¬ p ∣ a → (a * iv a) % p = 1) : ∀ (f : Nat) (A : List Int) (na : Nat) (B : List Int) (nb : Nat), nb ≤ f → na ≤ A.length → nb ≤ B.length → Res p A → Res p B →
    (0 < nb → gx B (nb - 1) ≠ 0) → (nb = 0 → 0 < na ∧ gx A (na - 1) = 1) → 0 < (dvs p iv f A na B nb).2 ∧ gx (dvs p iv f A na B nb).1 ((dvs p iv f A na B nb).2 - 1) = 1
  | 0, A, na, B, nb, hf, _, _, _, _, _, h1 => by
    obtain rfl : nb = 0 := by omega
    rw [dvs]
    exact h1 rfl
  | f + 1, A, na, B, nb, hf, hA, hB, rA, rB, ht, h1 => by
    rw [dvs]
    by_cases h0 : nb = 0
    · rw [if_pos h0]
      exact h1 h0
    · rw [if_neg h0]
      have hinv := hiv _ (Res.not_dvd rB (ht (by omega)))
      generalize iv (gx B (nb - 1)) = c at *
      have gB : gx ((B.take nb).map (· * c % p)) (nb - 1) = 1 := by
        rw [gx_map0 (· * c % p) (by simp)]
        show gx (B.take nb) (nb - 1) * c % p = 1
        rw [gx_take _ _ _ (by omega)]
        exact hinv
      have lB : ((B.take nb).map (· * c % p)).length = nb := by rw [List.length_map, List.length_take]; omega
      have rB1 : Res p ((B.take nb).map (· * c % p)) := Res.scaled hp
      generalize (B.take nb).map (· * c % p) = B1 at *
      have lR := length_rrest p B1 (nb - 1) (na - (nb - 1)) A
      have rR : Res p (rrest p B1 (nb - 1) (na - (nb - 1)) A) := Res.rrest hp _ rA
      generalize rrest p B1 (nb - 1) (na - (nb - 1)) A = R at *
      have hl := tlen_le (R.take (min (nb - 1) na))
      rw [List.length_take] at hl
      exact dvs_one hp iv hiv f B1 nb R (tlen (R.take (min (nb - 1) na))) (by omega) (by omega) (by omega) rB1 rR (fun h => by
        have h2 := tlen_top _ h
        rwa [gx_take _ _ _ (by omega)] at h2) (fun _ => ⟨by omega, gB⟩)
theorem tk_map {p : Int} {I : (Nat → Int) → Prop} (H : Idl p I) (A : List Int) : I (tk (A.map (· % p)) (tlen (A.map (· % p)))) ↔ I (gx A) := by
  have e : ∀ t, tk (A.map (· % p)) (tlen (A.map (· % p))) t = gx A t % p := fun t => by
    unfold tk
    split
    · rw [gx_map0 (· % p) (by simp)]
    · rename_i h
      have := tlen_zero (A.map (· % p)) t (by omega)
      rw [gx_map0 (· % p) (by simp)] at this
      exact this.symm
  exact ⟨fun h => H.cg h fun t => by rw [e]; exact Cr.dvd_sub_emod p _, fun h => H.cg h fun t => by rw [e]; exact dvd_emod_sub p _⟩
structure Told (m : Nat) (A B H : List Int) (u R lead : Int) (D : List Int) (nd : Nat) : Prop where
  pos : 0 < nd
  le : nd ≤ tlen B
  one : gx D (nd - 1) = 1
  ge : H.length ≤ nd
  eq : nd = H.length → ∀ t, t < nd → (m : Int) ∣ lead * gx D t - u * gx H t
  bad : nd ≠ H.length → (m : Int) ∣ R
theorem prime_told {m : Nat} (hp : Gs.Pri (m : Int)) {A B H a b : List Int} (G : GG A B H a b) {R lead u : Int} (hbz : ∀ I, Idl 0 I → I (gx a) → I (gx b) → I (cst R)) (hu : lead = gx H (H.length - 1) * u) (hl : ¬ (m : Int) ∣ lead) (hB : Gs.Prm B) {F : Nat} (hF : tlen (B.map (· % (m : Int))) ≤ F) {D : List Int} {nd : Nat}
    (h : dvs m (fun a => a ^ (m - 2) % (m : Int)) F (A.map (· % (m : Int))) (tlen (A.map (· % (m : Int)))) (B.map (· % (m : Int))) (tlen (B.map (· % (m : Int)))) = (D, nd)) : Told m A B H u R lead D nd := by
  have hp2 : (2 : Int) ≤ (m : Int) := by have := hp.1; simp at this; omega
  have hiv : ∀ x : Int, ¬ (m : Int) ∣ x → (x * (x ^ (m - 2) % (m : Int))) % (m : Int) = 1 := fun x hx => Cp.fermat hp hx
  have rs : ∀ l : List Int, Res (m : Int) (l.map (· % (m : Int))) := fun l j => by
    rw [gx_map0 (· % (m : Int)) (by simp)]
    exact ⟨Int.emod_nonneg _ (by omega), Int.emod_lt_of_pos _ (by omega)⟩
  have nz : 0 < tlen (B.map (· % (m : Int))) := by
    rcases Nat.eq_zero_or_pos (tlen (B.map (· % (m : Int)))) with h0 | h0
    · exfalso
      have := hB (m : Int) fun t => by
        have h1 := tlen_zero (B.map (· % (m : Int))) t (by omega)
        rw [gx_map0 (· % (m : Int)) (by simp)] at h1
        exact Int.dvd_of_emod_eq_zero h1
      omega
    · exact h0
  have top : ∀ l : List Int, 0 < tlen l → gx l (tlen l - 1) ≠ 0 := tlen_top
  have h1 := dvs_one hp2 _ hiv F (A.map (· % (m : Int))) _ (B.map (· % (m : Int))) _ hF (tlen_le _) (tlen_le _) (rs A) (rs B) (top _) (fun h0 => by omega)
  have h2 : ∀ I, Idl (m : Int) I → ((I (gx A) ∧ I (gx B)) ↔ I (tk D nd)) := fun I hI => by
    have h3 := dvs_idl hI hp2 (fun a => a ^ (m - 2) % (m : Int)) hiv F (A.map (· % (m : Int))) _ (B.map (· % (m : Int))) _ hF (tlen_le _) (tlen_le _) (rs A) (rs B) (top _)
    rw [h, tk_map hI A, tk_map hI B] at h3
    exact h3
  rw [h] at h1
  obtain ⟨p1, p2⟩ := h1
  simp only at p1 p2
  obtain ⟨g, hg⟩ : ∃ g, H.length = g + 1 := ⟨H.length - 1, by
    have := prm_pos G.hP
    have := G.hl
    omega⟩
  have hg1 : H.length - 1 = g := by omega
  rw [hg1] at hu
  have hHg : ¬ (m : Int) ∣ gx H g := fun hd => hl (by rw [hu]; exact Int.dvd_mul_of_dvd_left hd)
  have hGz : ∀ t, g < t → gx H t = 0 := fun t ht => gx_past H (g + 1) (by omega) t (by omega)
  have mA : Mp (m : Int) (gx H) (gx A) := ⟨gx a, a.length, fun t ht => gx_past a _ (Nat.le_refl _) t ht, fun t => by rw [G.hA, Int.sub_self]; exact Int.dvd_zero _⟩
  have mB : Mp (m : Int) (gx H) (gx B) := ⟨gx b, b.length, fun t ht => gx_past b _ (Nat.le_refl _) t ht, fun t => by rw [G.hB, Int.sub_self]; exact Int.dvd_zero _⟩
  have tz : ∀ t, nd - 1 < t → tk D nd t = 0 := fun t ht => by unfold tk; rw [if_neg (by omega)]
  have t1 : tk D nd (nd - 1) = 1 := by unfold tk; rw [if_pos (by omega), p2]
  have hd1 : ¬ (m : Int) ∣ tk D nd (nd - 1) := by
    rw [t1]
    intro hd
    have := Int.le_of_dvd (by decide) hd
    omega
  have hge : g ≤ nd - 1 := deg_ge hp hHg hGz mA mB h2 hd1 (fun t ht => by rw [tz t ht]; exact Int.dvd_zero _)
  refine ⟨p1, ?_, p2, by omega, fun he t ht => ?_, fun hne => ?_⟩
  · obtain ⟨-, iB⟩ := (h2 _ (mp_idl (m : Int) (tk D nd))).2 (mp_self _ _)
    rcases mp_deg hp hd1 (fun t ht => by rw [tz t ht]; exact Int.dvd_zero _) iB with h4 | ⟨q, e, -, -, -, h4, -⟩
    · exfalso
      have := hB (m : Int) h4
      omega
    · rcases Nat.lt_or_ge (e + (nd - 1)) (tlen B) with h5 | h5
      · omega
      · exact absurd (by rw [tlen_zero B _ h5]; exact Int.dvd_zero _) h4
  · have hnd : nd - 1 = g := by omega
    rw [hnd] at t1 tz
    have h3 := same_deg hp hHg hGz mA mB h2 (by rw [t1, Int.sub_self]; exact Int.dvd_zero _) (fun t ht => by rw [tz t ht]; exact Int.dvd_zero _)
    have h4 := scaled_good h3 hu t
    unfold tk at h4
    rwa [if_pos ht] at h4
  · refine Classical.byContradiction fun hR => hne ?_
    have h3 := (good_prime hp hHg hGz (fun t ht => gx_past a _ (Nat.le_refl _) t ht) (fun t ht => gx_past b _ (Nat.le_refl _) t ht) G.hA G.hB hR hbz h2 (by rw [t1, Int.sub_self]; exact Int.dvd_zero _) (fun t ht => by rw [tz t ht]; exact Int.dvd_zero _)).1
    omega
structure ImS (k : Nat) (H : List Int) (u R lead : Int) (n : Nat) (l : List Nat) (e : Nat → Int) : Prop where
  img : ∃ x : Nat → Int, Img l x e n ∧ (n = H.length → ∀ t, t < n → x t = u * gx H t)
  ge : H.length ≤ n
  mem : ∀ p ∈ l, p ∈ Cp.chain.take k
  bad : n ≠ H.length → ∀ p ∈ l, (p : Int) ∣ R
  top : ∀ p ∈ l, ¬ (p : Int) ∣ e (n - 1)
  few : n = H.length → l.length ≤ 13
  cnt : ∃ bad : List Nat, bad.Nodup ∧ (∀ p ∈ bad, p ∈ Cp.chain.take k ∧ (p : Int) ∣ lead * R ∧ p ∉ l) ∧ k ≤ bad.length + l.length
theorem chain_at {k : Nat} (hk : k < 320) : Cp.chain.getD k 0 ∈ Cp.chain ∧ Cp.chain.getD k 0 ∉ Cp.chain.take k ∧ Cp.chain.take (k + 1) = Cp.chain.take k ++ [Cp.chain.getD k 0] := by
  have hl := Cp.chain_len
  have e : Cp.chain.getD k 0 = Cp.chain[k]'(by omega) := by rw [List.getD_eq_getElem?_getD, List.getElem?_eq_getElem (by omega), Option.getD_some]
  have h2 : Cp.chain.take (k + 1) = Cp.chain.take k ++ [Cp.chain[k]'(by omega)] := by rw [List.take_succ_eq_append_getElem]
  rw [e]
  refine ⟨List.getElem_mem _, fun hm => ?_, h2⟩
  have h3 : (Cp.chain.take (k + 1)).Nodup := Cp.chain_nodup.sublist (List.take_sublist _ _)
  rw [h2] at h3
  exact (List.nodup_append.1 h3).2.2 _ hm _ (List.mem_singleton.2 rfl) rfl
theorem mem_next {k : Nat} (hk : k < 320) {p : Nat} (h : p ∈ Cp.chain.take k) : p ∈ Cp.chain.take (k + 1) := by
  rw [(chain_at hk).2.2]
  exact List.mem_append_left _ h
theorem mem_last {k : Nat} (hk : k < 320) : Cp.chain.getD k 0 ∈ Cp.chain.take (k + 1) := by
  rw [(chain_at hk).2.2]
  exact List.mem_append_right _ (List.mem_singleton.2 rfl)
section
variable {k : Nat} {H : List Int} {u R lead : Int} {n : Nat} {l : List Nat} {e : Nat → Int}
theorem ImS.skip (h : ImS k H u R lead n l e) (hk : k < 320) (hd : ((Cp.chain.getD k 0 : Nat) : Int) ∣ lead * R) : ImS (k + 1) H u R lead n l e := by
  obtain ⟨hm1, hm2, -⟩ := chain_at hk
  obtain ⟨bad, b1, b2, b3⟩ := h.cnt
  refine ⟨h.img, h.ge, fun p hp => mem_next hk (h.mem p hp), h.bad, h.top, h.few, Cp.chain.getD k 0 :: bad, List.nodup_cons.2 ⟨fun hb => hm2 (b2 _ hb).1, b1⟩, fun p hp => ?_, by rw [List.length_cons]; omega⟩
  rcases List.mem_cons.1 hp with rfl | hp
  · exact ⟨mem_last hk, hd, fun hl => hm2 (h.mem _ hl)⟩
  · obtain ⟨c1, c2, c3⟩ := b2 p hp
    exact ⟨mem_next hk c1, c2, c3⟩
theorem img_nil (x : Nat → Int) (n : Nat) : Img [] x (fun _ => 0) n :=
  ⟨List.nodup_nil, fun p hp => absurd hp (List.not_mem_nil), fun p hp => absurd hp (List.not_mem_nil), fun t _ => by rw [show Cp.prodL [] = 1 from rfl]; omega, fun t _ p hp => absurd hp (List.not_mem_nil)⟩
theorem ImS.fresh (h : ImS k H u R lead n l e) {nd : Nat} (hlt : nd < n) (hge : H.length ≤ nd) : ImS k H u R lead nd [] (fun _ => 0) := by
  obtain ⟨bad, b1, b2, b3⟩ := h.cnt
  obtain ⟨x, i1, -⟩ := h.img
  refine ⟨⟨fun t => u * gx H t, img_nil _ _, fun _ _ _ => rfl⟩, hge, fun p hp => absurd hp (List.not_mem_nil), fun _ p hp => absurd hp (List.not_mem_nil), fun p hp => absurd hp (List.not_mem_nil), fun _ => Nat.zero_le _, l ++ bad, List.nodup_append.2 ⟨i1.nd, b1, fun a ha c hc he => ?_⟩, fun p hp => ?_, by rw [List.length_append, List.length_nil]; omega⟩
  · subst he
    exact (b2 a hc).2.2 ha
  · rcases List.mem_append.1 hp with hp | hp
    · exact ⟨h.mem p hp, Int.dvd_mul_of_dvd_right (h.bad (by omega) p hp), List.not_mem_nil⟩
    · exact ⟨(b2 p hp).1, (b2 p hp).2.1, List.not_mem_nil⟩
theorem ImS.start (H : List Int) (u R lead : Int) (hn : H.length < n) : ImS 0 H u R lead n [] (fun _ => 0) :=
  ⟨⟨fun t => u * gx H t, img_nil _ _, fun _ _ _ => rfl⟩, by omega, fun p hp => absurd hp (List.not_mem_nil), fun _ p hp => absurd hp (List.not_mem_nil), fun p hp => absurd hp (List.not_mem_nil), fun _ => Nat.zero_le _, [], List.nodup_nil, fun p hp => absurd hp (List.not_mem_nil), Nat.zero_le _⟩
theorem odd_chain : ∀ q ∈ Cp.chain, q % 2 = 1 := by decide +kernel
theorem ImS.next (h : ImS k H u R lead n l e) (hk : k < 320) {A B D : List Int} (hT : Told (Cp.chain.getD k 0) A B H u R lead D n) (hl : ¬ ((Cp.chain.getD k 0 : Nat) : Int) ∣ lead) {r : Nat → Int} (hr : ∀ t, t < n → ((Cp.chain.getD k 0 : Nat) : Int) ∣ r t - lead * gx D t) (hf : n = H.length → l.length ≤ 12) :
    ImS (k + 1) H u R lead n (Cp.chain.getD k 0 :: l) (fun t => Cr.nxt (Cp.chain.getD k 0) (Cp.prodL l : Nat) (e t) (r t)) := by
  obtain ⟨hm1, hm2, -⟩ := chain_at hk
  have hml : Cp.chain.getD k 0 ∉ l := fun hx => hm2 (h.mem _ hx)
  have hp : Gs.Pri ((Cp.chain.getD k 0 : Nat) : Int) := Cp.chain_pri hm1
  have ho := odd_chain _ hm1
  have hlast := mem_last hk
  have hne := hT.bad
  have heq := hT.eq
  have hone := hT.one
  have hpos := hT.pos
  generalize Cp.chain.getD k 0 = m at *
  obtain ⟨bad, b1, b2, b3⟩ := h.cnt
  obtain ⟨x, i1, i2⟩ := h.img
  have hM : ¬ (m : Int) ∣ ((Cp.prodL l : Nat) : Int) := fun hd => by
    obtain ⟨q, h1, h2⟩ := Cp.pri_prodL hp l hd
    rw [Cp.pri_same hp (i1.pri q h1) h2] at hml
    exact hml h1
  refine ⟨?_, h.ge, fun p hp' => ?_, fun hn p hp' => ?_, fun p hp' => ?_, fun hn => by rw [List.length_cons]; have := hf hn; omega, bad, b1, fun p hp' => ?_, by rw [List.length_cons]; omega⟩
  · by_cases hn : n = H.length
    · refine ⟨x, i1.take hp ho hml fun t ht => ?_, i2⟩
      have h1 := Int.dvd_add (hr t ht) (heq hn t ht)
      rw [i2 hn t ht]
      rwa [show r t - lead * gx D t + (lead * gx D t - u * gx H t) = r t - u * gx H t by omega] at h1
    · refine ⟨fun t => Cr.nxt m (Cp.prodL l : Nat) (e t) (r t), Img.take (⟨i1.nd, i1.pri, i1.odd, i1.near, fun t ht p hp' => ?_⟩) hp ho hml fun t ht => ?_, fun hx => absurd hx hn⟩
      · have h1 := Int.dvd_trans (Int.natCast_dvd_natCast.2 (Cp.dvd_prodL l p hp')) (Cr.nxt_old m (Cp.prodL l : Nat) (e t) (r t))
        have h2 := Int.dvd_neg.2 h1
        rwa [show -(Cr.nxt m (Cp.prodL l : Nat) (e t) (r t) - e t) = e t - Cr.nxt m (Cp.prodL l : Nat) (e t) (r t) by omega] at h2
      · have h1 := Int.dvd_neg.2 (Cr.nxt_new hp hM (e t) (r t))
        rwa [show -(Cr.nxt m (Cp.prodL l : Nat) (e t) (r t) - r t) = r t - Cr.nxt m (Cp.prodL l : Nat) (e t) (r t) by omega] at h1
  · rcases List.mem_cons.1 hp' with rfl | hp'
    · exact hlast
    · exact mem_next hk (h.mem p hp')
  · rcases List.mem_cons.1 hp' with rfl | hp'
    · exact hne hn
    · exact h.bad hn p hp'
  · intro hd
    rcases List.mem_cons.1 hp' with h1 | hp'
    · subst h1
      refine hl ?_
      have h2 := Cr.nxt_new hp hM (e (n - 1)) (r (n - 1))
      have h3 := hr (n - 1) (by omega)
      rw [hone, Int.mul_one] at h3
      have h4 := Int.dvd_sub hd (Int.dvd_add h2 h3)
      rwa [show Cr.nxt p (Cp.prodL l : Nat) (e (n - 1)) (r (n - 1)) - (Cr.nxt p (Cp.prodL l : Nat) (e (n - 1)) (r (n - 1)) - r (n - 1) + (r (n - 1) - lead)) = lead by omega] at h4
    · refine h.top p hp' ?_
      have h2 := Int.dvd_trans (Int.natCast_dvd_natCast.2 (Cp.dvd_prodL l p hp')) (Cr.nxt_old m (Cp.prodL l : Nat) (e (n - 1)) (r (n - 1)))
      have h4 := Int.dvd_sub hd h2
      rwa [show Cr.nxt m (Cp.prodL l : Nat) (e (n - 1)) (r (n - 1)) - (Cr.nxt m (Cp.prodL l : Nat) (e (n - 1)) (r (n - 1)) - e (n - 1)) = e (n - 1) by omega] at h4
  · obtain ⟨c1, c2, c3⟩ := b2 p hp'
    exact ⟨mem_next hk c1, c2, fun hx => by
      rcases List.mem_cons.1 hx with h1 | h1
      · exact hm2 (by rw [← h1]; exact c1)
      · exact c3 h1⟩
theorem prodL_le : ∀ l : List Nat, (∀ p ∈ l, p ≤ 2 ^ 31) → Cp.prodL l ≤ 2 ^ (31 * l.length)
  | [], _ => by simp [Cp.prodL]
  | p :: l, h => by
    rw [Cp.prodL, List.length_cons, Nat.mul_add, Nat.mul_one, Nat.pow_add, Nat.mul_comm]
    exact Nat.mul_le_mul (prodL_le l fun q hq => h q (List.mem_cons_of_mem _ hq)) (h p (List.mem_cons_self ..))
theorem ImS.few_l (h : ImS k H u R lead n l e) (hR : R ≠ 0) (hRb : R.natAbs ≤ 2 ^ rb) : l.length ≤ 70 := by
  have hrb : rb = 2116 := rfl
  by_cases hn : n = H.length
  · have := h.few hn; omega
  · obtain ⟨x, i1, -⟩ := h.img
    have := Cp.few_primes hR hRb l i1.nd i1.pri (fun p hp => Cp.chain_30 p (List.mem_of_mem_take (h.mem p hp))) (h.bad hn)
    omega
theorem ImS.few_k (h : ImS k H u R lead n l e) (hR : R ≠ 0) (hRb : R.natAbs ≤ 2 ^ rb) (h0 : lead ≠ 0) (hlb : lead.natAbs ≤ 2 ^ 160) : k ≤ 150 := by
  have h1 := h.few_l hR hRb
  obtain ⟨bad, b1, b2, b3⟩ := h.cnt
  have hrb : rb = 2116 := rfl
  have h2 := Cp.few_primes (X := lead * R) (Int.mul_ne_zero h0 hR) (B := 160 + rb) (by
    rw [Int.natAbs_mul, Nat.pow_add]
    exact Nat.mul_le_mul hlb hRb) bad b1 (fun p hp => Cp.chain_pri (List.mem_of_mem_take (b2 p hp).1)) (fun p hp => Cp.chain_30 p (List.mem_of_mem_take (b2 p hp).1)) fun p hp => (b2 p hp).2.1
  omega
theorem ImS.is (h : ImS k H u R lead n l e) (hn : n = H.length) (hl : 13 ≤ l.length) {b : Nat} (hb : b < 389) (hW : ∀ t, (u * gx H t).natAbs ≤ 2 ^ b) (t : Nat) (ht : t < n) : e t = u * gx H t := by
  obtain ⟨x, i1, i2⟩ := h.img
  have h1 := Cp.prodL_ge l fun p hp => Cp.chain_30 p (List.mem_of_mem_take (h.mem p hp))
  have h2 : 2 ^ (b + 2) ≤ 2 ^ (30 * l.length) := Nat.pow_le_pow_right (by decide) (by omega)
  rw [Nat.pow_add] at h2
  have h3 := hW t
  have h4 : 0 < 2 ^ b := Nat.pow_pos (by decide)
  rw [← i2 hn t ht] at h3 ⊢
  generalize 2 ^ b = P at *
  refine i1.is ht ⟨?_, ?_⟩ <;> omega
theorem ImS.lack (h : ImS k H u R lead n l e) (hn : n = H.length) (hl : 13 ≤ l.length) {b : Nat} (hb : b < 389) (hW : ∀ t, (u * gx H t).natAbs ≤ 2 ^ b) {m : Nat} {A B D : List Int} (hT : Told m A B H u R lead D n) {r : Nat → Int} (hr : ∀ t, t < n → (m : Int) ∣ r t - lead * gx D t) (M : Int) (t : Nat) (ht : t < n) : Cr.lack m M (e t) (r t) = 0 := by
  have h1 := h.is hn hl hb hW t ht
  have h2 := Int.dvd_add (hr t ht) (hT.eq hn t ht)
  rw [← h1, show r t - lead * gx D t + (lead * gx D t - e t) = r t - e t by omega] at h2
  have h3 := Cr.dvd_sub_emod (m : Int) (e t)
  have h4 := Int.dvd_add h2 h3
  rw [show r t - e t + (e t - e t % (m : Int)) = r t - e t % (m : Int) by omega] at h4
  unfold Cr.lack
  rw [Int.emod_eq_zero_of_dvd h4, Int.zero_mul, Int.zero_emod]
end
theorem prml_self {H : List Int} (hl : tlen H = H.length) (h0 : 0 < gx H (H.length - 1)) (hP : Gs.Prm H) : prml H = H := by
  have h1 : gcdl H = 1 := by
    have := hP (gcdl H : Nat) (gcdl_dvd H)
    omega
  rw [prml_eq, prd, if_neg (by omega), h1]
  exact (List.map_congr_left (g := id) fun x _ => by simp).trans (List.map_id _)
theorem prml_img {H : List Int} {u : Int} {n : Nat} {e : Nat → Int} (hu : u ≠ 0) (hl : tlen H = H.length) (h0 : 0 < gx H (H.length - 1)) (hP : Gs.Prm H) (hn : n = H.length) (he : ∀ t, t < n → e t = u * gx H t) : prml (lst n e) = H := by
  have h1 : lst n e = H.map (u * ·) := by
    refine gx_ext _ _ (by simp [lst, hn]) fun t ht => ?_
    have ht' : t < n := by simpa [lst] using ht
    rw [Gs.gx_map _ (Int.mul_zero u), ← he t ht']
    unfold lst
    simp [gx, ht']
  rw [h1, prml_scale u hu H hl, prml_self hl h0 hP]
end Go.Proofs.YtkjpeehbhmcojaaGreatDoor.Md
