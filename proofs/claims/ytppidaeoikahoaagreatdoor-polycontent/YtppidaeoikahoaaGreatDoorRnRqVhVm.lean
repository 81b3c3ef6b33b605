/-
  ashlarref1.Neg, Sub.
-/
import Derived.Test.YtppidaeoikahoaaGreatDoorRjRk
import Derived.Test.YtppidaeoikahoaaGreatDoorRfRhCqRr
import Derived.Test.YtppidaeoikahoaaGreatDoorUv
import Derived.Test.YtppidaeoikahoaaGreatDoorUpUq
import Derived.Test.YtppidaeoikahoaaGreatDoorVlRi
namespace Go.Proofs.YtppidaeoikahoaaGreatDoor
open Go.RowKit
set_option linter.unusedVariables false
set_option linter.unusedSimpArgs false

set_option maxRecDepth 100000 in
set_option maxHeartbeats 1000000 in
/-- ashlarref1.Neg. -/
theorem rNeg_rn {w : World} {s : Bool} {p : Option Addr} {n : Nat} {xs : List Int} (h : RN w s p n xs) :
    Calls Tryz.prog 106 #[.agg #[.bool s, .slice p n n]] w fun e w' => ∃ s', e = .returned (.agg #[.bool s', .slice p n n]) ∧ RN w' s' p n xs ∧ Hid (rval s' xs = - rval s xs) ∧ Below w.heap.size w w' := by
  have hlt := h.lt
  have HL : Hid (0 < n → ∀ x, p = some x → x.block < w.heap.size) := hlt
  clear hlt
  have hsm := h.sml
  have htl := h.nrm
  have HT : Hid (tlen xs = n) := htl
  clear htl
  go_enter Tryz.func106, Tryz.ntmps106
  go_wp2_with fail
  have hb2 : Bx ((w.alloc (.cells #[.bool s, .slice p n n] 35)).alloc (.cells #[.bool false, .slice none 0 0] 35)) (w.heap.size + 1) (.bool false) (.slice none 0 0) := Bx.new _ _ _ (World.size_alloc ..).symm
  have hbw : Below w.heap.size w ((w.alloc (.cells #[.bool s, .slice p n n] 35)).alloc (.cells #[.bool false, .slice none 0 0] 35)) := ((Below.refl _ _).alloc (Nat.le_refl _) _).alloc (by simp) _
  generalize ((w.alloc (.cells #[.bool s, .slice p n n] 35)).alloc (.cells #[.bool false, .slice none 0 0] 35)) = W at *
  refine (rtrim_any (!s) p n n xs _ h.len (Nat.le_refl _) (by unfold maxLen; omega) (h.rd.below hbw)).mono ?_
  rw [HT.out]
  rintro e w4 ⟨rfl, hb4⟩
  obtain ⟨c0, c1, f0, f1⟩ := resbox hb4 hb2.c0 hb2.c1 hb2.f0 hb2.f1
  go_wp2
  refine bodyPost_ret (v := .agg #[.bool (nsg (!s) xs), .slice p n n]) (by simp [results, Tryz.results106, go_sem, c0, c1]) rfl ?_
  have hR : RN w4 (nsg (!s) xs) p n xs := ⟨h.len, (h.rd.below hbw).below hb4, h.u, h.nrm, fun h0 => by rw [nsg, if_pos (by rw [HT.out]; exact h0)], h.sml⟩
  refine ⟨_, rfl, (hR.set (fun hn x hx e => by have := HL.out hn x hx; simp at e; omega) _).set (fun hn x hx e => by have := HL.out hn x hx; simp at e; omega) _, ?_, ((bnext' hbw hb4).setCell (by simp) _).setCell (by simp) _⟩
  show rval _ xs = _
  have e := rval_nsg (!s) h.u
  rw [tr_self (by rw [HT.out, h.len]), rval_not] at e
  exact e

set_option maxRecDepth 100000 in
set_option maxHeartbeats 1000000 in
/-- ashlarref1.Sub. -/
theorem rSub_rn {w : World} {s t : Bool} {p q : Option Addr} {n m : Nat} {xs ys : List Int} (h : RN w s p n xs) (k : RN w t q m ys) (hn : n ≤ 1000000) (hm : m ≤ 1000000) :
    Calls Tryz.prog 144 #[.agg #[.bool s, .slice p n n], .agg #[.bool t, .slice q m m]] w (RAns (n + m + 1) (rval s xs - rval t ys) w) := by
  go_enter Tryz.func144, Tryz.ntmps144
  go_wp2_with fail
  have hX3 := boxes3' w (.bool s) (.slice p n n) (.bool t) (.slice q m m) (.bool false) (.slice none 0 0) 35 35 35
  generalize ((w.alloc (Obj.cells #[Value.bool s, Value.slice p n n] 35)).alloc (Obj.cells #[Value.bool t, Value.slice q m m] 35)).alloc (Obj.cells #[Value.bool false, Value.slice none 0 0] 35) = W at *
  have hhW := h.below hX3.below
  have hkW := k.below hX3.below
  have k0 := hX3.ca0
  have k1 := hX3.ca1
  have k2 := hX3.cb0
  have k3 := hX3.cb1
  go_region_held3 (fun w' => w'.cell? ⟨w.heap.size, 0, none⟩ = some (.bool s) ∧ w'.cell? ⟨w.heap.size, 1, none⟩ = some (.slice p n n) ∧ w'.cell? ⟨w.heap.size + 1, 0, none⟩ = some (.bool t) ∧ w'.cell? ⟨w.heap.size + 1, 1, none⟩ = some (.slice q m m)) (first | exact ⟨by assumption, by assumption, by assumption, by assumption⟩ | exact keepc4 (by assumption) (by assumption) | (simp [go_sem, *]; done))
    (first
      | (go_at_call 106; refine (rNeg_rn hkW.drew).mono ?_; rintro e w1 ⟨t1, rfl, hk1, HT1, hb1⟩)
      | (go_at_call 64; refine (rAdd_rn (hhW.below (undrew hb1)) hk1 hn hm).mono ?_; rintro e w2 ⟨s2, p2, n2, d2, rfl, hR2, hv2, hn2, hF2, hb2⟩; have HV2 : Hid (rval s2 d2 = rval s xs + rval t1 ys) := hv2; clear hv2; obtain ⟨c0', c1', f0, f1⟩ := resbox (bnext' (undrew hb1) hb2) hX3.cr0 hX3.cr1 hX3.fr0 hX3.fr1))
  go_wp2
  have hsz := hX3.size
  have hs1 := hb1.size
  have e1 : W.drew.heap.size = W.heap.size := rfl
  refine bodyPost_ret (v := .agg #[.bool s2, .slice p2 n2 n2]) (by simp [results, Tryz.results144, go_sem, c0', c1']) rfl ?_
  refine ⟨s2, p2, n2, d2, rfl, RN_st3 hF2 (by simp only; omega) (RN_st3 hF2 (by simp only; omega) hR2), ?_, hn2, hF2.mono (by omega), ?_⟩
  · rw [HV2.out, HT1.out]; omega
  · exact ((bnext (bnext hX3.below (Nat.le_refl _) (undrew hb1)) (Nat.le_refl _) hb2).setCell (by simp only; omega) _).setCell (by simp only; omega) _
end Go.Proofs.YtppidaeoikahoaaGreatDoor
/-
  ashlarref1.Neg, with values.
-/
namespace Go.Proofs.YtppidaeoikahoaaGreatDoor
open Go.RowKit
set_option linter.unusedVariables false
set_option linter.unusedSimpArgs false

theorem rNeg_v {w : World} {N : Nat} {x : Int} {s : Bool} {p : Option Addr} {n : Nat} (h : RV w N x s p n) :
    Calls Tryz.prog 106 #[.agg #[.bool s, .slice p n n]] w fun e w' => ∃ s', e = .returned (.agg #[.bool s', .slice p n n]) ∧ RV w' N (-x) s' p n ∧ Below w.heap.size w w' := by
  obtain ⟨ds, h1, rfl, h3⟩ := h
  refine (rNeg_rn h1).mono ?_
  rintro e w' ⟨s', g1, g2, g3, g4⟩
  exact ⟨s', g1, ⟨ds, g2, g3.out, h3⟩, g4⟩
end Go.Proofs.YtppidaeoikahoaaGreatDoor
/-
  Content and primitive part of a multiple: plain.
-/
namespace Go.Proofs.YtppidaeoikahoaaGreatDoor
open Go.RowKit
set_option linter.unusedVariables false
set_option linter.unusedSimpArgs false

theorem gcdl_scale_step (a : Int) (zs : List Int) : ∀ j, j ≤ zs.length → gcdl ((zs.map (a * ·)).take j) = a.natAbs * gcdl (zs.take j)
  | 0, _ => by simp [gcdl]
  | j + 1, hj => by
    rw [gcdl_take _ j (by simp; omega), gcdl_take _ j (by omega), gcdl_scale_step a zs j (by omega), gx_map0 (a * ·) (by simp)]
    show Nat.gcd _ _ = _ * Nat.gcd _ _
    rw [Int.natAbs_natCast, Int.natAbs_natCast, Int.natAbs_mul, Nat.gcd_mul_left]
theorem gcdl_scale (a : Int) (zs : List Int) : gcdl (zs.map (a * ·)) = a.natAbs * gcdl zs := by
  have h := gcdl_scale_step a zs zs.length (Nat.le_refl _)
  rwa [List.take_length, List.take_of_length_le (by simp)] at h
/-- The number by which the primitive part is divided. -/
def prd (zs : List Int) : Int := if gx zs (zs.length - 1) < 0 then -(gcdl zs : Int) else gcdl zs
theorem prml_eq (zs : List Int) : prml zs = zs.map (· / prd zs) := rfl
theorem prd_scale (a : Int) (ha : a ≠ 0) (zs : List Int) (h : gx zs (zs.length - 1) ≠ 0) : prd (zs.map (a * ·)) = a * prd zs := by
  unfold prd
  rw [gcdl_scale, List.length_map, gx_map0 (a * ·) (by simp)]
  generalize gx zs (zs.length - 1) = l at *
  generalize gcdl zs = g
  have e : ((a.natAbs * g : Nat) : Int) = (a.natAbs : Int) * (g : Int) := by push_cast; rfl
  rw [e]
  rcases Int.lt_or_gt_of_ne ha with h1 | h1 <;> rcases Int.lt_or_gt_of_ne h with h2 | h2
  · rw [if_neg (by have := Int.mul_pos_of_neg_of_neg h1 h2; omega), if_pos h2]
    have : (a.natAbs : Int) = -a := by omega
    rw [this, Int.neg_mul, Int.mul_neg]
  · rw [if_pos (Int.mul_neg_of_neg_of_pos h1 h2), if_neg (by omega)]
    have : (a.natAbs : Int) = -a := by omega
    rw [this, Int.neg_mul, Int.neg_neg]
  · rw [if_pos (Int.mul_neg_of_pos_of_neg h1 h2), if_pos h2]
    have : (a.natAbs : Int) = a := by omega
    rw [this, Int.mul_neg]
  · rw [if_neg (by have := Int.mul_pos h1 h2; omega), if_neg (by omega)]
    have : (a.natAbs : Int) = a := by omega
    rw [this]
theorem prml_scale (a : Int) (ha : a ≠ 0) (zs : List Int) (h : tlen zs = zs.length) : prml (zs.map (a * ·)) = prml zs := by
  rcases Nat.eq_zero_or_pos zs.length with h0 | h0
  · have : zs = [] := List.eq_nil_of_length_eq_zero h0
    subst this
    rfl
  · have h1 := tlen_top zs (by omega)
    rw [h] at h1
    have hg := gcdl_ne h h0
    have hy : prd zs ≠ 0 := by unfold prd; split <;> omega
    rw [prml_eq, prml_eq, prd_scale a ha zs h1, List.map_map]
    refine List.map_congr_left fun z hz => ?_
    obtain ⟨i, hi, rfl⟩ := List.getElem_of_mem hz
    have hd : prd zs ∣ zs[i] := by
      have h2 := gcdl_dvd zs i
      rw [gx_mem zs i hi] at h2
      unfold prd
      split
      · exact Int.neg_dvd.2 h2
      · exact h2
    obtain ⟨k, hk⟩ := hd
    show a * zs[i] / (a * prd zs) = zs[i] / prd zs
    rw [hk, ← Int.mul_assoc, Int.mul_ediv_cancel_left _ (Int.mul_ne_zero ha hy), Int.mul_ediv_cancel_left _ hy]
theorem tlen_scale (a : Int) (ha : a ≠ 0) (zs : List Int) : tlen (zs.map (a * ·)) = tlen zs := by
  refine tlen_eq _ _ (fun j hj => ?_) ?_
  · rw [gx_map0 (a * ·) (by simp), tlen_zero zs j hj, Int.mul_zero]
  · rcases Nat.eq_zero_or_pos (tlen zs) with h0 | h0
    · exact .inl h0
    · right
      rw [gx_map0 (a * ·) (by simp)]
      exact Int.mul_ne_zero ha (tlen_top zs h0)
end Go.Proofs.YtppidaeoikahoaaGreatDoor
/-
  ashlarref3.Lead, Prim.
-/
namespace Go.Proofs.YtppidaeoikahoaaGreatDoor
open Go.RowKit
set_option linter.unusedVariables false
set_option linter.unusedSimpArgs false

set_option maxHeartbeats 2000000 in
set_option maxRecDepth 100000 in
/-- ashlarref3.At, at an entry that is there. -/
theorem rpAt_in {w : World} {N : Nat} {p : Option Addr} {n nc : Nat} {es : List Ent} {zs : List Int} (h : PR w N p n nc es zs) (i : Nat) (hi : i < n) (hn : n ≤ 1000000) :
    Calls Tryz.prog 65 #[.slice p n nc, .int .i64 i] w fun r w' => r = .returned (.agg #[.bool (ge es i).s, .slice (ge es i).p (ge es i).n (ge es i).c]) ∧ Below w.heap.size w w' := by
  have hel := h.el
  have hal := bel_al (o := .cells #[.bool false, .slice none 0 0] 35) (Below.refl w.heap.size w)
  have hX : Bx (w.alloc (.cells #[.bool false, .slice none 0 0] 35)) w.heap.size (.bool false) (.slice none 0 0) := Bx.new _ _ _ rfl
  obtain ⟨b, o, hp, hc⟩ := (h.below hal).pl (by omega)
  subst hp
  obtain ⟨c0, c1⟩ := hc i (by omega)
  have i1 : (i : Int) < (n : Int) := by omega
  have i2 : ¬ (i : Int) < 0 := by omega
  have i3 : ¬ (n : Int) ≤ (i : Int) := by omega
  obtain ⟨r0, r1, f0, f1⟩ := id hX
  clear hc h
  go_enter Tryz.func65, Tryz.ntmps65
  go_upto_region 1 with fail
  generalize w.alloc (.cells #[.bool false, .slice none 0 0] 35) = W at *
  go_wp2
  refine bodyPost_ret (v := .agg #[.bool (ge es i).s, .slice (ge es i).p (ge es i).n (ge es i).c]) (by simp [results, Tryz.results65, go_sem, r0, r1]) rfl ⟨rfl, ?_⟩
  exact bset2 hal (Nat.le_refl _) _ _
set_option maxHeartbeats 2000000 in
set_option maxRecDepth 100000 in
/-- ashlarref3.Lead of a polynomial that is not zero. -/
theorem rpLead_in {w : World} {N : Nat} {p : Option Addr} {n nc : Nat} {es : List Ent} {zs : List Int} (h : PR w N p n nc es zs) (hn1 : 1 ≤ n) (hn : n ≤ 1000000) :
    Calls Tryz.prog 28 #[.slice p n nc] w fun r w' => r = .returned (.agg #[.bool (ge es (n - 1)).s, .slice (ge es (n - 1)).p (ge es (n - 1)).n (ge es (n - 1)).c]) ∧ Below w.heap.size w w' := by
  obtain ⟨i, hi⟩ : ∃ i, i = n - 1 := ⟨_, rfl⟩
  rw [← hi]
  have hal := bel_al (o := .cells #[.bool false, .slice none 0 0] 35) (Below.refl w.heap.size w)
  have hX : Bx (w.alloc (.cells #[.bool false, .slice none 0 0] 35)) w.heap.size (.bool false) (.slice none 0 0) := Bx.new _ _ _ rfl
  have ha := rpAt_in (h.below hal) i (by omega) hn
  have i1 : (n : Int) - 1 = (i : Int) := by omega
  have i2 : IntKind.i64.wrap (i : Int) = (i : Int) := by rw [IntKind.wrap_i64]; omega
  clear h hi
  go_enter Tryz.func28, Tryz.ntmps28
  go_upto_region 1 with fail
  generalize w.alloc (.cells #[.bool false, .slice none 0 0] 35) = W at *
  go_wp2_with fail
  refine ha.mono ?_
  rintro r w1 ⟨rfl, hb1⟩
  obtain ⟨r0, r1, f0, f1⟩ := hX.later hb1
  clear ha hX
  go_wp2
  refine bodyPost_ret (v := .agg #[.bool (ge es i).s, .slice (ge es i).p (ge es i).n (ge es i).c]) (by simp [results, Tryz.results28, go_sem, r0, r1]) rfl ⟨rfl, ?_⟩
  exact bset2 (bnext' hal hb1) (Nat.le_refl _) _ _
theorem field_N (b : Bool) (x : Value) (w : World) : (Instr.field 35 (.agg #[.bool b, x]) 0).run Tryz.prog w = .ok (.bool b) w := by kernel_rfl
theorem tlen_prml {zs : List Int} (h : tlen zs = zs.length) : tlen (prml zs) = zs.length := by
  rcases Nat.eq_zero_or_pos zs.length with h0 | h0
  · have : zs = [] := List.eq_nil_of_length_eq_zero h0
    subst this
    rfl
  · have hl : (prml zs).length = zs.length := by rw [prml, List.length_map]
    refine tlen_eq _ _ (fun j hj => gx_past _ _ (by omega) j hj) (.inr ?_)
    rw [prml_eq, gx_map0 (· / prd zs) (by simp)]
    have h1 := tlen_top zs (by omega)
    rw [h] at h1
    have hg := gcdl_ne h h0
    have hy : prd zs ≠ 0 := by unfold prd; split <;> omega
    have hd : prd zs ∣ gx zs (zs.length - 1) := by
      have h2 := gcdl_dvd zs (zs.length - 1)
      unfold prd
      split
      · exact Int.neg_dvd.2 h2
      · exact h2
    intro h4
    have := Int.ediv_mul_cancel hd
    rw [h4, Int.zero_mul] at this
    exact h1 this.symm
theorem tr_of_tlen {zs : List Int} (h : tlen zs = zs.length) : tr zs = zs := by rw [tr, h, List.take_length]
theorem prd_dvd (zs : List Int) (j : Nat) : prd zs ∣ gx zs j := by
  have h2 := gcdl_dvd zs j
  unfold prd
  split
  · exact Int.neg_dvd.2 h2
  · exact h2
theorem sign_re {w : World} {N : Nat} {z : Int} {e : Ent} (h : RE w N z e) (hz : z ≠ 0) : e.s = decide (z < 0) := by
  obtain ⟨⟨ds, h1, h2, h3⟩, h4⟩ := h
  have := vd_nonneg h1.u
  cases hs : e.s <;> rw [hs, rval] at h2 <;> simp at h2 <;> simp <;> omega
set_option maxHeartbeats 4000000 in
set_option maxRecDepth 100000 in
/-- ashlarref3.Prim. -/
theorem rpPrim_any {w : World} {N : Nat} {p : Option Addr} {n nc : Nat} {es : List Ent} {zs : List Int} (h : PR w N p n nc es zs) (ht : tlen zs = n) (hn : n ≤ 100000) (hN : N ≤ 1000) (hN4 : 4 ≤ N) :
    Calls Tryz.prog 50 #[.slice p n nc] w (PrP (prml zs) N w) := by
  have hzl := h.zl
  rcases Nat.eq_zero_or_pos n with h0 | h0
  · subst h0
    have : zs = [] := List.eq_nil_of_length_eq_zero hzl
    subst this
    go_enter Tryz.func50, Tryz.ntmps50
    go_wp2
    go_ret
    exact ⟨none, 0, [], rfl, ⟨rfl, rfl, Nat.le_refl _, Nat.zero_le _, PL.nil, fun j hj => absurd hj (by omega)⟩, nofun, rfl, Below.refl _ _⟩
  · have g1 : ((n : Int) == 0) = false := by rw [beq_eq_false_iff_ne]; omega
    have g2 : ¬ (n : Int) = 0 := by omega
    have hlz : gx zs (n - 1) ≠ 0 := by have := tlen_top zs (by omega); rwa [ht] at this
    have hsg := sign_re (h.ev (n - 1) (by omega)) hlz
    have HY : Hid (prd zs ≠ 0 ∧ tr (zs.map (· / prd zs)) = prml zs ∧ prd zs = (if gx zs (n - 1) < 0 then -(gcdl zs : Int) else gcdl zs)) := by
      refine ⟨?_, ?_, by rw [prd, hzl]⟩
      · have hg := gcdl_ne (zs := zs) (by rw [ht, hzl]) (by omega)
        unfold prd; split <;> omega
      · rw [← prml_eq]
        exact tr_of_tlen (by rw [tlen_prml (by rw [ht, hzl]), prml, List.length_map])
    have HP : Hid (PR w N p n nc es zs) := h
    clear h ht
    go_enter Tryz.func50, Tryz.ntmps50
    go_wp2_with fail
    refine (rpContent_any HP.out hn hN hN4).mono ?_
    rintro r w1 ⟨u, rfl, hu, hb1⟩
    obtain ⟨s1, p1, n1, c1⟩ := u
    obtain rfl : c1 = n1 := hu.2
    dsimp only
    have hal := bel_al (o := .cells #[.bool s1, .slice p1 c1 c1] 35) (Below.refl w1.heap.size w1)
    have hX1 : Bx (w1.alloc (.cells #[.bool s1, .slice p1 c1 c1] 35)) w1.heap.size (.bool s1) (.slice p1 c1 c1) := Bx.new _ _ _ rfl
    have hlu := hu.lt
    have hu1 := hu.below hal
    have hB1 := bnext' hb1 hal
    have hld := rpLead_in (HP.out.below hB1) h0 (by omega)
    have hbe : w.heap.size ≤ w1.heap.size := hb1.size
    have HPL : Hid (∀ j, j < n → 0 < (ge es j).n → Off w1.heap.size (ge es j).p) := fun j hj hn0 a ha e => by have := (HP.out.ev j hj).lt hn0 a ha; omega
    have HPP : Hid (Off w1.heap.size p) := fun a ha e => by
      obtain ⟨b, o, hb', hl'⟩ := HP.out.pl.lt (by rw [HP.out.el]; omega)
      rw [hb'] at ha
      cases ha
      simp at e
      omega
    clear hu hal hb1
    go_wp2_with fail
    generalize w1.alloc (.cells #[.bool s1, .slice p1 c1 c1] 35) = W1 at *
    refine hld.mono ?_
    rintro r w2 ⟨rfl, hb2⟩
    rw [hsg]
    have hX2 := hX1.later hb2
    have hu2 := hu1.below hb2
    have hB2 := bnext' hB1 hb2
    obtain ⟨q0, q1, f0, f1⟩ := id hX2
    have hfd := field_N
    clear hld hX1 hu1 hB1 hb2 hsg
    have hcs : Hid (gx zs (n - 1) < 0 ∨ ¬ gx zs (n - 1) < 0) := Classical.em _
    rcases hcs.out with hz | hz
    · rw [decide_eq_true hz]
      have HD : Hid (-(gcdl zs : Int) = prd zs) := by have := HY.out.2.2; rw [if_pos hz] at this; exact this.symm
      have hng := rNeg_v hu2.1
      rw [HD.out] at hng
      clear hz hcs
      go_wp2_with fail
      refine hng.mono ?_
      rintro r w3 ⟨s', rfl, hv3, hb3⟩
      have hX3 := hX2.later hb3
      obtain ⟨z0, z1, e0, e1⟩ := id hX3
      have hB3 := bset2 (g := w1.heap.size) (bnext' hB2 hb3) hbe (.bool s') (.slice p1 c1 c1)
      have hX4 := Bx_set (x := .bool s') (y := .slice p1 c1 c1) hX3
      have hr4 : RE ((w3.setCell ⟨w1.heap.size, 0, none⟩ (.bool s')).setCell ⟨w1.heap.size, 1, none⟩ (.slice p1 c1 c1)) N (prd zs) ⟨s', p1, c1, c1⟩ := RE.set2 (o := 0) ⟨hv3, rfl⟩ (fun h0 a ha e => by have := hlu h0 a ha; omega)
      have hun := rpUnder_any (HP.out.below hB3) hr4 HY.out.1 (prd_dvd zs) hn hN hN
      rw [HY.out.2.1] at hun
      obtain ⟨y0, y1, -, -⟩ := id hX4
      have HB := (show Hid _ from hB3)
      clear hng hX2 hu2 hB2 q0 q1 f0 f1 hv3 hb3 hX3 hr4 hB3
      go_upto_region 6 with fail
      clear z0 z1 e0 e1 hX4
      generalize (w3.setCell ⟨w1.heap.size, 0, none⟩ (.bool s')).setCell ⟨w1.heap.size, 1, none⟩ (.slice p1 c1 c1) = W3 at *
      go_wp2_with fail
      refine hun.mono ?_
      rintro r w5 ⟨p5, n5, es5, rfl, h5, hf5, ht5, hb5⟩
      have HR : Hid (PrP (prml zs) N w (.returned (.slice p5 n5 n5)) w5) := ⟨p5, n5, es5, rfl, h5, fun a ha => Nat.le_trans HB.out.size (hf5 a ha), ht5, bnext' HB.out hb5⟩
      clear hun h5 hf5 ht5 hb5
      go_wp2
      go_ret
      exact HR.out
    · rw [decide_eq_false hz]
      have HD : Hid ((gcdl zs : Int) = prd zs) := by have := HY.out.2.2; rw [if_neg hz] at this; exact this.symm
      rw [HD.out] at hu2
      have hun := rpUnder_any (HP.out.below hB2) hu2 HY.out.1 (prd_dvd zs) hn hN hN
      rw [HY.out.2.1] at hun
      have HB : Hid (Below w.heap.size w w2) := hB2
      clear hz hcs hX2 hu2 hB2
      go_wp2_with fail
      refine hun.mono ?_
      rintro r w5 ⟨p5, n5, es5, rfl, h5, hf5, ht5, hb5⟩
      have HR : Hid (PrP (prml zs) N w (.returned (.slice p5 n5 n5)) w5) := ⟨p5, n5, es5, rfl, h5, fun a ha => Nat.le_trans HB.out.size (hf5 a ha), ht5, bnext' HB.out hb5⟩
      clear hun h5 hf5 ht5 hb5
      go_wp2
      go_ret
      exact HR.out
end Go.Proofs.YtppidaeoikahoaaGreatDoor
