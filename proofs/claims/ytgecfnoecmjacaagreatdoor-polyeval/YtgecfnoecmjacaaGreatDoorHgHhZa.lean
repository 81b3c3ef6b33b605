/-
  upoly.horner over the integers.
-/
import Derived.Test.YtgecfnoecmjacaaGreatDoorWiWjUl
import Derived.Test.YtgecfnoecmjacaaGreatDoorGgUn
import Derived.Test.YtgecfnoecmjacaaGreatDoorUy
import Derived.Test.YtgecfnoecmjacaaGreatDoorWfUuUxUt
import Derived.Deep.DeepFit
import Derived.Test.YtgecfnoecmjacaaGreatDoorRkUgUi
import Derived.Test.YtgecfnoecmjacaaGreatDoorPl
namespace Go.Proofs.YtgecfnoecmjacaaGreatDoor
open Go.RowKit
set_option linter.unusedVariables false
set_option linter.unusedSimpArgs false

/-- The value at x, by Horner. -/
def evz (x : Int) : List Int → Int
  | [] => 0
  | c :: cs => evz x cs * x + c
theorem evz_drop (x : Int) (zs : List Int) (i : Nat) (h : i < zs.length) : evz x (zs.drop i) = evz x (zs.drop (i + 1)) * x + gx zs i := by
  rw [List.drop_eq_getElem_cons h, gx_mem zs i h]
  rfl
theorem evz_lt {x : Int} {K L : Nat} (hx : (x.natAbs : Int) < pw L) : ∀ (zs : List Int), (∀ j, ((gx zs j).natAbs : Int) < pw K) → ((evz x zs).natAbs : Int) < pw (K + zs.length * (L + 1))
  | [], _ => by simpa [evz] using pw_pos _
  | c :: cs, h => by
    have ih := evz_lt hx cs (fun j => by simpa [gx] using h (j + 1))
    have hc : ((c).natAbs : Int) < pw K := by simpa [gx] using h 0
    have hm : ((evz x cs * x).natAbs : Int) ≤ pw (K + cs.length * (L + 1) + L) := by
      rw [pw_add, Int.natAbs_mul]
      push_cast
      exact Int.mul_le_mul (Int.le_of_lt ih) (Int.le_of_lt hx) (by omega) (Int.le_of_lt (pw_pos _))
    have h1 : pw K ≤ pw (K + cs.length * (L + 1) + L) := pw_mono (by omega)
    have h2 : K + (c :: cs).length * (L + 1) = K + cs.length * (L + 1) + L + 1 := by
      simp only [List.length_cons]
      rw [Nat.succ_mul]
      omega
    rw [h2, pw_succ]
    show ((evz x cs * x + c).natAbs : Int) < _
    have h3 := pw_pos (K + cs.length * (L + 1) + L)
    omega
set_option maxHeartbeats 2000000 in
set_option maxRecDepth 100000 in
theorem wtimes_any {w : World} {K L : Nat} {x y : Int} {e f : Ent} (hx : EV w L x e) (hv : EV w K y f) (hK : K < 80) :
    Calls Tryz.prog 82 #[.agg #[.bool e.s, .slice e.p e.n e.c], .agg #[.bool f.s, .slice f.p f.n f.c]] w fun r w' => ∃ u : Ent, r = .returned (.agg #[.bool u.s, .slice u.p u.n u.c]) ∧ NV w.heap.size w' (K + L) (y * x) u ∧ Below w.heap.size w w' := by
  have hB : Below w.heap.size w (((w.alloc (.cells #[.bool e.s, .slice e.p e.n e.c] 97)).alloc (.cells #[.bool f.s, .slice f.p f.n f.c] 26)).alloc (.cells #[.bool false, .slice none 0 0] 26)) := bel_al (bel_al (bel_al (Below.refl _ _)))
  have hR : Bx (((w.alloc (.cells #[.bool e.s, .slice e.p e.n e.c] 97)).alloc (.cells #[.bool f.s, .slice f.p f.n f.c] 26)).alloc (.cells #[.bool false, .slice none 0 0] 26)) (w.heap.size + 1 + 1) (.bool false) (.slice none 0 0) := Bx.new _ _ _ (by simp)
  go_enter Tryz.func82, Tryz.ntmps82
  go_wp2_with fail
  generalize (((w.alloc (.cells #[.bool e.s, .slice e.p e.n e.c] 97)).alloc (.cells #[.bool f.s, .slice f.p f.n f.c] 26)).alloc (.cells #[.bool false, .slice none 0 0] 26)) = W at *
  refine (Mul_ev (hv.below hB) (hx.below hB) hK).mono ?_
  rintro r w1 ⟨u, rfl, hu, hb⟩
  have hlt : w.heap.size + 1 + 1 < W.heap.size := block_lt_of_cell hR.c0
  obtain ⟨r0, r1, f0, f1⟩ := hR.later hb
  go_wp2
  refine bodyPost_ret (v := .agg #[.bool u.s, .slice u.p u.n u.c]) (by simp [results, Tryz.results82, go_sem, r0, r1]) rfl ⟨u, rfl, ?_, bset2 (bnext' hB hb) (by omega) _ _⟩
  exact (hu.set2 (o := 0) hlt _ _).mono hB.size
set_option maxHeartbeats 2000000 in
set_option maxRecDepth 100000 in
theorem wplus_any {w : World} {K M : Nat} {y c : Int} {e f g : Ent} (hv : EV w K y f) (hc : EV w M c g) :
    Calls Tryz.prog 83 #[.agg #[.bool e.s, .slice e.p e.n e.c], .agg #[.bool f.s, .slice f.p f.n f.c], .agg #[.bool g.s, .slice g.p g.n g.c]] w fun r w' => ∃ u : Ent, r = .returned (.agg #[.bool u.s, .slice u.p u.n u.c]) ∧ NV w.heap.size w' (K + M + 1) (y + c) u ∧ Below w.heap.size w w' := by
  have hB : Below w.heap.size w ((((w.alloc (.cells #[.bool e.s, .slice e.p e.n e.c] 97)).alloc (.cells #[.bool f.s, .slice f.p f.n f.c] 26)).alloc (.cells #[.bool g.s, .slice g.p g.n g.c] 26)).alloc (.cells #[.bool false, .slice none 0 0] 26)) := bel_al (bel_al (bel_al (bel_al (Below.refl _ _))))
  have hR : Bx ((((w.alloc (.cells #[.bool e.s, .slice e.p e.n e.c] 97)).alloc (.cells #[.bool f.s, .slice f.p f.n f.c] 26)).alloc (.cells #[.bool g.s, .slice g.p g.n g.c] 26)).alloc (.cells #[.bool false, .slice none 0 0] 26)) (w.heap.size + 1 + 1 + 1) (.bool false) (.slice none 0 0) := Bx.new _ _ _ (by simp)
  go_enter Tryz.func83, Tryz.ntmps83
  go_wp2_with fail
  generalize ((((w.alloc (.cells #[.bool e.s, .slice e.p e.n e.c] 97)).alloc (.cells #[.bool f.s, .slice f.p f.n f.c] 26)).alloc (.cells #[.bool g.s, .slice g.p g.n g.c] 26)).alloc (.cells #[.bool false, .slice none 0 0] 26)) = W at *
  refine (Add_ev (hv.below hB) (hc.below hB)).mono ?_
  rintro r w1 ⟨u, rfl, hu, hb⟩
  have hlt : w.heap.size + 1 + 1 + 1 < W.heap.size := block_lt_of_cell hR.c0
  obtain ⟨r0, r1, f0, f1⟩ := hR.later hb
  go_wp2
  refine bodyPost_ret (v := .agg #[.bool u.s, .slice u.p u.n u.c]) (by simp [results, Tryz.results83, go_sem, r0, r1]) rfl ⟨u, rfl, ?_, bset2 (bnext' hB hb) (by omega) _ _⟩
  exact (hu.set2 (o := 0) hlt _ _).mono hB.size
/-- Horner's variable behind some rounds. -/
structure HV1 (w wr : World) (T : Nat) (z : Int) (u : Ent) : Prop where
  b : Bx wr (w.heap.size + 1 + 1) (.bool u.s) (.slice u.p u.n u.c)
  v : NV (w.heap.size + 1 + 1 + 1) wr T z u
  rb : Bx wr (w.heap.size + 1) (.bool false) (.slice none 0 0)
  bw : Below w.heap.size w wr
set_option maxHeartbeats 4000000 in
set_option maxRecDepth 100000 in
theorem hornerI_any {w : World} {K L : Nat} {p : Option Addr} {n nc : Nat} {es : List Ent} {zs : List Int} {x : Int} {e : Ent} (h : PA w K p n nc es zs) (hx : EV w L x e) (hn : n ≤ 1000) (hL : L ≤ 500) (hK : K + n * (L + 1) < 80) :
    Calls Tryz.prog 81 #[.slice p n nc, .agg #[.bool false, .slice none 0 0], .func (.func 82) #[.agg #[.bool e.s, .slice e.p e.n e.c]] #[], .func (.func 83) #[.agg #[.bool e.s, .slice e.p e.n e.c]] #[]] w fun r w' => ∃ u : Ent, r = .returned (.agg #[.bool u.s, .slice u.p u.n u.c]) ∧ NV w.heap.size w' (K + n * (L + 1)) (evz x zs) u ∧ Below w.heap.size w w' := by
  have HX : Hid (PA w K p n nc es zs ∧ EV w L x e ∧ (∀ i, i ≤ n → ((evz x (zs.drop i)).natAbs : Int) < pw (K + n * (L + 1)))) := by
    refine ⟨h, hx, fun i hi => ?_⟩
    have h1 := evz_lt (K := K) hx.bd (zs.drop i) (fun j => by rw [gx_drop]; exact h.gbd _)
    refine Int.lt_of_lt_of_le h1 (pw_mono ?_)
    have h2 : (zs.drop i).length ≤ n := by rw [List.length_drop, h.zl]; omega
    have := Nat.mul_le_mul_right (L + 1) h2
    omega
  have hel := h.el
  have hzl := h.zl
  have HK : Hid (K + n * (L + 1) < 80) := hK
  clear h hx
  generalize hT : K + n * (L + 1) = T at *
  clear hT
  go_enter Tryz.func81, Tryz.ntmps81
  go_wp2_with fail
  have HC : Hid (HV1 w (((w.alloc (.cells #[.bool false, .slice none 0 0] 26)).alloc (.cells #[.bool false, .slice none 0 0] 26)).alloc (.cells #[.bool false, .slice none 0 0] 26)) T (evz x (zs.drop n)) ez) := by
    rw [List.drop_eq_nil_of_le (by omega)]
    exact ⟨Bx.new _ _ _ (by simp), NV.ez _ _ _, (Bx.new _ _ _ (by simp)).later (bel_al (Below.refl _ _)), bel_al (bel_al (bel_al (Below.refl _ _)))⟩
  generalize (((w.alloc (.cells #[.bool false, .slice none 0 0] 26)).alloc (.cells #[.bool false, .slice none 0 0] 26)).alloc (.cells #[.bool false, .slice none 0 0] 26)) = W at *
  go_loopw [10] (fun iv wr => ∃ (k : Nat) (u : Ent), k ≤ n ∧ iv = .int .i64 ((k : Int) - 1) ∧ Hid (HV1 w wr T (evz x (zs.drop k)) u)) (fun iv _ => (intOf iv + 1).toNat)
  case atStart => exact ⟨n, ez, Nat.le_refl _, by go_num, HC.out⟩
  case round =>
    clear HC
    obtain ⟨k, u, hk, rfl, H⟩ := hrel
    have hcs : Hid (k = 0 ∨ ∃ j, k = j + 1) := by cases k with | zero => exact .inl rfl | succ j => exact .inr ⟨j, rfl⟩
    rcases hcs.out with rfl | ⟨j, rfl⟩
    · have hV := H.out
      rw [List.drop_zero] at hV
      obtain ⟨q0, q1, -, -⟩ := id hV.b
      obtain ⟨r0, r1, f0, f1⟩ := id hV.rb
      have HV : Hid (HV1 w wr T (evz x zs) u) := hV
      clear H hV hcs
      go_wp2
      refine bodyPost_ret (v := .agg #[.bool u.s, .slice u.p u.n u.c]) (by simp [results, Tryz.results81, go_sem, r0, r1]) rfl ⟨u, rfl, ?_, ?_⟩
      · exact (HV.out.v.set2 (o := 0) (by omega) _ _).mono (by omega)
      · exact bset2 HV.out.bw (by omega) _ _
    · have hV := H.out
      have hP := HX.out.1.below hV.bw
      obtain ⟨b, o, hp, hc⟩ := hP.pl (by omega)
      subst hp
      obtain ⟨c0, c1⟩ := hc j (by omega)
      have he := hP.ev j (by omega)
      have hxe := HX.out.2.1.below hV.bw
      obtain ⟨q0, q1, -, -⟩ := id hV.b
      have i0 : ((j + 1 : Nat) : Int) - 1 = (j : Int) := by omega
      have i1 : (j : Int) < (n : Int) := by omega
      have i2 : (0 : Int) ≤ (j : Int) := by omega
      have HV : Hid (HV1 w wr T (evz x (zs.drop (j + 1))) u) := hV
      have hlt : w.heap.size + 1 + 1 < wr.heap.size := block_lt_of_cell q0
      rw [i0]
      clear hV hP hc hcs H
      go_upto_region 5 with fail
      go_region_with (first
        | (go_at_call 82; go_fit (wtimes_any (hxe.below (Below.refl _ _).drew) ((HV.out.v.ev (by have := HK.out; omega)).below (Below.refl _ _).drew) (by have := HK.out; omega)); rintro r v1 ⟨u1, rfl, hN1, hb1⟩; have hB1 := undrew hb1; have d0 := cell_later hB1 c0; have d1 := cell_later hB1 c1)
        | (go_at_call 83; go_fit (wplus_any (e := e) (hN1.ev (by have := HK.out; omega)) (he.below hB1)); rintro r v2 ⟨u2, rfl, hN2, hb2⟩; have hB2 := bnext' hB1 hb2; obtain ⟨z0, z1, f0, f1⟩ := HV.out.b.later hB2))
      all_goals
        have hnx : HV1 w ((v2.setCell ⟨w.heap.size + 1 + 1, 0, none⟩ (.bool u2.s)).setCell ⟨w.heap.size + 1 + 1, 1, none⟩ (.slice u2.p u2.n u2.c)) T (evz x (zs.drop j)) u2 := by
          rw [← evz_drop x zs j (by omega)] at hN2
          have hN3 := hN2.fit (HX.out.2.2 j (by omega))
          have hs := hB1.size
          exact ⟨Bx_set (HV.out.b.later hB2), (hN3.mono (by omega)).set2 (o := 0) (by omega) _ _, Bx_oth (HV.out.rb.later hB2) (by omega), bset2 (bnext' HV.out.bw hB2) (by omega) _ _⟩
        have HN := (show Hid _ from hnx)
        clear hnx hN1 hN2 c0 c1 q0 q1 z0 z1 f0 f1 HV d0 d1 he hxe
        go_wp2
        refine ⟨⟨j, u2, by omega, by go_num, HN.out⟩, by simp [intOf]⟩
end Go.Proofs.YtgecfnoecmjacaaGreatDoor
/-
  upoly.Eval.
-/
namespace Go.Proofs.YtgecfnoecmjacaaGreatDoor
open Go.RowKit
set_option linter.unusedVariables false
set_option linter.unusedSimpArgs false

set_option maxHeartbeats 4000000 in
set_option maxRecDepth 100000 in
/-- upoly.Eval. -/
theorem uEval_any {w : World} {K L : Nat} {p : Option Addr} {n nc : Nat} {es : List Ent} {zs : List Int} {x : Int} {e : Ent} (h : PA w K p n nc es zs) (hx : EV w L x e) (hn : n ≤ 1000) (hL : L ≤ 500) (hK : K + tlen zs * (L + 1) < 80) :
    Calls Tryz.prog 37 #[.slice p n nc, .agg #[.bool e.s, .slice e.p e.n e.c]] w fun r w' => ∃ u : Ent, r = .returned (.agg #[.bool u.s, .slice u.p u.n u.c]) ∧ NV w.heap.size w' (K + tlen zs * (L + 1)) (evz x (tr zs)) u ∧ Below w.heap.size w w' := by
  have HX : Hid (PA w K p n nc es zs ∧ EV w L x e ∧ K + tlen zs * (L + 1) < 80) := ⟨h, hx, hK⟩
  clear h hx hK
  go_enter Tryz.func37, Tryz.ntmps37
  go_wp2_with fail
  have hal := bel_al (o := .cells #[.bool false, .slice none 0 0] 26) (bel_al (o := .cells #[.bool e.s, .slice e.p e.n e.c] 26) (Below.refl w.heap.size w))
  have hR : Bx ((w.alloc (.cells #[.bool e.s, .slice e.p e.n e.c] 26)).alloc (.cells #[.bool false, .slice none 0 0] 26)) (w.heap.size + 1) (.bool false) (.slice none 0 0) := Bx.new _ _ _ (by simp)
  generalize (w.alloc (.cells #[.bool e.s, .slice e.p e.n e.c] 26)).alloc (.cells #[.bool false, .slice none 0 0] 26) = W at *
  refine (bare_any (HX.out.2.1.below hal) (by omega)).mono ?_
  rintro r w1 ⟨f, rfl, hf1, hf2, hf3, hb1⟩
  have HF : Hid (EV w1 L x f) := hf3.ev
  have hR1 := hR.later hb1
  have hB1 := bnext' hal hb1
  clear hal hb1 hR hf1 hf2 hf3
  go_wp2_with fail
  have hal2 := bel_al (o := .cells #[.bool f.s, .slice f.p f.n f.c] 97) (Below.refl w1.heap.size w1)
  have hbx : Bx (w1.alloc (.cells #[.bool f.s, .slice f.p f.n f.c] 97)) w1.heap.size (.bool f.s) (.slice f.p f.n f.c) := Bx.new _ _ _ rfl
  have hR2 := hR1.later hal2
  have hB2 := bnext' hB1 hal2
  have hF2 := HF.out.below hal2
  have hg1 : w.heap.size + 1 < w1.heap.size := block_lt_of_cell hR1.c0
  clear hal2 hR1 hB1 HF
  generalize w1.alloc (.cells #[.bool f.s, .slice f.p f.n f.c] 97) = W2 at *
  generalize w1.heap.size = g at *
  have hg2 : ¬ g = w.heap.size + 1 := by omega
  have hg3 : ¬ w.heap.size + 1 = g := by omega
  obtain ⟨k0, k1, -, -⟩ := id hbx
  obtain ⟨r0, r1, f0, f1⟩ := id hR2
  have hpa := HX.out.1.below hB2
  have htl := tlen_le zs
  have hzl := HX.out.1.zl
  have hlt : w.heap.size + 1 < W2.heap.size := block_lt_of_cell r0
  go_region_held3 (fun w' => w'.cell? ⟨g, 0, none⟩ = some (.bool f.s) ∧ w'.cell? ⟨g, 1, none⟩ = some (.slice f.p f.n f.c)) (first | with_reducible exact ⟨k0, k1⟩ | with_reducible exact ⟨a0, a1⟩ | with_reducible exact ⟨b0, b1⟩ | (simp [go_sem, *]; done)) (first
    | (go_at_call 64; go_fit (read_any K p n nc es zs _ (hpa.below (Below.refl _ _).drew) (by omega) (by have := HX.out.2.2; omega)); rintro r v1 ⟨p1, n1, e1, rfl, hP1, hb1⟩; have hB3 := undrew hb1; have a0 := cell_later hB3 k0; have a1 := cell_later hB3 k1; have hn1 := hP1.zl)
    | (go_at_call 81; go_fit (hornerI_any (hP1.pa (by rw [length_tr] at hn1; omega)) (hF2.below hB3) (by rw [length_tr] at hn1; omega) hL (by rw [← hn1, length_tr]; exact HX.out.2.2)); rintro r v2 ⟨u, rfl, hu, hb2⟩; obtain ⟨z0, z1, y0, y1⟩ := (hR2.later hB3).later hb2; have b0 := cell_later hb2 a0; have b1 := cell_later hb2 a1))
  all_goals
    rw [← hn1, length_tr] at hu
    have hs := hB3.size
    have hs2 := hB2.size
    go_wp2
    refine bodyPost_ret (v := .agg #[.bool u.s, .slice u.p u.n u.c]) (by simp [results, Tryz.results37, go_sem, z0, z1]) rfl ⟨u, rfl, ?_, ?_⟩
    · exact (hu.set2 (o := 0) (by omega) _ _).mono (by omega)
    · exact bset2 (bnext' (bnext' hB2 hB3) hb2) (by omega) _ _
end Go.Proofs.YtgecfnoecmjacaaGreatDoor
/-
  Plain facts on rationals: lowest terms.
-/
namespace Go.Proofs.YtgecfnoecmjacaaGreatDoor
open Go.RowKit
set_option linter.unusedVariables false
set_option linter.unusedSimpArgs false

theorem rat_low (a b : Int) (hb : b ≠ 0) : ∃ g : Int, g = (if b < 0 then -(Int.gcd a b : Int) else (Int.gcd a b : Int)) ∧ g ≠ 0 ∧ a = (Rat.divInt a b).num * g ∧ b = (Rat.divInt a b).den * g := by
  refine ⟨_, rfl, ?_, ?_, ?_⟩
  · have : Int.gcd a b ≠ 0 := by intro h; rw [Int.gcd_eq_zero_iff] at h; exact hb h.2
    split <;> omega
  · rw [Rat.num_divInt, Int.gcd_comm b a]
    have hd : ((Int.gcd a b : Nat) : Int) ∣ a := Int.gcd_dvd_left ..
    have h1 : b.sign * a / (Int.gcd a b : Int) * (Int.gcd a b : Int) = b.sign * a := Int.ediv_mul_cancel (Int.dvd_trans hd (Int.dvd_mul_left ..))
    split
    · rename_i h
      rw [Int.mul_neg, h1, Int.sign_eq_neg_one_of_neg h]
      omega
    · rename_i h
      rw [h1, Int.sign_eq_one_of_pos (by omega)]
      omega
  · rw [Rat.den_divInt, if_neg hb, Int.gcd_comm b a]
    have hd : Int.gcd a b ∣ b.natAbs := Int.natAbs_dvd_natAbs.2 (Int.gcd_dvd_right a b)
    have h1 : (b.natAbs / Int.gcd a b) * Int.gcd a b = b.natAbs := Nat.div_mul_cancel hd
    have h2 : ((b.natAbs / Int.gcd a b : Nat) : Int) * (Int.gcd a b : Int) = (b.natAbs : Int) := by exact_mod_cast h1
    split
    · rw [Int.mul_neg, h2]; omega
    · rw [h2]; omega
theorem rat_num_le (a b : Int) : (Rat.divInt a b).num.natAbs ≤ a.natAbs := by
  by_cases hb : b = 0
  · subst hb; simp
  · obtain ⟨g, -, hg, h1, h2⟩ := rat_low a b hb
    have := congrArg Int.natAbs h1
    rw [Int.natAbs_mul] at this
    rw [this]
    exact Nat.le_mul_of_pos_right _ (by omega)
theorem rat_den_le (a b : Int) (hb : b ≠ 0) : (Rat.divInt a b).den ≤ b.natAbs := by
    obtain ⟨g, -, hg, h1, h2⟩ := rat_low a b hb
    have := congrArg Int.natAbs h2
    rw [Int.natAbs_mul] at this
    rw [this]
    exact Nat.le_mul_of_pos_right _ (by omega)
/-- Euclid's division has one answer. -/
theorem ediv_one (a q g r : Int) (n : Int) (h : a = q * g + r) (h0 : 0 ≤ r) (h1 : r < g.natAbs) (hn : a = n * g) : q = n ∧ r = 0 := by
  have hg : g ≠ 0 := by omega
  have h2 : (n - q) * g = r := by rw [Int.sub_mul]; omega
  by_cases h3 : n - q = 0
  · rw [h3] at h2
    omega
  · exfalso
    have h4 := congrArg Int.natAbs h2
    rw [Int.natAbs_mul] at h4
    have h5 : g.natAbs ≤ (n - q).natAbs * g.natAbs := Nat.le_mul_of_pos_left _ (by omega)
    omega
end Go.Proofs.YtgecfnoecmjacaaGreatDoor
