/-
  ore.Degree, Bits, Eq.
-/
import Derived.Test.YtcdfckjlmifjiaaBnBoBsBrVvJpRzCwVkJoBp
import Derived.Test.YtcdfckjlmifjiaaRmRpDkDlDbRiRjRgRkUiVqDcUjLeUkWiWjUl
import Derived.Deep.DeepFit
import Derived.Test.YtcdfckjlmifjiaaAbDnDoAc
import Derived.Test.YtcdfckjlmifjiaaLnWrIbWgUeUfUg
import Derived.Test.YtcdfckjlmifjiaaUmVsUoDmVtAf
import Derived.Test.YtcdfckjlmifjiaaAaWhNjUb
import Derived.Test.YtcdfckjlmifjiaaRrRwVaRo
import Derived.Test.YtcdfckjlmifjiaaUcUdRaWmBe
namespace Go.Proofs.Ytcdfckjlmifjiaa
open Go.RowKit
set_option linter.unusedVariables false
set_option linter.unusedSimpArgs false

theorem odeg_bd {E : Nat} (zss : List (List Int)) (h : ∀ j, (gt zss j).length ≤ E) : ∀ j, j ≤ zss.length → -1 ≤ odeg (zss.take j) ∧ odeg (zss.take j) ≤ E := by
  intro j
  induction j with
  | zero => intro _; simp [odeg]
  | succ j ih =>
    intro hj
    have h1 := ih (by omega)
    have h2 := h j
    have h3 := tlen_le (gt zss j)
    rw [odeg_take zss j (by omega)]
    omega
theorem obit_bd {E : Nat} (zss : List (List Int)) (h : ∀ j, j < zss.length → pb (gt zss j) ≤ E) : ∀ j, j ≤ zss.length → obit (zss.take j) ≤ E := by
  intro j
  induction j with
  | zero => intro _; simp [obit]
  | succ j ih =>
    intro hj
    have h1 := ih (by omega)
    have h2 := h j (by omega)
    rw [obit_take zss j (by omega)]
    omega
set_option maxHeartbeats 2000000 in
set_option maxRecDepth 100000 in
/-- ore.Degree. -/
theorem oDegree_any {w : World} {B T K E D : Nat} {zss : List (List Int)} {h : Hdr} (H : HR D (EZ K E) w B T zss h) (hT : T ≤ w.heap.size) (hD : D ≤ 1000000) (hE : E ≤ 1000000) :
    Calls Try.prog 31 #[.slice h.p h.n h.c] w fun e w' => e = .returned (.int .i64 (odeg zss)) ∧ Below w.heap.size w w' := by
  have hlen := hr_len H
  have HBD := (show Hid _ from odeg_bd zss hlen)
  obtain ⟨hs, k⟩ := H
  have HX : Hid (HRow D (EZ K E) w B T zss h hs ∧ T ≤ w.heap.size) := ⟨k, hT⟩
  have hn : h.n ≤ D := k.few
  have HL : Hid (zss.length = h.n) := k.tl
  obtain ⟨p, n, nc⟩ := h
  simp only at hn HL ⊢
  clear k hT hlen
  go_enter Try.func31, Try.ntmps31
  go_wp2_with fail
  go_loopw [3, 8] (fun mv kv wr => ∃ i : Nat, i ≤ n ∧ mv = .int .i64 (odeg (zss.take i)) ∧ kv = .int .i64 i ∧ Hid (Below w.heap.size w wr)) (fun _ kv _ => n - (intOf kv).toNat)
  case atStart => exact ⟨0, Nat.zero_le _, by simp [odeg], by go_num, Below.refl _ _⟩
  case round =>
    obtain ⟨i, hi, rfl, rfl, G⟩ := hrel
    rcases Nat.lt_or_ge i n with hlt | hge
    · have g4 := G.out
      obtain ⟨b, o, hp, hc⟩ := HX.out.1.hl (by rw [HX.out.1.el]; show 0 < n; omega)
      simp only at hp
      subst hp
      have c0 := hc i (by rw [HX.out.1.el]; exact hlt)
      have c1 : wr.cell? ⟨b, o + i, none⟩ = some (gh hs i).val := cell_later' g4 c0
      have hE2 := (lasts_EZ K E).below (HX.out.1.ev i hlt) HX.out.2 g4
      generalize gh hs i = hd at c1 hE2
      obtain ⟨p2, n2, nc2⟩ := hd
      simp only [Hdr.val] at c1
      obtain ⟨es2, hP2, hd3, -, -⟩ := hE2
      simp only at hP2 hd3
      have i1 : (i : Int) < (n : Int) := by omega
      have hcall := uDeg_any K p2 n2 nc2 es2 (gt zss i) wr hP2 (by omega)
      have HT : Hid (odeg (zss.take (i + 1)) = max (odeg (zss.take i)) ((tlen (gt zss i) : Int) - 1)) := odeg_take zss i (by have := HL.out; omega)
      clear hc c0 hP2 g4
      go_wp2_with fail
      go_fit hcall
      rintro e w1 ⟨rfl, hb1⟩
      have HB1 : Hid (Below w.heap.size w w1) := bnext' G.out hb1
      clear c1 hcall hb1
      obtain ⟨M, hM⟩ : ∃ M, odeg (zss.take (i + 1)) = M := ⟨_, rfl⟩
      have HEQ := (show Hid _ from hM)
      rw [hM] at HT
      clear hM
      generalize odeg (zss.take i) = d at *
      generalize (tlen (gt zss i) : Int) - 1 = t at *
      have h4 : max d t = M := HT.out.symm
      go_wp2
      go_roundw
      case rel => exact ⟨i + 1, by omega, by rw [HEQ.out], by go_num, HB1.out⟩
      case measure => simp [intOf]; omega
    · obtain rfl : i = n := by omega
      have i1 : ¬ (i : Int) < (i : Int) := by omega
      have HZ : Hid (zss.take i = zss) := List.take_of_length_le (by have := HL.out; omega)
      go_wp2
      go_ret
      exact ⟨by rw [HZ.out]; rfl, G.out⟩
set_option maxHeartbeats 2000000 in
set_option maxRecDepth 100000 in
/-- ore.Bits. -/
theorem oBits_any {w : World} {B T K E D : Nat} {zss : List (List Int)} {h : Hdr} (H : HR D (EZ K E) w B T zss h) (hT : T ≤ w.heap.size) (hD : D ≤ 1000000) (hE : E ≤ 1000000) (hK : K ≤ 1000) :
    Calls Try.prog 32 #[.slice h.p h.n h.c] w fun e w' => e = .returned (.int .i64 (obit zss)) ∧ Below w.heap.size w w' := by
  obtain ⟨hs, k⟩ := H
  have HX : Hid (HRow D (EZ K E) w B T zss h hs ∧ T ≤ w.heap.size) := ⟨k, hT⟩
  have hn : h.n ≤ D := k.few
  have HL : Hid (zss.length = h.n) := k.tl
  obtain ⟨p, n, nc⟩ := h
  simp only at hn HL ⊢
  clear k hT
  go_enter Try.func32, Try.ntmps32
  go_wp2_with fail
  go_loopw [3, 8] (fun mv kv wr => ∃ i : Nat, i ≤ n ∧ mv = .int .i64 (obit (zss.take i)) ∧ kv = .int .i64 i ∧ Hid (Below w.heap.size w wr)) (fun _ kv _ => n - (intOf kv).toNat)
  case atStart => exact ⟨0, Nat.zero_le _, by simp [obit], by go_num, Below.refl _ _⟩
  case round =>
    obtain ⟨i, hi, rfl, rfl, G⟩ := hrel
    rcases Nat.lt_or_ge i n with hlt | hge
    · have g4 := G.out
      obtain ⟨b, o, hp, hc⟩ := HX.out.1.hl (by rw [HX.out.1.el]; show 0 < n; omega)
      simp only at hp
      subst hp
      have c0 := hc i (by rw [HX.out.1.el]; exact hlt)
      have c1 : wr.cell? ⟨b, o + i, none⟩ = some (gh hs i).val := cell_later' g4 c0
      have hE2 := (lasts_EZ K E).below (HX.out.1.ev i hlt) HX.out.2 g4
      generalize gh hs i = hd at c1 hE2
      obtain ⟨p2, n2, nc2⟩ := hd
      simp only [Hdr.val] at c1
      obtain ⟨es2, hP2, hd3, -, -⟩ := hE2
      simp only at hP2 hd3
      have i1 : (i : Int) < (n : Int) := by omega
      have hcall := uBits_any hP2 (by omega) hK
      have HT : Hid (obit (zss.take (i + 1)) = max (obit (zss.take i)) (pb (gt zss i))) := obit_take zss i (by have := HL.out; omega)
      clear hc c0 hP2 g4
      go_wp2_with fail
      go_fit hcall
      rintro e w1 ⟨rfl, -, hb1⟩
      have HB1 : Hid (Below w.heap.size w w1) := bnext' G.out hb1
      clear c1 hcall hb1
      obtain ⟨M, hM⟩ : ∃ M, obit (zss.take (i + 1)) = M := ⟨_, rfl⟩
      have HEQ := (show Hid _ from hM)
      rw [hM] at HT
      clear hM
      generalize obit (zss.take i) = d at *
      generalize pb (gt zss i) = t at *
      have h4 : max (d : Int) (t : Int) = (M : Int) := by have := HT.out; omega
      go_wp2
      go_roundw
      case rel => exact ⟨i + 1, by omega, by rw [HEQ.out], by go_num, HB1.out⟩
      case measure => simp [intOf]; omega
    · obtain rfl : i = n := by omega
      have i1 : ¬ (i : Int) < (i : Int) := by omega
      have HZ : Hid (zss.take i = zss) := List.take_of_length_le (by have := HL.out; omega)
      go_wp2
      go_ret
      exact ⟨by rw [HZ.out]; rfl, G.out⟩
end Go.Proofs.Ytcdfckjlmifjiaa
/-
  ore.entry, combine, Add, Sub.
-/
namespace Go.Proofs.Ytcdfckjlmifjiaa
open Go.RowKit
set_option linter.unusedVariables false
set_option linter.unusedSimpArgs false

theorem ez_nil (K E : Nat) (w : World) (B T : Nat) : EZ K E w B T [] ⟨none, 0, 0⟩ :=
  ⟨[], ⟨rfl, rfl, Nat.le_refl _, Nat.zero_le _, fun _ => rfl, PL.nil, fun j hj => absurd hj (Nat.not_lt_zero j)⟩, Nat.zero_le _, nofun, fun j hj => absurd hj (Nat.not_lt_zero j)⟩
theorem tr_cut (zss : List (List Int)) (i : Nat) : tr (gt (zss.take (olen zss)) i) = tr (gt zss i) := by
  rcases Nat.lt_or_ge i (olen zss) with h | h
  · rw [gt_take _ _ _ h]
  · rw [gt_over0 _ _ (by have := olen_le zss; simp; omega)]
    have h1 := olen_zero zss i h
    rw [tr, tr, h1]
    simp
theorem pzlen (f : Int → Int → Int) (a b : List Int) (E : Nat) (ha : a.length ≤ E) (hb : b.length ≤ E) : (tr (pz f (tr a) (tr b))).length ≤ E := by
  rw [length_tr]
  refine Nat.le_trans (tlen_le _) ?_
  have h1 := length_tr a
  have h2 := length_tr b
  have h3 := tlen_le a
  have h4 := tlen_le b
  simp only [pz, List.length_map, List.length_range]
  omega
/-- Two operators, entry by entry. -/
def opz (f : Int → Int → Int) (a b : List (List Int)) : List (List Int) := (List.range (max (olen a) (olen b))).map fun i => tr (pz f (tr (gt a i)) (tr (gt b i)))
end Go.Proofs.Ytcdfckjlmifjiaa
/-
  Sizes of small polynomials; upoly.Mul where one is zero (out of Ou, Oy, Pv).
-/
namespace Go.Proofs.Ytcdfckjlmifjiaa
open Go.RowKit
set_option linter.unusedVariables false
set_option linter.unusedSimpArgs false

theorem cnt_len (zs : List Int) : cnt zs ≤ zs.length := by
  have key : ∀ j, j ≤ zs.length → cnt (zs.take j) ≤ j := by
    intro j
    induction j with
    | zero => intro _; simp [cnt]
    | succ j ih =>
      intro hj
      have := ih (by omega)
      rw [cnt_take zs j (by omega)]
      split <;> omega
  have := key zs.length (Nat.le_refl _)
  rwa [List.take_length] at this
theorem sl_len (zs : List Int) (h : ∀ j, j < zs.length → zb (gx zs j) ≤ 32) : sl zs ≤ zs.length := by
  have key : ∀ j, j ≤ zs.length → sl (zs.take j) ≤ j := by
    intro j
    induction j with
    | zero => intro _; simp [sl]
    | succ j ih =>
      intro hj
      have h1 := ih (by omega)
      have h2 := h j (by omega)
      rw [sl_take zs j (by omega)]
      unfold zl
      omega
  have := key zs.length (Nat.le_refl _)
  rwa [List.take_length] at this
theorem zb_pb (zs : List Int) (j : Nat) (h : j < zs.length) : zb (gx zs j) ≤ pb zs := by
  have h1 : ∀ k, j < k → k ≤ zs.length → zb (gx zs j) ≤ pb (zs.take k) := by
    intro k
    induction k with
    | zero => intro h; omega
    | succ k ih =>
      intro h1 h2
      rw [pb_take zs k (by omega)]
      rcases Nat.lt_or_ge j k with h3 | h3
      · have := ih h3 (by omega)
        omega
      · have : k = j := by omega
        subst this
        omega
  have := h1 zs.length h (Nat.le_refl _)
  rwa [List.take_length] at this
theorem sl_lenk (K : Nat) (zs : List Int) (h : ∀ j, j < zs.length → zb (gx zs j) ≤ 32 * K) : sl zs ≤ K * zs.length := by
  have key : ∀ j, j ≤ zs.length → sl (zs.take j) ≤ K * j := by
    intro j
    induction j with
    | zero => intro _; simp [sl]
    | succ j ih =>
      intro hj
      have h1 := ih (by omega)
      have h2 := h j (by omega)
      rw [sl_take zs j (by omega), Nat.mul_succ]
      unfold zl
      omega
  have := key zs.length (Nat.le_refl _)
  rwa [List.take_length] at this
theorem bitLen_four (n : Nat) (h : n ≤ 4) : Lib.bitLen n ≤ 3 := by
  have : n = 0 ∨ n = 1 ∨ n = 2 ∨ n = 3 ∨ n = 4 := by omega
  rcases this with rfl | rfl | rfl | rfl | rfl <;> decide
theorem four_cost {a b c d s t wd f : Nat} (ha : a ≤ 4) (hb : b ≤ 4) (hc : c ≤ a) (hd : d ≤ b) (hs : s ≤ f * a) (ht : t ≤ f * b) (hw : f ≤ wd) : s * t + 80 * c * d ≤ wd * a * wd * b + 160 * (a + b) := by
  have h1 : s * t ≤ (f * a) * (f * b) := Nat.mul_le_mul hs ht
  have h2 : c * d ≤ a * b := Nat.mul_le_mul hc hd
  have h3 : 80 * c * d = 80 * (c * d) := Nat.mul_assoc 80 c d
  have h4 : (f * a) * (f * b) ≤ wd * a * wd * b := by
    rw [Nat.mul_assoc (wd * a)]
    exact Nat.mul_le_mul (Nat.mul_le_mul hw (Nat.le_refl _)) (Nat.mul_le_mul hw (Nat.le_refl _))
  have h5 : a * b ≤ 2 * (a + b) := by
    have ha' : a = 0 ∨ a = 1 ∨ a = 2 ∨ a = 3 ∨ a = 4 := by omega
    rcases ha' with rfl | rfl | rfl | rfl | rfl <;> omega
  omega
end Go.Proofs.Ytcdfckjlmifjiaa
/-
  ore.Scale, Order, Degree, Bits, Lead.
-/
namespace Go.Proofs.Ytcdfckjlmifjiaa
open Go.RowKit
set_option linter.unusedVariables false
set_option linter.unusedSimpArgs false

theorem mulp_le7 (zs ys : List Int) (h : zs.length ≤ 4) (k : ys.length ≤ 4) : (mulp (tr zs) (tr ys)).length ≤ 7 := by
  have h1 := tlen_le zs
  have h2 := tlen_le ys
  unfold mulp
  rw [length_tr, length_tr]
  split
  · simp
  · rw [length_mulz, length_tr, length_tr]; omega
end Go.Proofs.Ytcdfckjlmifjiaa
/-
  limbs.Cmp.
-/
namespace Go.Proofs.Ytcdfckjlmifjiaa
open Go.RowKit
set_option linter.unusedVariables false
set_option linter.unusedSimpArgs false

end Go.Proofs.Ytcdfckjlmifjiaa
/-
  upoly.Eq.
-/
namespace Go.Proofs.Ytcdfckjlmifjiaa
open Go.RowKit
set_option linter.unusedVariables false
set_option linter.unusedSimpArgs false

theorem icmp_dec (x y : Int) : (icmp x y == 0) = decide (x = y) := by
  unfold icmp
  rcases Int.lt_trichotomy x y with h | h | h
  · rw [if_pos h]; simp; omega
  · subst h; simp
  · rw [if_neg (by omega), if_pos h]; simp; omega
end Go.Proofs.Ytcdfckjlmifjiaa
/-
  ore.Eq.
-/
namespace Go.Proofs.Ytcdfckjlmifjiaa
open Go.RowKit
set_option linter.unusedVariables false
set_option linter.unusedSimpArgs false

theorem map_tr_eq {a b : List (List Int)} (hl : a.length = b.length) (h : ∀ j, j < a.length → tr (gt a j) = tr (gt b j)) : a.map tr = b.map tr := by
  apply List.ext_getElem
  · simp [hl]
  · intro i h1 h2
    have h3 : i < a.length := by simpa using h1
    have h4 : i < b.length := by simpa using h2
    have h5 := h i h3
    simp [gt, h3, h4] at h5
    simp [h5]
theorem gt_tr_eq {a b : List (List Int)} (h : a.map tr = b.map tr) (j : Nat) (hj : j < a.length) : tr (gt a j) = tr (gt b j) := by
  have hl : a.length = b.length := by have := congrArg List.length h; simpa using this
  have h1 : (a.map tr)[j]? = (b.map tr)[j]? := by rw [h]
  simp [hj, show j < b.length by omega] at h1
  simp [gt, hj, show j < b.length by omega, h1]
end Go.Proofs.Ytcdfckjlmifjiaa
/-
  ashlarref3.Is of an answer that is right.
-/
namespace Go.Proofs.Ytcdfckjlmifjiaa
open Go.RowKit
set_option linter.unusedVariables false
set_option linter.unusedSimpArgs false

theorem NV.drew {B : Nat} {w : World} {K : Nat} {z : Int} {e : Ent} (h : NV B w K z e) : NV B w.drew K z e := by
  obtain ⟨xs, h1, h2⟩ := h
  exact ⟨xs, h1.drew, h2⟩
end Go.Proofs.Ytcdfckjlmifjiaa
/-
  ashlarref1.Bits, and that it is limbs.Bits' number.
-/
namespace Go.Proofs.Ytcdfckjlmifjiaa
open Go.RowKit
set_option linter.unusedVariables false
set_option linter.unusedSimpArgs false

set_option maxHeartbeats 1000000 in
/-- ashlarref1.Bits. -/
theorem rBits_any (s : Bool) (p : Option Addr) (n nc : Nat) (ds : List Int) (w : World) (hl : ds.length = n) (hs : n ≤ 1000000) (ht : tlen ds = n) (hX : Rd w p .i64 ds) (hU : U16 ds) :
    Calls Try.prog 38 #[.agg #[.bool s, .slice p n nc]] w fun e w' => ∃ b : Nat, e = .returned (.int .i64 (b : Int)) ∧ Hid (IB b (vd ds)) ∧ Below w.heap.size w w' := by
  rcases Nat.eq_zero_or_pos n with h0 | h0
  · subst h0
    obtain rfl : ds = [] := List.eq_nil_of_length_eq_zero hl
    go_enter Try.func38, Try.ntmps38
    go_wp2
    go_ret
    exact ⟨0, rfl, ⟨by decide, by decide, .inl rfl⟩, (Below.refl _ _).alloc (Nat.le_refl _) _⟩
  · obtain ⟨j, rfl⟩ : ∃ j, n = j + 1 := ⟨n - 1, by omega⟩
    have HL : Hid (ds.length = j + 1 ∧ tlen ds = j + 1) := ⟨hl, ht⟩
    obtain ⟨b, off, rfl, hc⟩ := (hX.alloc (.cells #[.bool s, .slice p (j + 1) nc] 40)) (by omega)
    have hcj := hc j (by omega)
    obtain ⟨b0, b1⟩ := hU j
    clear hc hl ht
    have hz : (((j + 1 : Nat) : Int) == 0) = false := beq_eq_false_iff_ne.2 (by omega)
    have hz' : ((j : Int) + 1 == 0) = false := beq_eq_false_iff_ne.2 (by omega)
    go_enter Try.func38, Try.ntmps38
    go_wp2
    go_loop [4, 5] (fun kv tv => ∃ (k : Nat) (t : Int), kv = .int .i64 k ∧ tv = .int .i64 t ∧ 0 ≤ t ∧ t < 65536 ∧ k ≤ 16 ∧ Hid (t = gx ds j / 2 ^ k ∧ (k = 0 ∨ (2 : Int) ^ (k - 1) ≤ gx ds j))) (fun _ tv => (intOf tv).toNat)
    case atStart => exact ⟨0, gx ds j, rfl, rfl, b0, b1, by decide, by simp, .inl rfl⟩
    case round =>
      obtain ⟨k, t, rfl, rfl, t0, t1, hk, H⟩ := hrel
      have hp : (0 : Int) < 2 ^ k := Int.pow_pos (by decide)
      have hdm := Int.emod_add_mul_ediv (gx ds j) (2 ^ k)
      have hm0 := Int.emod_nonneg (gx ds j) (show (2 : Int) ^ k ≠ 0 by omega)
      have hm1 := Int.emod_lt_of_pos (gx ds j) hp
      have HD : Hid (gx ds j % 2 ^ k + 2 ^ k * (gx ds j / 2 ^ k) = gx ds j ∧ 0 ≤ gx ds j % 2 ^ k ∧ gx ds j % 2 ^ k < 2 ^ k ∧ (0 : Int) < 2 ^ k) := ⟨hdm, hm0, hm1, hp⟩
      clear hp hdm hm0 hm1
      by_cases ht : 0 < t
      · have q1 : t.tdiv 2 = t / 2 := Int.tdiv_eq_ediv_of_nonneg t0
        have hge : Hid ((2 : Int) ^ k ≤ gx ds j) := by
          obtain ⟨e1, e2, e3, e4⟩ := HD.out
          have e5 := H.out.1
          have : (2 : Int) ^ k * 1 ≤ 2 ^ k * (gx ds j / 2 ^ k) := Int.mul_le_mul_of_nonneg_left (by omega) (by omega)
          show _ ≤ _
          omega
        have hk15 : k + 1 ≤ 16 := by
          rcases Nat.lt_or_ge k 16 with h | h
          · omega
          · exfalso
            have h2 := p2_mono h
            have h3 := hge.out
            have h4 : (2 : Int) ^ 16 = 65536 := rfl
            omega
        go_wp2
        go_round
        case rel =>
          refine ⟨k + 1, t / 2, by go_num, rfl, by omega, by omega, hk15, ?_, .inr (by rw [Nat.add_sub_cancel]; exact hge.out)⟩
          rw [H.out.1, Int.ediv_ediv_of_nonneg (Int.le_of_lt HD.out.2.2.2), Int.pow_succ]
        case measure => simp [intOf]; omega
      · obtain rfl : t = 0 := by omega
        go_wp2
        go_ret
        refine ⟨16 * j + k, by go_num, ?_, (Below.refl _ _).alloc (Nat.le_refl _) _⟩
        have hL := HL.out
        have hib : IB k (gx ds (ds.length - 1)) := by
          rw [hL.1, Nat.add_sub_cancel]
          refine ⟨b0, ?_, H.out.2⟩
          obtain ⟨e1, e2, e3, e4⟩ := HD.out
          have e5 := H.out.1
          rw [← e5, Int.mul_zero] at e1
          omega
        have := digits_ib hU (by omega) (by omega) hib
        rw [hL.1, Nat.add_sub_cancel] at this
        exact this
theorem vd_val {s t : Bool} {ds xs : List Int} (h : rval s ds = ival t xs) (hd : U16 ds) (hx : U32 xs) : vd ds = val xs := by
  have h1 := vd_nonneg hd
  have h2 := val_nonneg hx
  cases s <;> cases t <;> simp [rval, ival] at h <;> omega
/-- Both tell the same. -/
theorem bits_same {xs ds : List Int} {b : Nat} (h : U32 xs) (hv : vd ds = val xs) (hb : IB b (vd ds)) : nbits xs = (b : Int) := by
  obtain ⟨c, hc, hI⟩ := nbits_ib h
  rw [hc, hb.uniq (hv ▸ hI)]
end Go.Proofs.Ytcdfckjlmifjiaa
