/-
  The reference's operators: Is, Eq, Lead, Order, Degree, Bits, Sub.
-/
import Derived.Test.YtmjokfcojilidaaGreatDoorAf
import Derived.Test.YtmjokfcojilidaaGreatDoorAiRzVdRtDhVe
import Derived.Test.YtmjokfcojilidaaGreatDoorRsVfVc
import Derived.Deep.DeepFit
import Derived.Test.YtmjokfcojilidaaGreatDoorDcUjLeUk
namespace Go.Proofs.YtmjokfcojilidaaGreatDoor
open Go.RowKit
set_option linter.unusedVariables false
set_option linter.unusedSimpArgs false

set_option maxHeartbeats 2000000 in
set_option maxRecDepth 100000 in
/-- ashlarref8.Is, of what is so. -/
theorem rIs8_any {w : World} {B B2 T2 K E N E2 D : Nat} {l : List (List Int)} {p q : Option Addr} {n m c : Nat} {hs : List Hdr} (H : NO B w K E l p n hs) (G : HR D (EY N E2) w B2 T2 l ⟨q, m, c⟩) (hT : T2 ≤ w.heap.size) (hD : D ≤ 1000) (hK : K ≤ 1000) (hN : N ≤ 1000) (hE : E ≤ 1000000) :
    Calls Tryz.prog 23 #[.slice p n n, .slice q m c] w fun r w' => r = .returned (.bool true) ∧ Below w.heap.size w w' := by
  obtain ⟨rs, k⟩ := G
  have hm : m ≤ D := k.few
  obtain rfl : m = n := by have h1 := k.tl; have h2 := H.tl; simp only at h1; omega
  have HX : Hid (NO B w K E l p m hs) := H
  have HY : Hid (HRow D (EY N E2) w B2 T2 l ⟨q, m, c⟩ rs ∧ T2 ≤ w.heap.size) := ⟨k, hT⟩
  clear H k hT
  go_enter Tryz.func23, Tryz.ntmps23
  go_wp2_with fail
  go_loopw [5] (fun iv wr => ∃ j : Nat, j ≤ m ∧ iv = .int .i64 j ∧ Hid (Below w.heap.size w wr)) (fun iv _ => m - (intOf iv).toNat)
  case atStart => exact ⟨0, Nat.zero_le _, by go_num, Below.refl _ _⟩
  case round =>
    obtain ⟨j, hj, rfl, G⟩ := hrel
    rcases Nat.lt_or_ge j m with hlt | hge
    · have g4 := G.out
      obtain ⟨b, o, hp, hc⟩ := HX.out.hl (by rw [HX.out.el]; show 0 < m; omega)
      obtain ⟨b', o', hq, hd⟩ := HY.out.1.hl (by rw [HY.out.1.el]; show 0 < m; omega)
      simp only at hp hq
      subst hp hq
      have c0 := cell_later' g4 (hc j (by rw [HX.out.el]; exact hlt))
      have d0 := cell_later' g4 (hd j (by rw [HY.out.1.el]; exact hlt))
      obtain ⟨e1, e2, es2, hN2⟩ := HX.out.ev j hlt
      have hE3 := (lasts_EY N E2).below (HY.out.1.ev j hlt) HY.out.2 g4
      have hN3 := hN2.below g4
      generalize gh hs j = hd2 at c0 hN3 e1 e2
      generalize gh rs j = hd3 at d0 hE3
      obtain ⟨p2, n2, nc2⟩ := hd2
      obtain ⟨p3, n3, nc3⟩ := hd3
      obtain ⟨es3, hP3, f1, -, -, -⟩ := hE3
      simp only [Hdr.val] at c0 d0 e1 e2 hN3 hP3 f1
      subst e1 f1
      obtain rfl : nc3 = nc2 := by rw [← hP3.zl, ← hN3.zl]
      have i1 : (j : Int) < (m : Int) := by omega
      have hcall := fun w' (hb : Below wr.heap.size wr w') => rpIs_any (hN3.below hb) (hP3.below hb) hK hN (by omega)
      clear hc hd hP3 hN2 hN3 g4
      go_wp2_with fail
      go_region_held3 (fun w' => w'.cell? ⟨b, o + j, none⟩ = some (.slice p2 nc3 nc3) ∧ w'.cell? ⟨b', o' + j, none⟩ = some (.slice p3 nc3 nc3)) (first | with_reducible exact ⟨c0, d0⟩ | with_reducible exact keepc2 ⟨c0, d0⟩ hV1 | (simp [go_sem, *]; done))
        (first
          | (go_at_call 12; go_fit (hcall _ (Below.refl _ _).drew); rintro e w1 ⟨rfl, hb1⟩; have hV1 := undrew hb1))
      have HB : Hid (Below w.heap.size w w1) := bnext' G.out hV1
      clear c0 d0 hcall hV1 hb1
      go_wp2
      go_roundw
      case rel => exact ⟨j + 1, by omega, by go_num, HB.out⟩
      case measure => simp [intOf]; omega
    · obtain rfl : j = m := by omega
      have i1 : ¬ (j : Int) < (j : Int) := by omega
      go_wp2
      go_ret
      exact ⟨rfl, G.out⟩
set_option maxHeartbeats 2000000 in
set_option maxRecDepth 100000 in
/-- ashlarref8.Eq. -/
theorem rEq8_any {w : World} {B T B2 T2 N M E D : Nat} {l r : List (List Int)} {h k : Hdr} (H : HR D (EY N E) w B T l h) (G : HR D (EY M E) w B2 T2 r k) (hT : T ≤ w.heap.size) (hT2 : T2 ≤ w.heap.size) (hD : D ≤ 1000) (hN : N ≤ 1000) (hM : M ≤ 1000) (hE : E ≤ 1000000) :
    Calls Tryz.prog 40 #[.slice h.p h.n h.c, .slice k.p k.n k.c] w fun e w' => e = .returned (.bool (decide (l = r))) ∧ Below w.heap.size w w' := by
  obtain ⟨hs, kh⟩ := H
  obtain ⟨rs, kk⟩ := G
  have HX : Hid (HRow D (EY N E) w B T l h hs ∧ T ≤ w.heap.size) := ⟨kh, hT⟩
  have HY : Hid (HRow D (EY M E) w B2 T2 r k rs ∧ T2 ≤ w.heap.size) := ⟨kk, hT2⟩
  have hn : h.n ≤ D := kh.few
  have hm0 : k.n ≤ D := kk.few
  have HL : Hid (l.length = h.n ∧ r.length = k.n) := ⟨kh.tl, kk.tl⟩
  obtain ⟨p, n, nc⟩ := h
  obtain ⟨q, m, mc⟩ := k
  simp only at hn hm0 HL ⊢
  clear kh kk hT hT2
  by_cases hnm : n = m
  · subst hnm
    have g1 : ((n : Int) != (n : Int)) = false := by simp
    go_enter Tryz.func40, Tryz.ntmps40
    go_wp2_with fail
    go_loopw [5] (fun iv wr => ∃ j : Nat, j ≤ n ∧ iv = .int .i64 j ∧ Hid ((∀ i, i < j → gt l i = gt r i) ∧ Below w.heap.size w wr)) (fun iv _ => n - (intOf iv).toNat)
    case atStart => exact ⟨0, Nat.zero_le _, by go_num, fun i hi => by omega, Below.refl _ _⟩
    case round =>
      obtain ⟨j, hj, rfl, G⟩ := hrel
      rcases Nat.lt_or_ge j n with hlt | hge
      · have g4 := G.out.2
        obtain ⟨b, o, hp, hc⟩ := HX.out.1.hl (by rw [HX.out.1.el]; show 0 < n; omega)
        obtain ⟨b', o', hq, hd⟩ := HY.out.1.hl (by rw [HY.out.1.el]; show 0 < n; omega)
        simp only at hp hq
        subst hp hq
        have c0 := cell_later' g4 (hc j (by rw [HX.out.1.el]; exact hlt))
        have d0 := cell_later' g4 (hd j (by rw [HY.out.1.el]; exact hlt))
        have hE2 := (lasts_EY N E).below (HX.out.1.ev j hlt) HX.out.2 g4
        have hE3 := (lasts_EY M E).below (HY.out.1.ev j hlt) HY.out.2 g4
        generalize gh hs j = hd2 at c0 hE2
        generalize gh rs j = hd3 at d0 hE3
        obtain ⟨p2, n2, nc2⟩ := hd2
        obtain ⟨p3, n3, nc3⟩ := hd3
        obtain ⟨es2, hP2, -, -, b2, -⟩ := hE2
        obtain ⟨es3, hP3, -, -, b3, -⟩ := hE3
        simp only [Hdr.val] at c0 d0 hP2 hP3 b2 b3
        have i1 : (j : Int) < (n : Int) := by omega
        have hcall := fun w' (hb : Below wr.heap.size wr w') => rpEq_any (hP2.below hb) (hP3.below hb) hN hM (by omega) (by omega)
        clear hc hd hP3 hP2 g4
        have hcs : Hid (gt l j = gt r j ∨ ¬ gt l j = gt r j) := Classical.em _
        generalize hdd : decide (gt l j = gt r j) = dd at hcall
        have HD2 := (show Hid _ from hdd)
        clear hdd
        go_wp2_with fail
        go_region_held3 (fun w' => w'.cell? ⟨b, o + j, none⟩ = some (.slice p2 n2 nc2) ∧ w'.cell? ⟨b', o' + j, none⟩ = some (.slice p3 n3 nc3)) (first | with_reducible exact ⟨c0, d0⟩ | with_reducible exact keepc2 ⟨c0, d0⟩ hV1 | (simp [go_sem, *]; done))
          (first
            | (go_at_call 82; go_fit (hcall _ (Below.refl _ _).drew); rintro e w1 ⟨rfl, hb1⟩; have hV1 := undrew hb1))
        have HB : Hid (Below w.heap.size w w1) := bnext' G.out.2 hV1
        clear c0 d0 hcall hV1 hb1
        rcases hcs.out with hz | hz
        · obtain rfl : dd = true := by rw [← HD2.out]; exact decide_eq_true hz
          have HZ : Hid (gt l j = gt r j) := hz
          clear hz hcs
          go_wp2
          go_roundw
          case rel => exact ⟨j + 1, by omega, by go_num, fun i hi => by
            rcases Nat.lt_or_ge i j with h' | h'
            · exact G.out.1 i h'
            · obtain rfl : i = j := by omega
              exact HZ.out, HB.out⟩
          case measure => simp [intOf]; omega
        · obtain rfl : dd = false := by rw [← HD2.out]; exact decide_eq_false hz
          have HDD : Hid (decide (l = r) = false) := decide_eq_false fun e => hz (by rw [e])
          clear hz hcs HD2
          go_wp2
          go_ret
          exact ⟨by rw [HDD.out]; rfl, HB.out⟩
      · obtain rfl : j = n := by omega
        have i1 : ¬ (j : Int) < (j : Int) := by omega
        have HDD : Hid (decide (l = r) = true) := by
          obtain ⟨l1, l2⟩ := HL.out
          refine decide_eq_true (List.ext_getElem (l1.trans l2.symm) fun i h1 h2 => ?_)
          have h3 := G.out.1 i (by rw [← l1]; exact h1)
          simpa [gt, h1, h2] using h3
        clear hge
        go_wp2
        go_ret
        exact ⟨by rw [HDD.out]; rfl, G.out.2⟩
  · have hne : ¬ l = r := fun e => hnm (by have h1 := HL.out; rw [e] at h1; omega)
    have HDD : Hid (decide (l = r) = false) := decide_eq_false hne
    have hI : ((n : Int) != (m : Int)) = true := by rw [bne_iff_ne]; omega
    clear hne
    generalize decide (l = r) = dd at *
    obtain rfl : dd = false := HDD.out
    go_enter Tryz.func40, Tryz.ntmps40
    go_wp2
    go_ret
    exact ⟨rfl, Below.refl _ _⟩
set_option maxHeartbeats 2000000 in
/-- ashlarref8.At behind nothing. -/
theorem rAt8_none (w : World) (p : Option Addr) (nc : Nat) :
    Calls Tryz.prog 70 #[.slice p 0 nc, .int .i64 (-1)] w fun e w' => e = .returned (.slice none 0 0) ∧ w' = w := by
  go_enter Tryz.func70, Tryz.ntmps70
  go_wp2
  go_ret
  exact ⟨rfl, rfl⟩
set_option maxHeartbeats 2000000 in
/-- ashlarref8.Lead. -/
theorem rLead8_any {w : World} {B T N E D : Nat} {l : List (List Int)} {h : Hdr} (H : HR D (EY N E) w B T l h) (hD : D ≤ 1000) :
    Calls Tryz.prog 32 #[.slice h.p h.n h.c] w fun e w' => ∃ hd, e = .returned (Hdr.val hd) ∧ EY N E w B T (gt l (l.length - 1)) hd ∧ w' = w := by
  have hl : l.length = h.n ∧ h.n ≤ D := by obtain ⟨_, k⟩ := H; exact ⟨k.tl, k.few⟩
  rw [hl.1]
  have hat := fun i hi => rAt8_any H i hD hi
  have HN : Hid (h.n = 0 → EY N E w B T (gt l (h.n - 1)) ⟨none, 0, 0⟩) := fun h0 => by
    rw [gt_over0 _ _ (by omega)]
    exact ey_nil N E w B T
  obtain ⟨p, n, nc⟩ := h
  have hn := hl.2
  simp only at hat hn HN ⊢
  clear H hl
  rcases Nat.eq_zero_or_pos n with h0 | h0
  · subst h0
    go_enter Tryz.func32, Tryz.ntmps32
    go_wp2_with fail
    go_fit (rAt8_none w p nc)
    rintro e w1 ⟨rfl, hw⟩
    subst w1
    go_wp2
    go_ret
    exact ⟨⟨none, 0, 0⟩, rfl, HN.out (by trivial), rfl⟩
  · obtain ⟨i, rfl⟩ : ∃ i, n = i + 1 := ⟨n - 1, by omega⟩
    have v1 : wrap64 ((i : Int) + 1 - 1) = (i : Int) := by unfold wrap64; omega
    have hat' := hat i (by omega)
    clear hat
    go_enter Tryz.func32, Tryz.ntmps32
    go_wp2_with fail
    go_fit hat'
    rintro e w1 ⟨⟨p2, n2, nc2⟩, rfl, he, hw⟩
    subst w1
    have HE : Hid (EY N E w B T (gt l (i + 1 - 1)) ⟨p2, n2, nc2⟩) := he
    clear he hat'
    simp only [Hdr.val]
    go_wp2
    go_ret
    exact ⟨⟨p2, n2, nc2⟩, rfl, HE.out, rfl⟩
set_option maxHeartbeats 2000000 in
/-- ashlarref8.Order. -/
theorem rOrder8_any (w : World) (p : Option Addr) (n nc : Nat) (hn : n ≤ 1000000) :
    Calls Tryz.prog 34 #[.slice p n nc] w fun e w' => e = .returned (.int .i64 ((n : Int) - 1)) ∧ w' = w := by
  have v1 : IntKind.i64.wrap ((n : Int) - 1) = (n : Int) - 1 := by rw [IntKind.wrap_i64]; omega
  go_enter Tryz.func34, Tryz.ntmps34
  go_wp2
  go_ret
  exact ⟨by simp [go_sem, v1], rfl⟩
end Go.Proofs.YtmjokfcojilidaaGreatDoor
/-
  Rows of one and two integers, made new (out of Di).
-/
namespace Go.Proofs.YtmjokfcojilidaaGreatDoor
open Go.RowKit
set_option linter.unusedVariables false
set_option linter.unusedSimpArgs false

theorem rd_one (w : World) (z : Int) (t : Nat) : Rd (w.alloc (.cells #[.int .i64 z] t)) (some ⟨w.heap.size, 0, none⟩) .i64 [z] := fun _ => ⟨w.heap.size, 0, rfl, fun j hj => by
  obtain rfl : j = 0 := by simp at hj; omega
  simp [go_sem, gx]⟩
theorem rd_two (w : World) (y z : Int) (t : Nat) : Rd (w.alloc (.cells #[.int .i64 y, .int .i64 z] t)) (some ⟨w.heap.size, 0, none⟩) .i64 [y, z] := fun _ => ⟨w.heap.size, 0, rfl, fun j hj => by
  match j, hj with
  | 0, _ => simp [go_sem, gx]
  | 1, _ => simp [go_sem, gx]⟩
end Go.Proofs.YtmjokfcojilidaaGreatDoor
/-
  The reference's operators: Degree, Bits, Sub.
-/
namespace Go.Proofs.YtmjokfcojilidaaGreatDoor
open Go.RowKit
set_option linter.unusedVariables false
set_option linter.unusedSimpArgs false

theorem EY.le {N E N' E' : Nat} {w : World} {B T : Nat} {z : List Int} {h : Hdr} (k : EY N E w B T z h) (hN : N ≤ N') (hE : E ≤ E') : EY N' E' w B T z h := by
  obtain ⟨fs, a, b, c, d, e⟩ := k
  exact ⟨fs, ⟨a.el, a.zl, a.cap, a.bnd, a.pl, fun j hj => (a.ev j hj).wide hN⟩, b, c, Nat.le_trans d hE, e⟩
theorem HR.le {N E N' E' D : Nat} {w : World} {B T : Nat} {z : List (List Int)} {h : Hdr} (k : HR D (EY N E) w B T z h) (hN : N ≤ N') (hE : E ≤ E') : HR D (EY N' E') w B T z h := by
  obtain ⟨hs, a⟩ := k
  exact ⟨hs, a.el, a.tl, a.cap, a.bnd, a.pn, a.few, a.hl, a.at_, fun j hj => (a.ev j hj).le hN hE⟩
theorem length_otr (l : List (List Int)) : (otr l).length = olen l := by
  have := olen_le l
  simp [otr]
  omega
theorem gx_mulp1 (c : Int) (ys : List Int) (t : Nat) : gx (mulp [c] ys) t = c * gx ys t := by
  have h1 : ps [c] ys 1 t = c * gx ys t := by simp [ps, gx]
  unfold mulp
  by_cases h : ([c] : List Int).length = 0 ∨ ys.length = 0
  · rw [if_pos h]
    have h2 : ys = [] := List.eq_nil_of_length_eq_zero (by simpa using h)
    subst h2
    simp [gx]
  · rw [if_neg h]
    rcases Nat.lt_or_ge t ([c].length + ys.length - 1) with h2 | h2
    · rw [gx_mulz _ _ _ h2]
      exact h1
    · rw [gx_past _ ([c].length + ys.length - 1) (by rw [length_mulz]; exact Nat.le_refl _) t h2]
      rw [gx_past ys ys.length (Nat.le_refl _) t (by simp at h2; omega), Int.mul_zero]
theorem pz_minus (a b : List Int) : tr (pz (· + ·) a (mulp [-1] b)) = tr (pz (· - ·) a b) := by
  refine tr_same fun j => ?_
  rw [gx_pz0 _ rfl, gx_pz0 _ rfl, gx_mulp1]
  omega
set_option maxHeartbeats 2000000 in
set_option maxRecDepth 100000 in
/-- ashlarref8.Degree. -/
theorem rDegree8_any {w : World} {B T N E D : Nat} {l : List (List Int)} {h : Hdr} (H : HR D (EY N E) w B T l h) (hT : T ≤ w.heap.size) (hD : D ≤ 1000000) (hE : E ≤ 1000000) :
    Calls Tryz.prog 36 #[.slice h.p h.n h.c] w fun e w' => e = .returned (.int .i64 (odeg l)) ∧ Below w.heap.size w w' := by
  obtain ⟨hs, k⟩ := H
  have HX : Hid (HRow D (EY N E) w B T l h hs ∧ T ≤ w.heap.size) := ⟨k, hT⟩
  have hn : h.n ≤ D := k.few
  have HL : Hid (l.length = h.n) := k.tl
  obtain ⟨p, n, nc⟩ := h
  simp only at hn HL ⊢
  clear k hT
  go_enter Tryz.func36, Tryz.ntmps36
  go_wp2_with fail
  go_loopw [3, 4] (fun mv kv wr => ∃ i : Nat, i ≤ n ∧ mv = .int .i64 (odeg (l.take i)) ∧ kv = .int .i64 i ∧ Hid (Below w.heap.size w wr)) (fun _ kv _ => n - (intOf kv).toNat)
  case atStart => exact ⟨0, Nat.zero_le _, by simp [odeg], by go_num, Below.refl _ _⟩
  case round =>
    obtain ⟨i, hi, rfl, rfl, G⟩ := hrel
    rcases Nat.lt_or_ge i n with hlt | hge
    · have g4 := G.out
      obtain ⟨b, o, hp, hc⟩ := HX.out.1.hl (by rw [HX.out.1.el]; show 0 < n; omega)
      simp only at hp
      subst hp
      have c0 := hc i (by rw [HX.out.1.el]; exact hlt)
      have c1 : wr.cell? ⟨b, o + i, none⟩ = some (gh hs i).val := cell_later' g4 c0
      obtain ⟨es2, -, -, ht2, hd3, -⟩ := HX.out.1.ev i hlt
      have HT : Hid (odeg (l.take (i + 1)) = max (odeg (l.take i)) (((gh hs i).n : Int) - 1)) := by rw [← ht2]; exact odeg_take l i (by have := HL.out; omega)
      generalize gh hs i = hd at c1 hd3 HT
      obtain ⟨p2, n2, nc2⟩ := hd
      simp only [Hdr.val] at c1 hd3 HT
      have i1 : (i : Int) < (n : Int) := by omega
      have hcall := fun w' => rpDeg_any p2 n2 nc2 w' (by omega)
      obtain ⟨M, hM⟩ : ∃ M, odeg (l.take (i + 1)) = M := ⟨_, rfl⟩
      have HEQ := (show Hid _ from hM)
      rw [hM] at HT
      obtain ⟨t, ht⟩ : ∃ t, (n2 : Int) - 1 = t := ⟨_, rfl⟩
      rw [ht] at HT
      simp only [ht] at hcall
      generalize odeg (l.take i) = d at *
      clear hc c0 g4 hM ht ht2
      go_wp2_with fail
      go_fit (hcall _)
      rintro e w1 ⟨rfl, hb1⟩
      have HB1 : Hid (Below w.heap.size w w1) := bnext' G.out hb1
      clear c1 hcall hb1
      by_cases hdt : d < t
      · obtain rfl : t = M := by have := HT.out; omega
        go_wp2
        go_roundw
        case rel => exact ⟨i + 1, by omega, by rw [HEQ.out], by go_num, HB1.out⟩
        case measure => simp [intOf]; omega
      · obtain rfl : d = M := by have := HT.out; omega
        go_wp2
        go_roundw
        case rel => exact ⟨i + 1, by omega, by rw [HEQ.out], by go_num, HB1.out⟩
        case measure => simp [intOf]; omega
    · obtain rfl : i = n := by omega
      have i1 : ¬ (i : Int) < (i : Int) := by omega
      have HZ : Hid (l.take i = l) := List.take_of_length_le (by have := HL.out; omega)
      go_wp2
      go_ret
      exact ⟨by rw [HZ.out]; rfl, G.out⟩
set_option maxHeartbeats 2000000 in
set_option maxRecDepth 100000 in
/-- ashlarref8.Bits. -/
theorem rBits8_any {w : World} {B T N E D : Nat} {l : List (List Int)} {h : Hdr} (H : HR D (EY N E) w B T l h) (hT : T ≤ w.heap.size) (hD : D ≤ 1000000) (hE : E ≤ 1000000) (hN : N ≤ 1000) :
    Calls Tryz.prog 38 #[.slice h.p h.n h.c] w fun e w' => e = .returned (.int .i64 (obit l)) ∧ Below w.heap.size w w' := by
  obtain ⟨hs, k⟩ := H
  have HX : Hid (HRow D (EY N E) w B T l h hs ∧ T ≤ w.heap.size) := ⟨k, hT⟩
  have hn : h.n ≤ D := k.few
  have HL : Hid (l.length = h.n) := k.tl
  obtain ⟨p, n, nc⟩ := h
  simp only at hn HL ⊢
  clear k hT
  go_enter Tryz.func38, Tryz.ntmps38
  go_wp2_with fail
  go_loopw [3, 4] (fun mv kv wr => ∃ i : Nat, i ≤ n ∧ mv = .int .i64 (obit (l.take i)) ∧ kv = .int .i64 i ∧ Hid (Below w.heap.size w wr)) (fun _ kv _ => n - (intOf kv).toNat)
  case atStart => exact ⟨0, Nat.zero_le _, by simp [obit], by go_num, Below.refl _ _⟩
  case round =>
    obtain ⟨i, hi, rfl, rfl, G⟩ := hrel
    rcases Nat.lt_or_ge i n with hlt | hge
    · have g4 := G.out
      obtain ⟨b, o, hp, hc⟩ := HX.out.1.hl (by rw [HX.out.1.el]; show 0 < n; omega)
      simp only at hp
      subst hp
      have c0 := hc i (by rw [HX.out.1.el]; exact hlt)
      have c1 : wr.cell? ⟨b, o + i, none⟩ = some (gh hs i).val := cell_later' g4 c0
      have hE2 := (lasts_EY N E).below (HX.out.1.ev i hlt) HX.out.2 g4
      have HT : Hid (obit (l.take (i + 1)) = max (obit (l.take i)) (pb (gt l i))) := obit_take l i (by have := HL.out; omega)
      generalize gh hs i = hd at c1 hE2
      obtain ⟨p2, n2, nc2⟩ := hd
      obtain ⟨es2, hP2, -, -, hd3, -⟩ := hE2
      simp only [Hdr.val] at c1 hd3 hP2
      have i1 : (i : Int) < (n : Int) := by omega
      have hcall := rpBits_any hP2 hN (by omega)
      obtain ⟨M, hM⟩ : ∃ M, obit (l.take (i + 1)) = M := ⟨_, rfl⟩
      have HEQ := (show Hid _ from hM)
      rw [hM] at HT
      generalize pb (gt l i) = t at *
      generalize obit (l.take i) = d at *
      clear hc c0 g4 hM hP2
      go_wp2_with fail
      go_fit hcall
      rintro e w1 ⟨rfl, hb1⟩
      have HB1 : Hid (Below w.heap.size w w1) := bnext' G.out hb1
      clear c1 hcall hb1
      by_cases hdt : d < t
      · obtain rfl : t = M := by have := HT.out; omega
        have i5 : (d : Int) < (t : Int) := by omega
        go_wp2
        go_roundw
        case rel => exact ⟨i + 1, by omega, by rw [HEQ.out], by go_num, HB1.out⟩
        case measure => simp [intOf]; omega
      · obtain rfl : d = M := by have := HT.out; omega
        have i5 : ¬ (d : Int) < (t : Int) := by omega
        go_wp2
        go_roundw
        case rel => exact ⟨i + 1, by omega, by rw [HEQ.out], by go_num, HB1.out⟩
        case measure => simp [intOf]; omega
    · obtain rfl : i = n := by omega
      have i1 : ¬ (i : Int) < (i : Int) := by omega
      have HZ : Hid (l.take i = l) := List.take_of_length_le (by have := HL.out; omega)
      go_wp2
      go_ret
      exact ⟨by rw [HZ.out]; rfl, G.out⟩
set_option maxHeartbeats 4000000 in
set_option maxRecDepth 100000 in
/-- ashlarref8.Sub. -/
theorem rSub8_any {w : World} {B T E D B2 T2 : Nat} {zss yss : List (List Int)} {h k : Hdr} (H : HR D (EY 4 E) w B T zss h) (G : HR D (EY 4 E) w B2 T2 yss k) (hT : T ≤ w.heap.size) (hT2 : T2 ≤ w.heap.size) (hD : D ≤ 1000) (hE : E ≤ 900) :
    Calls Tryz.prog 27 #[.slice h.p h.n h.c, .slice k.p k.n k.c] w (OrP D ((List.range (max zss.length (olen (yss.map (mulp [-1]))))).map fun i => tr (pz (· + ·) (gt zss i) (gt (otr (yss.map (mulp [-1]))) i))) 13 (E + 1) w) := by
  have HX : Hid (HR D (EY 4 E) w B T zss h ∧ T ≤ w.heap.size) := ⟨H, hT⟩
  have HY : Hid (HR D (EY 4 E) w B2 T2 yss k ∧ T2 ≤ w.heap.size) := ⟨G, hT2⟩
  clear H G hT hT2
  obtain ⟨p, n, nc⟩ := h
  obtain ⟨q, m, mc⟩ := k
  simp only
  obtain ⟨l3, hl3⟩ : ∃ l3, (List.range (max zss.length (olen (yss.map (mulp [-1]))))).map (fun i => tr (pz (· + ·) (gt zss i) (gt (otr (yss.map (mulp [-1]))) i))) = l3 := ⟨_, rfl⟩
  rw [hl3]
  have HL3 := (show Hid _ from hl3)
  clear hl3
  go_enter Tryz.func27, Tryz.ntmps27
  go_wp2_with fail
  have hal := bel_al (o := .cells #[.int .i64 (-1)] 2) (Below.refl w.heap.size w)
  have hOf := rpOf_any _ 1 1 [-1] _ rfl (by decide) (rd_one w (-1) 2) (fun j => by match j with | 0 => decide | (j + 1) => simp [gx])
  go_fit hOf
  rintro e w1 ⟨p1, n1, es1, rfl, hP1, hF1, ht1, hb1⟩
  have hB1 := bnext' hal hb1
  have e1 : tr [-1] = [-1] := by decide
  rw [e1] at hP1 ht1
  obtain rfl : n1 = 1 := hP1.zl.symm
  have hsc := rScale8_any (K := 1) (L := 2) (E' := E + 1) hP1 rfl (by decide) (fun i => by match i with | 0 => decide | (j + 1) => simp [gx]; exact pw_pos 1) ((lasts_HR (lasts_EY 4 E)).below HY.out.1 HY.out.2 hB1) (Nat.le_trans HY.out.2 hB1.size) hD (by omega) (by decide) (by decide) (by omega) (by omega)
  have HB1 : Hid (Below w.heap.size w w1) := hB1
  simp only at hsc
  clear hP1 hF1 ht1 hb1 hB1 hal hOf e1
  go_wp2_with fail
  go_fit hsc
  rintro e w2 ⟨q2, rfl, hS, hb2⟩
  have hB2 := bnext' HB1.out hb2
  have HB2 : Hid (Below w.heap.size w w2) := hB2
  have hadd := rAdd8_any (HR.le ((lasts_HR (lasts_EY 4 E)).below HX.out.1 HX.out.2 hB2) (Nat.le_refl 4) (Nat.le_succ E)) hS (Nat.le_trans HX.out.2 hB2.size) (Nat.le_refl _) hD (by omega) (by decide) (by decide) (by decide) (by decide)
  rw [length_otr, HL3.out] at hadd
  simp only at hadd
  have HLL : Hid (∀ e w', OrP D l3 13 (E + 1) w2 e w' → OrP D l3 13 (E + 1) w e w') := fun e w' ⟨p, a1, a2, a3⟩ => ⟨p, a1, (lasts_HR (lasts_EY _ _)).wide a2 HB2.out.size (Nat.le_refl _), bnext' HB2.out a3⟩
  generalize olen (yss.map (mulp [-1])) = m2 at *
  clear HL3
  clear hsc hS hb2 hB2
  go_wp2_with fail
  go_fit hadd
  rintro e w3 ⟨q3, rfl, hA, hb3⟩
  have HR' : Hid (OrP D l3 13 (E + 1) w (.returned (.slice q3 (olen l3) (olen l3))) w3) := HLL.out _ _ ⟨q3, rfl, hA, hb3⟩
  clear hA hb3 hadd HLL
  generalize olen l3 = m3 at *
  go_wp2
  go_ret
  exact HR'.out
end Go.Proofs.YtmjokfcojilidaaGreatDoor
