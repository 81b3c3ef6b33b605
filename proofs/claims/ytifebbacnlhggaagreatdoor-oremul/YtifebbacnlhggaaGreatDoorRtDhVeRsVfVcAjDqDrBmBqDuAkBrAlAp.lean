/-
  ashlarref1.Bits, and that it is limbs.Bits' number.
-/
import Derived.Test.YtifebbacnlhggaaGreatDoorLnWrIbWgUeUfUg
import Derived.Test.YtifebbacnlhggaaGreatDoorReRxRfRhCqRrRwVa
import Derived.Test.YtifebbacnlhggaaGreatDoorBpBnBoAhAdBsDtAgWvUhAiRzVd
import Derived.Test.YtifebbacnlhggaaGreatDoorVqDcUj
import Derived.Test.YtifebbacnlhggaaGreatDoorRpDkDlDbRiRjRg
import Derived.Deep.DeepFit
import Derived.Test.YtifebbacnlhggaaGreatDoorRoVbDaCxRbCyVi
import Derived.Test.YtifebbacnlhggaaGreatDoorAf
import Derived.Test.YtifebbacnlhggaaGreatDoorWlBxBbCvNjUbUcUdOwRaWmBeRd
import Derived.Test.YtifebbacnlhggaaGreatDoorRkUi
import Derived.Test.YtifebbacnlhggaaGreatDoorDsAeVuWxUpUqRm
import Derived.Test.YtifebbacnlhggaaGreatDoorAbDnDoAc
namespace Go.Proofs.YtifebbacnlhggaaGreatDoor
open Go.RowKit
set_option linter.unusedVariables false
set_option linter.unusedSimpArgs false
set_option maxHeartbeats 8000000
theorem rBits_any (s : Bool) (p : Option Addr) (n nc : Nat) (ds : List Int) (w : World) (hl : ds.length = n) (hs : n ≤ 1000000) (ht : tlen ds = n) (hX : Rd w p .i64 ds) (hU : U16 ds) :
    Calls Tryz.prog 64 #[.agg #[.bool s, .slice p n nc]] w fun e w' => ∃ b : Nat, e = .returned (.int .i64 (b : Int)) ∧ Hid (IB b (vd ds)) ∧ Below w.heap.size w w' := by
  rcases Nat.eq_zero_or_pos n with h0 | h0
  · subst h0
    obtain rfl : ds = [] := List.eq_nil_of_length_eq_zero hl
    go_enter Tryz.func64, Tryz.ntmps64
    go_wp2
    go_ret
    exact ⟨0, rfl, ⟨by decide, by decide, .inl rfl⟩, (Below.refl _ _).alloc (Nat.le_refl _) _⟩
  · obtain ⟨j, rfl⟩ : ∃ j, n = j + 1 := ⟨n - 1, by omega⟩
    have HL : Hid (ds.length = j + 1 ∧ tlen ds = j + 1) := ⟨hl, ht⟩
    obtain ⟨b, off, rfl, hc⟩ := (hX.alloc (.cells #[.bool s, .slice p (j + 1) nc] 30)) (by omega)
    have hcj := hc j (by omega)
    obtain ⟨b0, b1⟩ := hU j
    clear hc hl ht
    have hz : (((j + 1 : Nat) : Int) == 0) = false := beq_eq_false_iff_ne.2 (by omega)
    have hz' : ((j : Int) + 1 == 0) = false := beq_eq_false_iff_ne.2 (by omega)
    go_enter Tryz.func64, Tryz.ntmps64
    go_wp2
    go_loop [4, 5] (fun kv tv => ∃ (k : Nat) (t : Int), kv = .int .i64 k ∧ tv = .int .i64 t ∧ 0 ≤ t ∧ t < 65536 ∧ k ≤ 16 ∧ Hid (t = gx ds j / 2 ^ k ∧ (k = 0 ∨ (2 : Int) ^ (k - 1) ≤ gx ds j))) (fun _ tv => (intOf tv).toNat)
    case atStart => exact ⟨0, gx ds j, rfl, rfl, b0, b1, by decide, by simp, .inl rfl⟩
    case round =>
      obtain ⟨k, t, rfl, rfl, t0, t1, hk, H⟩ := hrel
      have hp : (0 : Int) < 2 ^ k := Int.pow_pos (by decide)
      have hdm := Int.emod_add_mul_ediv (gx ds j) (2 ^ k)
      have hm0 := Int.emod_nonneg (gx ds j) (show (2 : Int) ^ k ≠ 0 by omega)
      have hm1 := Int.emod_lt_of_pos (gx ds j) hp
      have HD : Hid (gx ds j % 2 ^ k + 2 ^ k * (gx ds j / 2 ^ k) = gx ds j ∧ 0 ≤ gx ds j % 2 ^ k ∧ gx ds j % 2 ^ k < 2 ^ k ∧ (0 : Int) < 2 ^ k) := ⟨hdm, hm0, hm1, hp⟩
      clear hp hdm hm0 hm1
      by_cases ht : 0 < t
      · have q1 : t.tdiv 2 = t / 2 := Int.tdiv_eq_ediv_of_nonneg t0
        have hge : Hid ((2 : Int) ^ k ≤ gx ds j) := by
          obtain ⟨e1, e2, e3, e4⟩ := HD.out
          have e5 := H.out.1
          have : (2 : Int) ^ k * 1 ≤ 2 ^ k * (gx ds j / 2 ^ k) := Int.mul_le_mul_of_nonneg_left (by omega) (by omega)
          show _ ≤ _
          omega
        have hk15 : k + 1 ≤ 16 := by
          rcases Nat.lt_or_ge k 16 with h | h
          · omega
          · exfalso
            have h2 := p2_mono h
            have h3 := hge.out
            have h4 : (2 : Int) ^ 16 = 65536 := rfl
            omega
        go_wp2
        go_round
        case rel =>
          refine ⟨k + 1, t / 2, by go_num, rfl, by omega, by omega, hk15, ?_, .inr (by rw [Nat.add_sub_cancel]; exact hge.out)⟩
          rw [H.out.1, Int.ediv_ediv_of_nonneg (Int.le_of_lt HD.out.2.2.2), Int.pow_succ]
        case measure => simp [intOf]; omega
      · obtain rfl : t = 0 := by omega
        go_wp2
        go_ret
        refine ⟨16 * j + k, by go_num, ?_, (Below.refl _ _).alloc (Nat.le_refl _) _⟩
        have hL := HL.out
        have hib : IB k (gx ds (ds.length - 1)) := by
          rw [hL.1, Nat.add_sub_cancel]
          refine ⟨b0, ?_, H.out.2⟩
          obtain ⟨e1, e2, e3, e4⟩ := HD.out
          have e5 := H.out.1
          rw [← e5, Int.mul_zero] at e1
          omega
        have := digits_ib hU (by omega) (by omega) hib
        rw [hL.1, Nat.add_sub_cancel] at this
        exact this
set_option maxRecDepth 100000 in
theorem rpDeg_any (p : Option Addr) (n nc : Nat) (w : World) (hn : n ≤ 1000000) :
    Calls Tryz.prog 79 #[.slice p n nc] w fun r w' => r = .returned (.int .i64 ((n : Int) - 1)) ∧ Below w.heap.size w w' := by
  have v1 : IntKind.i64.wrap ((n : Int) - 1) = (n : Int) - 1 := by rw [IntKind.wrap_i64]; omega
  go_enter Tryz.func79, Tryz.ntmps79
  go_wp2
  go_ret
  exact ⟨rfl, Below.refl _ _⟩
theorem rBits_w {w : World} {N : Nat} {x : Int} {s : Bool} {p : Option Addr} {n : Nat} (h : RV w N x s p n) (hN : N ≤ 1000) :
    Calls Tryz.prog 64 #[.agg #[.bool s, .slice p n n]] w fun e w' => ∃ b : Nat, e = .returned (.int .i64 (b : Int)) ∧ b ≤ 16 * N ∧ Hid (IB b (x.natAbs : Int)) ∧ Below w.heap.size w w' := by
  have hbd := h.bd
  obtain ⟨ds, h1, rfl, h3⟩ := h
  have a := vd_nonneg h1.u
  have e : ((rval s ds).natAbs : Int) = vd ds := by unfold rval; split <;> omega
  rw [e] at hbd ⊢
  refine (rBits_any s p n n ds w h1.len (by omega) h1.nrm h1.rd h1.u).mono ?_
  rintro e w' ⟨b, g1, g2, g3⟩
  refine ⟨b, g1, ?_, g2, g3⟩
  have hp : pd N = 2 ^ (16 * N) := by rw [pd, show (65536 : Int) = 2 ^ 16 from rfl, ← Int.pow_mul]
  rcases Nat.lt_or_ge (16 * N) b with hb | hb
  · rcases g2.out.2.2 with k | k
    · omega
    · have := p2_mono (show 16 * N ≤ b - 1 by omega)
      omega
  · exact hb
theorem rBits_e {w : World} {N : Nat} {z : Int} {e : Ent} (h : RE w N z e) (hN : N ≤ 1000) :
    Calls Tryz.prog 64 #[.agg #[.bool e.s, .slice e.p e.n e.c]] w fun r w' => r = .returned (.int .i64 (zb z)) ∧ zb z ≤ 16 * N ∧ Below w.heap.size w w' := by
  obtain ⟨h1, h2⟩ := h
  rw [h2]
  refine (rBits_w h1 hN).mono ?_
  rintro r w' ⟨b, rfl, hl, hI, hb⟩
  have e2 := hI.out.uniq (zb_ib z)
  subst e2
  exact ⟨rfl, hl, hb⟩
set_option maxRecDepth 100000 in
theorem rpBits_any {w : World} {N : Nat} {q : Option Addr} {n nc : Nat} {fs : List Ent} {zs : List Int} (k : PR w N q n nc fs zs) (hN : N ≤ 1000) (hn : n ≤ 1000000) :
    Calls Tryz.prog 80 #[.slice q n nc] w fun r w' => r = .returned (.int .i64 (pb zs)) ∧ Below w.heap.size w w' := by
  have hfl := k.el
  have hzl := k.zl
  go_enter Tryz.func80, Tryz.ntmps80
  go_wp2_with fail
  go_loopw [3, 4, 5] (fun mv kv cv wr => ∃ j : Nat, j ≤ n ∧ kv = .int .i64 j ∧ mv = .int .i64 (pb (zs.take j)) ∧ Hid (pb (zs.take j) ≤ 16 * N ∧ Below w.heap.size w wr)) (fun _ kv _ _ => n - (intOf kv).toNat)
  case atStart => exact ⟨0, Nat.zero_le _, by go_num, by simp [pb], by simp [pb], Below.refl _ _⟩
  case round =>
    obtain ⟨j, hj, rfl, rfl, H⟩ := hrel
    rcases Nat.lt_or_ge j n with hlt | hge
    · have hh := k.below H.out.2
      have hv := hh.ev j hlt
      obtain ⟨b, o, hp, hc⟩ := hh.pl (by omega)
      subst hp
      obtain ⟨c0, c1⟩ := hc j (by omega)
      have HT : Hid (pb (zs.take (j + 1)) = max (pb (zs.take j)) (zb (gx zs j))) := pb_take zs j (by omega)
      clear hc hh
      go_wp2_with fail
      refine (rBits_e hv hN).mono ?_
      rintro e w1 ⟨rfl, hz, hb1⟩
      have hB := bnext' H.out.2 hb1
      clear c0 c1 hv hb1
      by_cases hgt : (pb (zs.take j) : Int) < (zb (gx zs j) : Int)
      · have e1 : pb (zs.take (j + 1)) = zb (gx zs j) := by rw [HT.out]; omega
        have HE : Hid (pb (zs.take (j + 1)) = zb (gx zs j)) := e1
        clear e1
        go_wp2
        go_roundw
        case rel => exact ⟨j + 1, by omega, by go_num, by rw [HE.out], by rw [HE.out]; exact hz, hB⟩
        case measure => simp [intOf]; omega
      · have e1 : pb (zs.take (j + 1)) = pb (zs.take j) := by rw [HT.out]; omega
        have HE : Hid (pb (zs.take (j + 1)) = pb (zs.take j)) := e1
        clear e1
        go_wp2
        go_roundw
        case rel => exact ⟨j + 1, by omega, by go_num, by rw [HE.out], by rw [HE.out]; exact H.out.1, hB⟩
        case measure => simp [intOf]; omega
    · obtain rfl : j = n := by omega
      have HT : Hid (zs.take j = zs) := List.take_of_length_le (by omega)
      clear hge
      go_wp2
      go_ret
      obtain ⟨h1, h2⟩ := H.out
      exact ⟨by rw [HT.out]; rfl, h2⟩
set_option maxRecDepth 100000 in
theorem rIs8_any {w : World} {B B2 T2 K E N E2 D : Nat} {l : List (List Int)} {p q : Option Addr} {n m c : Nat} {hs : List Hdr} (H : NO B w K E l p n hs) (G : HR D (EY N E2) w B2 T2 l ⟨q, m, c⟩) (hT : T2 ≤ w.heap.size) (hD : D ≤ 1000) (hK : K ≤ 1000) (hN : N ≤ 1000) (hE : E ≤ 1000000) :
    Calls Tryz.prog 29 #[.slice p n n, .slice q m c] w fun r w' => r = .returned (.bool true) ∧ Below w.heap.size w w' := by
  obtain ⟨rs, k⟩ := G
  have hm : m ≤ D := k.few
  obtain rfl : m = n := by have h1 := k.tl; have h2 := H.tl; simp only at h1; omega
  have HX : Hid (NO B w K E l p m hs) := H
  have HY : Hid (HRow D (EY N E2) w B2 T2 l ⟨q, m, c⟩ rs ∧ T2 ≤ w.heap.size) := ⟨k, hT⟩
  clear H k hT
  go_enter Tryz.func29, Tryz.ntmps29
  go_wp2_with fail
  go_loopw [5] (fun iv wr => ∃ j : Nat, j ≤ m ∧ iv = .int .i64 j ∧ Hid (Below w.heap.size w wr)) (fun iv _ => m - (intOf iv).toNat)
  case atStart => exact ⟨0, Nat.zero_le _, by go_num, Below.refl _ _⟩
  case round =>
    obtain ⟨j, hj, rfl, G⟩ := hrel
    rcases Nat.lt_or_ge j m with hlt | hge
    · have g4 := G.out
      obtain ⟨b, o, hp, hc⟩ := HX.out.hl (by rw [HX.out.el]; show 0 < m; omega)
      obtain ⟨b', o', hq, hd⟩ := HY.out.1.hl (by rw [HY.out.1.el]; show 0 < m; omega)
      simp only at hp hq
      subst hp hq
      have c0 := cell_later' g4 (hc j (by rw [HX.out.el]; exact hlt))
      have d0 := cell_later' g4 (hd j (by rw [HY.out.1.el]; exact hlt))
      obtain ⟨e1, e2, es2, hN2⟩ := HX.out.ev j hlt
      have hE3 := (lasts_EY N E2).below (HY.out.1.ev j hlt) HY.out.2 g4
      have hN3 := hN2.below g4
      generalize gh hs j = hd2 at c0 hN3 e1 e2
      generalize gh rs j = hd3 at d0 hE3
      obtain ⟨p2, n2, nc2⟩ := hd2
      obtain ⟨p3, n3, nc3⟩ := hd3
      obtain ⟨es3, hP3, f1, -, -, -⟩ := hE3
      simp only [Hdr.val] at c0 d0 e1 e2 hN3 hP3 f1
      subst e1 f1
      obtain rfl : nc3 = nc2 := by rw [← hP3.zl, ← hN3.zl]
      have i1 : (j : Int) < (m : Int) := by omega
      have hcall := fun w' (hb : Below wr.heap.size wr w') => rpIs_any (hN3.below hb) (hP3.below hb) hK hN (by omega)
      clear hc hd hP3 hN2 hN3 g4
      go_wp2_with fail
      go_region_held3 (fun w' => w'.cell? ⟨b, o + j, none⟩ = some (.slice p2 nc3 nc3) ∧ w'.cell? ⟨b', o' + j, none⟩ = some (.slice p3 nc3 nc3)) (first | with_reducible exact ⟨c0, d0⟩ | with_reducible exact keepc2 ⟨c0, d0⟩ hV1 | (simp [go_sem, *]; done))
        (first
          | (go_at_call 15; go_fit (hcall _ (Below.refl _ _).drew); rintro e w1 ⟨rfl, hb1⟩; have hV1 := undrew hb1))
      have HB : Hid (Below w.heap.size w w1) := bnext' G.out hV1
      clear c0 d0 hcall hV1 hb1
      go_wp2
      go_roundw
      case rel => exact ⟨j + 1, by omega, by go_num, HB.out⟩
      case measure => simp [intOf]; omega
    · obtain rfl : j = m := by omega
      have i1 : ¬ (j : Int) < (j : Int) := by omega
      go_wp2
      go_ret
      exact ⟨rfl, G.out⟩
theorem Sub_ev {w : World} {K L : Nat} {x y : Int} {e f : Ent} (h : EV w K x e) (k : EV w L y f) : Calls Tryz.prog 133 #[.agg #[.bool e.s, .slice e.p e.n e.c], .agg #[.bool f.s, .slice f.p f.n f.c]] w fun r w' => ∃ u : Ent, r = .returned (.agg #[.bool u.s, .slice u.p u.n u.c]) ∧ NV w.heap.size w' (K + L + 1) (x - y) u ∧ Below w.heap.size w w' := by
  obtain ⟨xs, h1, rfl, h3⟩ := h
  obtain ⟨ys, k1, rfl, k3⟩ := k
  refine (Sub_any e.s f.s e.p f.p e.n e.c f.n f.c xs ys w h1 k1).mono ?_
  rintro r w' ⟨s', p', n', zs, g1, g2, g3, g4⟩
  exact ⟨⟨s', p', n', n'⟩, g1, ⟨zs, g2, rfl, by show n' ≤ _; omega⟩, g4⟩
set_option maxRecDepth 100000 in
theorem rDegree8_any {w : World} {B T N E D : Nat} {l : List (List Int)} {h : Hdr} (H : HR D (EY N E) w B T l h) (hT : T ≤ w.heap.size) (hD : D ≤ 1000000) (hE : E ≤ 1000000) :
    Calls Tryz.prog 118 #[.slice h.p h.n h.c] w fun e w' => e = .returned (.int .i64 (odeg l)) ∧ Below w.heap.size w w' := by
  obtain ⟨hs, k⟩ := H
  have HX : Hid (HRow D (EY N E) w B T l h hs ∧ T ≤ w.heap.size) := ⟨k, hT⟩
  have hn : h.n ≤ D := k.few
  have HL : Hid (l.length = h.n) := k.tl
  obtain ⟨p, n, nc⟩ := h
  simp only at hn HL ⊢
  clear k hT
  go_enter Tryz.func118, Tryz.ntmps118
  go_wp2_with fail
  go_loopw [3, 4] (fun mv kv wr => ∃ i : Nat, i ≤ n ∧ mv = .int .i64 (odeg (l.take i)) ∧ kv = .int .i64 i ∧ Hid (Below w.heap.size w wr)) (fun _ kv _ => n - (intOf kv).toNat)
  case atStart => exact ⟨0, Nat.zero_le _, by simp [odeg], by go_num, Below.refl _ _⟩
  case round =>
    obtain ⟨i, hi, rfl, rfl, G⟩ := hrel
    rcases Nat.lt_or_ge i n with hlt | hge
    · have g4 := G.out
      obtain ⟨b, o, hp, hc⟩ := HX.out.1.hl (by rw [HX.out.1.el]; show 0 < n; omega)
      simp only at hp
      subst hp
      have c0 := hc i (by rw [HX.out.1.el]; exact hlt)
      have c1 : wr.cell? ⟨b, o + i, none⟩ = some (gh hs i).val := cell_later' g4 c0
      obtain ⟨es2, -, -, ht2, hd3, -⟩ := HX.out.1.ev i hlt
      have HT : Hid (odeg (l.take (i + 1)) = max (odeg (l.take i)) (((gh hs i).n : Int) - 1)) := by rw [← ht2]; exact odeg_take l i (by have := HL.out; omega)
      generalize gh hs i = hd at c1 hd3 HT
      obtain ⟨p2, n2, nc2⟩ := hd
      simp only [Hdr.val] at c1 hd3 HT
      have i1 : (i : Int) < (n : Int) := by omega
      have hcall := fun w' => rpDeg_any p2 n2 nc2 w' (by omega)
      obtain ⟨M, hM⟩ : ∃ M, odeg (l.take (i + 1)) = M := ⟨_, rfl⟩
      have HEQ := (show Hid _ from hM)
      rw [hM] at HT
      obtain ⟨t, ht⟩ : ∃ t, (n2 : Int) - 1 = t := ⟨_, rfl⟩
      rw [ht] at HT
      simp only [ht] at hcall
      generalize odeg (l.take i) = d at *
      clear hc c0 g4 hM ht ht2
      go_wp2_with fail
      go_fit (hcall _)
      rintro e w1 ⟨rfl, hb1⟩
      have HB1 : Hid (Below w.heap.size w w1) := bnext' G.out hb1
      clear c1 hcall hb1
      by_cases hdt : d < t
      · obtain rfl : t = M := by have := HT.out; omega
        go_wp2
        go_roundw
        case rel => exact ⟨i + 1, by omega, by rw [HEQ.out], by go_num, HB1.out⟩
        case measure => simp [intOf]; omega
      · obtain rfl : d = M := by have := HT.out; omega
        go_wp2
        go_roundw
        case rel => exact ⟨i + 1, by omega, by rw [HEQ.out], by go_num, HB1.out⟩
        case measure => simp [intOf]; omega
    · obtain rfl : i = n := by omega
      have i1 : ¬ (i : Int) < (i : Int) := by omega
      have HZ : Hid (l.take i = l) := List.take_of_length_le (by have := HL.out; omega)
      go_wp2
      go_ret
      exact ⟨by rw [HZ.out]; rfl, G.out⟩
set_option maxRecDepth 100000 in
theorem rBits8_any {w : World} {B T N E D : Nat} {l : List (List Int)} {h : Hdr} (H : HR D (EY N E) w B T l h) (hT : T ≤ w.heap.size) (hD : D ≤ 1000000) (hE : E ≤ 1000000) (hN : N ≤ 1000) :
    Calls Tryz.prog 119 #[.slice h.p h.n h.c] w fun e w' => e = .returned (.int .i64 (obit l)) ∧ Below w.heap.size w w' := by
  obtain ⟨hs, k⟩ := H
  have HX : Hid (HRow D (EY N E) w B T l h hs ∧ T ≤ w.heap.size) := ⟨k, hT⟩
  have hn : h.n ≤ D := k.few
  have HL : Hid (l.length = h.n) := k.tl
  obtain ⟨p, n, nc⟩ := h
  simp only at hn HL ⊢
  clear k hT
  go_enter Tryz.func119, Tryz.ntmps119
  go_wp2_with fail
  go_loopw [3, 4] (fun mv kv wr => ∃ i : Nat, i ≤ n ∧ mv = .int .i64 (obit (l.take i)) ∧ kv = .int .i64 i ∧ Hid (Below w.heap.size w wr)) (fun _ kv _ => n - (intOf kv).toNat)
  case atStart => exact ⟨0, Nat.zero_le _, by simp [obit], by go_num, Below.refl _ _⟩
  case round =>
    obtain ⟨i, hi, rfl, rfl, G⟩ := hrel
    rcases Nat.lt_or_ge i n with hlt | hge
    · have g4 := G.out
      obtain ⟨b, o, hp, hc⟩ := HX.out.1.hl (by rw [HX.out.1.el]; show 0 < n; omega)
      simp only at hp
      subst hp
      have c0 := hc i (by rw [HX.out.1.el]; exact hlt)
      have c1 : wr.cell? ⟨b, o + i, none⟩ = some (gh hs i).val := cell_later' g4 c0
      have hE2 := (lasts_EY N E).below (HX.out.1.ev i hlt) HX.out.2 g4
      have HT : Hid (obit (l.take (i + 1)) = max (obit (l.take i)) (pb (gt l i))) := obit_take l i (by have := HL.out; omega)
      generalize gh hs i = hd at c1 hE2
      obtain ⟨p2, n2, nc2⟩ := hd
      obtain ⟨es2, hP2, -, -, hd3, -⟩ := hE2
      simp only [Hdr.val] at c1 hd3 hP2
      have i1 : (i : Int) < (n : Int) := by omega
      have hcall := rpBits_any hP2 hN (by omega)
      obtain ⟨M, hM⟩ : ∃ M, obit (l.take (i + 1)) = M := ⟨_, rfl⟩
      have HEQ := (show Hid _ from hM)
      rw [hM] at HT
      generalize pb (gt l i) = t at *
      generalize obit (l.take i) = d at *
      clear hc c0 g4 hM hP2
      go_wp2_with fail
      go_fit hcall
      rintro e w1 ⟨rfl, hb1⟩
      have HB1 : Hid (Below w.heap.size w w1) := bnext' G.out hb1
      clear c1 hcall hb1
      by_cases hdt : d < t
      · obtain rfl : t = M := by have := HT.out; omega
        have i5 : (d : Int) < (t : Int) := by omega
        go_wp2
        go_roundw
        case rel => exact ⟨i + 1, by omega, by rw [HEQ.out], by go_num, HB1.out⟩
        case measure => simp [intOf]; omega
      · obtain rfl : d = M := by have := HT.out; omega
        have i5 : ¬ (d : Int) < (t : Int) := by omega
        go_wp2
        go_roundw
        case rel => exact ⟨i + 1, by omega, by rw [HEQ.out], by go_num, HB1.out⟩
        case measure => simp [intOf]; omega
    · obtain rfl : i = n := by omega
      have i1 : ¬ (i : Int) < (i : Int) := by omega
      have HZ : Hid (l.take i = l) := List.take_of_length_le (by have := HL.out; omega)
      go_wp2
      go_ret
      exact ⟨by rw [HZ.out]; rfl, G.out⟩
theorem length_otr (l : List (List Int)) : (otr l).length = olen l := by
  have := olen_le l
  simp [otr]
  omega
theorem length_oz (z : List (List Int)) : (oz z).length = olen z := by
  have := olen_le z
  simp [oz]
  omega
theorem tr_zero {a : List Int} (h : tlen a = 0) : tr a = [] := by
  rw [tr, h]
  rfl
theorem gt_oz (z : List (List Int)) (j : Nat) : gt (oz z) j = tr (gt z j) := by
  rcases Nat.lt_or_ge j (olen z) with h | h
  · have h1 : j < z.length := Nat.lt_of_lt_of_le h (olen_le z)
    simp [oz, gt, h, h1]
  · rw [gt_over0 _ _ (by rw [length_oz]; exact h), tr_zero (olen_zero z j h)]
theorem gt_mapt (z : List (List Int)) (j : Nat) : gt (z.map tr) j = tr (gt z j) := by
  rcases Nat.lt_or_ge j z.length with h | h
  · simp [gt, h]
  · rw [gt_over0 _ _ (by simpa using h), gt_over0 _ _ h]
    rfl
theorem olen_tlen {a b : List (List Int)} (h : ∀ j, tlen (gt a j) = tlen (gt b j)) : olen a = olen b := by
  refine olen_eq a (olen b) (fun j hj => by rw [h j]; exact olen_zero b j hj) ?_
  rcases Nat.eq_zero_or_pos (olen b) with h0 | h0
  · exact .inl h0
  · refine .inr ?_
    rw [h]
    intro e
    have h1 := tlen_top (b.map fun z => (tlen z : Int)) h0
    rw [gx_tlens] at h1
    apply h1
    show (tlen (gt b (olen b - 1)) : Int) = 0
    rw [e]
    rfl
theorem olen_mapt (z : List (List Int)) : olen (z.map tr) = olen z := olen_tlen fun j => by rw [gt_mapt, tlen_tr]
theorem otr_mapt (z : List (List Int)) : otr (z.map tr) = oz z := by rw [otr, olen_mapt, ← List.map_take]; rfl
theorem olen_oz (z : List (List Int)) : olen (oz z) = olen z := olen_tlen fun j => by rw [gt_oz, tlen_tr]
theorem otr_oz (z : List (List Int)) : otr (oz z) = oz z := by rw [otr, olen_oz, List.take_of_length_le (by rw [length_oz]; exact Nat.le_refl _)]
theorem odeg_low (zss : List (List Int)) : ∀ j, j ≤ zss.length → -1 ≤ odeg (zss.take j) := by
  intro j
  induction j with
  | zero => intro _; simp [odeg]
  | succ j ih =>
    intro hj
    have h1 := ih (by omega)
    rw [odeg_take zss j (by omega)]
    omega
theorem odeg_oz (z : List (List Int)) : odeg (oz z) = odeg z := by
  have key : ∀ j, odeg ((oz z).take j) = odeg (z.take j) := by
    intro j
    induction j with
    | zero => rfl
    | succ j ih =>
      rcases Nat.lt_or_ge j (olen z) with h | h
      · rw [odeg_take _ j (by rw [length_oz]; exact h), odeg_take _ j (Nat.lt_of_lt_of_le h (olen_le z)), ih, gt_oz, tlen_tr]
      · rw [List.take_of_length_le (by rw [length_oz]; omega)] at ih ⊢
        rcases Nat.lt_or_ge j z.length with h1 | h1
        · have h2 : -1 ≤ odeg (z.take j) := by
            have hb := odeg_low z j (by omega)
            exact hb
          rw [odeg_take _ j h1, ih, olen_zero z j h]
          simp only [Int.natCast_zero]
          omega
        · rw [List.take_of_length_le (by omega)] at ih ⊢
          exact ih
  have := key (max z.length (oz z).length)
  rw [List.take_of_length_le (by omega), List.take_of_length_le (by omega)] at this
  exact this
theorem obit_oz (z : List (List Int)) : obit (oz z) = obit z := by
  have key : ∀ j, obit ((oz z).take j) = obit (z.take j) := by
    intro j
    induction j with
    | zero => rfl
    | succ j ih =>
      rcases Nat.lt_or_ge j (olen z) with h | h
      · rw [obit_take _ j (by rw [length_oz]; exact h), obit_take _ j (Nat.lt_of_lt_of_le h (olen_le z)), ih, gt_oz, pb_trim]
      · rw [List.take_of_length_le (by rw [length_oz]; omega)] at ih ⊢
        rcases Nat.lt_or_ge j z.length with h1 | h1
        · have h2 : pb (gt z j) = 0 := by
            rw [← pb_trim, tr_zero (olen_zero z j h)]
            rfl
          rw [obit_take _ j h1, ih, h2]
          omega
        · rw [List.take_of_length_le (by omega)] at ih ⊢
          exact ih
  have := key (max z.length (oz z).length)
  rw [List.take_of_length_le (by omega), List.take_of_length_le (by omega)] at this
  exact this
theorem rng_oz (z : List (List Int)) : ((List.range (olen z)).map fun i => tr (gt z i)) = oz z := by
  apply List.ext_getElem
  · simp [length_oz]
  · intro i h1 h2
    have h3 : i < olen z := by simpa using h1
    have h4 : i < z.length := Nat.lt_of_lt_of_le h3 (olen_le z)
    simp [oz, gt, h4]
def LastsB {α : Type} (E : World → Nat → Nat → α → Hdr → Prop) : Prop :=
  ∀ {w w' : World} {B T : Nat} {z : α} {h : Hdr}, E w B T z h → T ≤ w.heap.size → (∀ b, B ≤ b → b < T → w'.heap[b]? = w.heap[b]?) → E w' B T z h
theorem EV.same {w w' : World} {K : Nat} {z : Int} {e : Ent} (h : EV w K z e) (hs : 0 < e.n → ∀ a, e.p = some a → w'.heap[a.block]? = w.heap[a.block]?) : EV w' K z e := by
  obtain ⟨xs, k, h2⟩ := h
  refine ⟨xs, ⟨k.len, k.cap, k.bnd, k.sml, fun hx => (k.rd.same fun a ha _ => hs ?_ a ha) hx, k.u⟩, h2⟩
  rw [← k.len]
  exact hx
theorem RE.same {w w' : World} {N : Nat} {z : Int} {e : Ent} (h : RE w N z e) (hs : 0 < e.n → ∀ a, e.p = some a → w'.heap[a.block]? = w.heap[a.block]?) : RE w' N z e := by
  obtain ⟨⟨ds, k, h2⟩, h3⟩ := h
  refine ⟨⟨ds, ⟨k.len, fun hx => (k.rd.same fun a ha _ => hs ?_ a ha) hx, k.u, k.nrm, k.sg, k.sml⟩, h2⟩, h3⟩
  rw [← k.len]
  exact hx
theorem lastsB_EZ (K D : Nat) : LastsB (EZ K D) := fun {w w' B T z h} he hT hs => by
  obtain ⟨fs, k, h1, h2, h3⟩ := he
  refine ⟨fs, ⟨k.el, k.zl, k.cap, k.bnd, k.pn, fun hx => (k.pl.same fun a ha hlt => ?_) hx, fun j hj => (k.ev j hj).same fun hn a ha => ?_⟩, h1, h2, h3⟩
  · have h4 := h2 a ha (by rw [← k.el]; exact hx)
    exact hs _ h4.1 h4.2
  · have h4 := h3 j hj hn a ha
    exact hs _ h4.1 h4.2
theorem lastsB_EY (N D : Nat) : LastsB (EY N D) := fun {w w' B T z h} he hT hs => by
  obtain ⟨fs, k, e1, e2, h1, h2, h3⟩ := he
  refine ⟨fs, ⟨k.el, k.zl, k.cap, k.bnd, fun hx => (k.pl.same fun a ha hlt => ?_) hx, fun j hj => (k.ev j hj).same fun hn a ha => ?_⟩, e1, e2, h1, h2, h3⟩
  · have h4 := h2 a ha (by rw [← k.el]; exact hx)
    exact hs _ h4.1 h4.2
  · have h4 := h3 j hj hn a ha
    exact hs _ h4.1 h4.2
theorem lastsB_HR {α : Type} [Inhabited α] {D : Nat} {E : World → Nat → Nat → α → Hdr → Prop} (L : LastsB E) : LastsB (HR D E) := fun {w w' B T z h} he hT hs => by
  obtain ⟨rs, k⟩ := he
  refine ⟨rs, k.el, k.tl, k.cap, k.bnd, k.pn, k.few, k.hl.same fun a ha hn hlt => ?_, k.at_, fun j hj => L (k.ev j hj) hT hs⟩
  have h1 := k.at_ a ha (by rw [← k.el]; exact hn)
  exact hs _ h1.1 h1.2
structure Kq (lo base : Nat) (w w' : World) : Prop where
  os : w'.os = w.os
  tape : w'.tape = w.tape
  output : w'.output = w.output
  size : w.heap.size ≤ w'.heap.size
  block : ∀ k, k < w.heap.size → (k < lo ∨ base ≤ k) → w'.heap[k]? = w.heap[k]?
section
variable {lo base : Nat} {w w1 w2 : World}
theorem Kq.of (h : Below w.heap.size w w1) : Kq lo base w w1 := ⟨h.os, h.tape, h.output, h.size, fun k hk _ => h.block k hk⟩
theorem Kq.trans (h : Kq lo base w w1) (k : Kq lo base w1 w2) : Kq lo base w w2 :=
  ⟨k.os.trans h.os, k.tape.trans h.tape, k.output.trans h.output, Nat.le_trans h.size k.size, fun i hi hx => (k.block i (Nat.lt_of_lt_of_le hi h.size) hx).trans (h.block i hi hx)⟩
theorem Kq.put (h : Kq lo base w w1) (a : Addr) (v : Value) (ha : (lo ≤ a.block ∧ a.block < base) ∨ w.heap.size ≤ a.block) : Kq lo base w (w1.setCell a v) :=
  ⟨h.os, h.tape, h.output, by simpa [World.setCell] using h.size, fun i hi hx => by
    rw [Below.heap_setCell w1 a v i (by omega)]
    exact h.block i hi hx⟩
end
theorem PN.kp {lo base B : Nat} {w w' : World} {K : Nat} {p : Option Addr} {n : Nat} {es : List Ent} {zs : List Int} (h : PN B w K p n es zs) (hk : Kq lo base w w') (hB : base ≤ B) : PN B w' K p n es zs := by
  refine ⟨h.el, h.zl, h.nrm, h.pl.same fun a ha hlt => hk.block _ hlt (.inr (Nat.le_trans hB (h.fr a ha))), h.fr, fun j hj => ?_⟩
  obtain ⟨xs, k, h2⟩ := h.ev j hj
  have hbl : ∀ a, (ge es j).p = some a → a.block < w.heap.size → w'.heap[a.block]? = w.heap[a.block]? := fun a ha hlt => hk.block _ hlt (.inr (Nat.le_trans hB (k.fr a ha)))
  refine ⟨xs, ⟨k.len, k.rd.same hbl, k.u, k.nrm, k.sg, k.pn, k.v, k.fr, fun a ha => ⟨Nat.lt_of_lt_of_le (k.fz a ha).1 hk.size, fun i => ?_⟩⟩, h2⟩
  have h3 := hbl a ha (k.fz a ha).1
  have h4 := (k.fz a ha).2 i
  simp only [World.frozen?] at h4 ⊢
  rw [h3]
  exact h4
def CK (F : Nat → List Int) (lo base K E g n i : Nat) (w wr : World) : Prop :=
  ∃ hs : List Hdr, HB wr g hs ∧ hs.length = n ∧ (∀ r, r < i → (gh hs r).c = (gh hs r).n ∧ (gh hs r).n ≤ E ∧ ∃ es, PN (g + 1) wr K (gh hs r).p (gh hs r).n es (F r)) ∧ Kq lo base w wr ∧ w.heap.size ≤ g ∧ base ≤ g
theorem CK.step {F : Nat → List Int} {lo base K E g n i : Nat} {w wr v3 : World} {p3 : Option Addr} {n3 : Nat} {es3 : List Ent} (h : CK F lo base K E g n i w wr) (hi : i < n) (hv : Kq lo base wr v3) (hN : PN (g + 1) v3 K p3 n3 es3 (F i)) (hE : n3 ≤ E) : CK F lo base K E g n (i + 1) w (v3.setCell ⟨g, i, none⟩ (.slice p3 n3 n3)) := by
  obtain ⟨hs, h1, h2, h3, h4, h5, h6⟩ := h
  have h1' : HB v3 g hs := (hv.block g h1.lt (.inr h6)).trans h1
  refine ⟨hs.set i ⟨p3, n3, n3⟩, h1'.set i ⟨p3, n3, n3⟩, by simp [h2], fun r hr => ?_, (h4.trans hv).put ⟨g, i, none⟩ _ (.inr h5), h5, h6⟩
  rw [gh_set _ _ _ _ (by omega)]
  by_cases e : r = i
  · subst e
    rw [if_pos rfl]
    exact ⟨rfl, hE, es3, hN.put (Nat.lt_succ_self g) _⟩
  · rw [if_neg e]
    obtain ⟨a, b, es, c⟩ := h3 r (by omega)
    exact ⟨a, b, es, (c.kp hv (by omega)).put (Nat.lt_succ_self g) _⟩
theorem CK.no {F : Nat → List Int} {lo base K E g n : Nat} {w wr : World} (h : CK F lo base K E g n n w wr) : ∃ hs, NO g wr K E ((List.range n).map F) (some ⟨g, 0, none⟩) n hs := by
  obtain ⟨hs, h1, h2, h3, h4, h5, h6⟩ := h
  refine ⟨hs, h2, by simp, fun hp => ⟨g, 0, rfl, fun j hj => by rw [Nat.zero_add]; exact h1.cell j hj⟩, fun a ha => by cases ha; exact Nat.le_refl _, fun j hj => ?_⟩
  obtain ⟨a, b, es, c⟩ := h3 j hj
  refine ⟨a, b, es, ?_⟩
  have e : gt ((List.range n).map F) j = F j := by simp [gt, hj]
  rw [e]
  exact c.mono (Nat.le_succ g)
theorem NO.hrow {B : Nat} {w : World} {K E : Nat} {l : List (List Int)} {p : Option Addr} {n : Nat} {hs : List Hdr} (h : NO B w K E l p n hs) (hK : K ≤ 1000) (hE : E ≤ 1000000) (hn : n ≤ 1000000) : HRow n (EZ K E) w B w.heap.size l ⟨p, n, n⟩ hs := by
  refine ⟨h.el, h.tl, Nat.le_refl _, by show n ≤ maxLen; unfold maxLen; omega, fun e => ?_, Nat.le_refl _, h.hl, fun a ha h0 => ⟨h.fr a ha, ?_⟩, fun j hj => ?_⟩
  · rcases Nat.eq_zero_or_pos n with h0 | h0
    · exact h0
    · obtain ⟨b, o, hb, -⟩ := h.hl (by rw [h.el]; exact h0)
      simp only at e
      rw [hb] at e
      cases e
  · obtain ⟨b, o, hb, hc⟩ := h.hl (by rw [h.el]; exact h0)
    simp only at ha
    rw [hb] at ha
    cases ha
    exact block_lt_of_cell (hc 0 (by rw [h.el]; exact h0))
  · obtain ⟨a, b, es, c⟩ := h.ev j hj
    have h1 := ez_of_pn c hK b hE
    have e : (⟨(gh hs j).p, (gh hs j).n, (gh hs j).n⟩ : Hdr) = gh hs j := by
      generalize gh hs j = x at a
      obtain ⟨x1, x2, x3⟩ := x
      simp only at a
      rw [a]
    rw [e] at h1
    exact h1
def OpK (lo base : Nat) (I : World → Prop) (l : List (List Int)) (K E : Nat) (w : World) (e : Ending) (w' : World) : Prop :=
  ∃ p hs, e = .returned (.slice p (olen l) (olen l)) ∧ NO w.heap.size w' K E (otr l) p (olen l) hs ∧ I w' ∧ Kq lo base w w'
set_option maxRecDepth 100000 in
theorem convert_gen {w : World} {lo base B T K E D K' E' : Nat} {zss : List (List Int)} {h : Hdr} {hs : List Hdr} (H : HRow D (EZ K E) w B T zss h hs) (hT : T ≤ w.heap.size) (hB : base ≤ B) (hbw : base ≤ w.heap.size) (hD : D ≤ 1000) (hE : E ≤ 1000000) (hK' : K' ≤ 1000) (hE' : E' ≤ 1000000) (J : Nat) (C : Array Value) (hE0 : ∀ args w', Sem.run Tryz.prog (callFunc J args) w' = .ok (.enter J args) w') (F : Nat → List Int) (I : Nat → World → Prop)
    (hI : ∀ i w1 w2, I i w1 → Below base w1 w2 → I i w2) (hI0 : I 0 w)
    (hJ : ∀ wq i, i < olen zss → Kq lo base w wq → I i wq → EZ K E wq B T (gt zss i) (gh hs i) → Calls Tryz.prog J (#[Hdr.val (gh hs i)] ++ C) wq fun e w' => ∃ p n es, e = .returned (.slice p n n) ∧ PN wq.heap.size w' K' p n es (F i) ∧ I (i + 1) w' ∧ Kq lo base wq w') (hF : ∀ i, i < olen zss → (F i).length ≤ E') :
    Calls Tryz.prog 91 #[.slice h.p h.n h.c, .func (.func J) #[] C] w (OpK lo base (I (olen zss)) ((List.range (olen zss)).map F) K' E' w) := by
  have ht := otrim_any ⟨hs, H⟩ hT (by omega) hE
  have k := H
  have hol := olen_le zss
  have hn : olen zss ≤ D := by have h1 := k.tl; have h2 := k.few; omega
  have HX : Hid (HRow D (EZ K E) w B T (zss.take (olen zss)) ⟨h.p, olen zss, olen zss⟩ (hs.take (olen zss)) ∧ T ≤ w.heap.size ∧ base ≤ B ∧ base ≤ w.heap.size) := ⟨k.cut _ (by have := k.tl; omega), hT, hB, hbw⟩
  obtain ⟨p, n, nc⟩ := h
  simp only at ht HX ⊢
  have HJ := (show Hid _ from hJ)
  have HF := (show Hid _ from hF)
  have HI := (show Hid _ from hI)
  clear hJ hF k hT hI hB hbw H
  generalize hm : olen zss = m at *
  have hmk := mk_ops m (by omega)
  go_enter Tryz.func91, Tryz.ntmps91
  go_wp2_with fail
  go_fit ht
  rintro e w1 ⟨rfl, hb1⟩
  have HB1 : Hid (Below w.heap.size w w1) := hb1
  clear ht hb1
  go_wp2_with fail
  have HO : Hid (CK F lo base K' E' w1.heap.size m 0 w (w1.alloc (.cells ((hzs m).map Hdr.val).toArray 26)) ∧ I 0 (w1.alloc (.cells ((hzs m).map Hdr.val).toArray 26))) :=
    ⟨⟨hzs m, heap_alloc_new w1 _, by simp [hzs], fun r hr => absurd hr (Nat.not_lt_zero r), Kq.of (HB1.out.alloc HB1.out.size _), HB1.out.size, Nat.le_trans HX.out.2.2.2 HB1.out.size⟩, HI.out 0 w _ hI0 ((HB1.out.alloc HB1.out.size _).mono HX.out.2.2.2)⟩
  have HG1 : Hid (w.heap.size ≤ w1.heap.size ∧ base ≤ w1.heap.size) := ⟨HB1.out.size, Nat.le_trans HX.out.2.2.2 HB1.out.size⟩
  generalize w1.alloc (.cells ((hzs m).map Hdr.val).toArray 26) = W1 at *
  generalize w1.heap.size = g at *
  clear hmk HB1 hI0
  go_loopw [15] (fun kv wr => ∃ i : Nat, i ≤ m ∧ kv = .int .i64 i ∧ Hid (CK F lo base K' E' g m i w wr ∧ I i wr)) (fun kv _ => m - (intOf kv).toNat)
  case atStart => exact ⟨0, Nat.zero_le _, by go_num, HO.out⟩
  case round =>
    obtain ⟨i, hi, rfl, G⟩ := hrel
    rcases Nat.lt_or_ge i m with hlt | hge
    · obtain ⟨⟨os, g1, g2, g3, g4, g5, g6⟩, gI⟩ := G.out
      have i1 : (i : Int) < (m : Int) := by omega
      obtain ⟨b, o, hp, hc⟩ := HX.out.1.hl (by rw [HX.out.1.el]; show 0 < m; omega)
      simp only at hp
      subst hp
      have c0 := hc i (by rw [HX.out.1.el]; exact hlt)
      have hbB := HX.out.1.at_ ⟨b, o, none⟩ rfl (by show 0 < m; omega)
      have hbl : ∀ k, B ≤ k → k < T → wr.heap[k]? = w.heap[k]? := fun k h1 h2 => g4.block k (Nat.lt_of_lt_of_le h2 HX.out.2.1) (.inr (Nat.le_trans HX.out.2.2.1 h1))
      have c1 : wr.cell? ⟨b, o + i, none⟩ = some (gh (hs.take m) i).val := by rw [World.cell?_of_block (a := ⟨b, o + i, none⟩) (hbl b hbB.1 hbB.2)]; exact c0
      have hE2 := lastsB_EZ K E (HX.out.1.ev i hlt) HX.out.2.1 hbl
      rw [gt_take _ _ _ hlt, gh_take _ _ _ hlt] at hE2
      rw [gh_take _ _ _ hlt] at c1
      have hcall := HJ.out wr i hlt g4 gI hE2
      generalize gh hs i = hd at c1 hE2 hcall
      obtain ⟨p2, n2, nc2⟩ := hd
      simp only [Hdr.val] at c1 hcall
      have hg1 := g1
      have hlg := g1.lt
      clear hc c0 hE2 g1 g3 hbl gI
      go_wp2_with fail
      go_fit hcall
      rintro e v3 ⟨p8, n8, es8, rfl, hN8, hI8, hb3⟩
      have hg3 : HB v3 g os := (hb3.block g hlg (.inr g6)).trans hg1
      have z0 := hg3.cell i (by omega)
      have f0 := hg3.frozen i
      have hle : n8 ≤ E' := by have h1 := HF.out i hlt; rw [hN8.zl] at h1; exact h1
      have hstep := G.out.1.step hlt hb3 (hN8.mono hlg) hle
      have HST : Hid (CK F lo base K' E' g m (i + 1) w (v3.setCell ⟨g, i, none⟩ (.slice p8 n8 n8)) ∧ I (i + 1) (v3.setCell ⟨g, i, none⟩ (.slice p8 n8 n8))) := ⟨hstep, HI.out _ _ _ hI8 ((Below.refl base v3).setCell (p := ⟨g, i, none⟩) g6 _)⟩
      clear hstep hN8 hb3 hcall c1 hI8 hg3
      go_wp2
      go_roundw
      case rel => exact ⟨i + 1, by omega, by go_num, HST.out⟩
      case measure => simp [intOf]; omega
    · obtain rfl : i = m := by omega
      have i1 : ¬ (i : Int) < (i : Int) := by omega
      obtain ⟨os, hN⟩ := G.out.1.no
      have HBW : Hid (Kq lo base w wr ∧ I i wr) := by obtain ⟨⟨_, _, _, _, h4, _⟩, h5⟩ := G.out; exact ⟨h4, h5⟩
      have ht2 := otrim_any (hN.hr hK' hE' (by omega)) (Nat.le_refl _) (by omega) hE'
      have HN : Hid (NO g wr K' E' ((List.range i).map F) (some ⟨g, 0, none⟩) i os) := hN
      simp only at ht2
      clear hN G
      go_wp2_with fail
      go_fit ht2
      rintro e w3 ⟨rfl, hb3⟩
      have hle := olen_le ((List.range i).map F)
      rw [List.length_map, List.length_range] at hle
      have HR' : Hid (OpK lo base (I i) ((List.range i).map F) K' E' w (.returned (.slice (some ⟨g, 0, none⟩) (olen ((List.range i).map F)) (olen ((List.range i).map F)))) w3) :=
        ⟨some ⟨g, 0, none⟩, os.take _, rfl, ((HN.out.below hb3).cut hle).mono HG1.out.1, HI.out _ _ _ HBW.out.2 (hb3.mono (Nat.le_trans HX.out.2.2.2 HBW.out.1.size)), HBW.out.1.trans (Kq.of hb3)⟩
      clear hb3 ht2 hle
      generalize olen ((List.range i).map F) = q at *
      go_wp2
      go_ret
      exact HR'.out
end Go.Proofs.YtifebbacnlhggaaGreatDoor
