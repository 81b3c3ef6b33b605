/-
  ashlarref8.Order (out of Aj).
-/
import Derived.Test.YtifebbacnlhggaaGreatDoorDsAeVuWxUpUqRm
import Derived.Test.YtifebbacnlhggaaGreatDoorAbDnDoAc
import Derived.Test.YtifebbacnlhggaaGreatDoorVqDcUj
import Derived.Deep.DeepFit
import Derived.Test.YtifebbacnlhggaaGreatDoorRkUi
import Derived.Test.YtifebbacnlhggaaGreatDoorLnWrIbWgUeUfUg
import Derived.Test.YtifebbacnlhggaaGreatDoorUlUmVsUoDmVt
import Derived.Test.YtifebbacnlhggaaGreatDoorUaVgOnWhPnWk
import Derived.Test.YtifebbacnlhggaaGreatDoorReRxRfRhCqRrRwVa
import Derived.Test.YtifebbacnlhggaaGreatDoorWlBxBbCvNjUbUcUdOwRaWmBeRd
namespace Go.Proofs.YtifebbacnlhggaaGreatDoor
open Go.RowKit
set_option linter.unusedVariables false
set_option linter.unusedSimpArgs false
set_option maxHeartbeats 8000000
theorem rOrder8_any (w : World) (p : Option Addr) (n nc : Nat) (hn : n ≤ 1000000) :
    Calls Tryz.prog 117 #[.slice p n nc] w fun e w' => e = .returned (.int .i64 ((n : Int) - 1)) ∧ w' = w := by
  have v1 : IntKind.i64.wrap ((n : Int) - 1) = (n : Int) - 1 := by rw [IntKind.wrap_i64]; omega
  go_enter Tryz.func117, Tryz.ntmps117
  go_wp2
  go_ret
  exact ⟨by simp [go_sem, v1], rfl⟩
theorem hr_len {w : World} {B T K E D : Nat} {zss : List (List Int)} {h : Hdr} (H : HR D (EZ K E) w B T zss h) (i : Nat) : (gt zss i).length ≤ E := by
  obtain ⟨rs, hr⟩ := H
  rcases Nat.lt_or_ge i zss.length with hk | hk
  · obtain ⟨fs, hP, hd, -⟩ := hr.ev i (by rw [← hr.tl]; exact hk)
    rw [hP.zl]
    exact hd
  · rw [gt_over0 _ _ hk]
    exact Nat.zero_le _
theorem cell_later' {w w' : World} {a : Addr} {v : Value} (hb : Below w.heap.size w w') (h : w.cell? a = some v) : w'.cell? a = some v := by
  rw [hb.cell (block_lt_of_cell h)]
  exact h
theorem oOrder_any {w : World} {B T K E D : Nat} {zss : List (List Int)} {h : Hdr} (H : HR D (EZ K E) w B T zss h) (hT : T ≤ w.heap.size) (hD : D ≤ 1000000) (hE : E ≤ 1000000) :
    Calls Tryz.prog 38 #[.slice h.p h.n h.c] w fun e w' => e = .returned (.int .i64 ((olen zss : Int) - 1)) ∧ Below w.heap.size w w' := by
  have ht := otrim_any H hT hD hE
  have hl : olen zss ≤ 1000000 := by
    obtain ⟨hs, k⟩ := H
    have h1 := olen_le zss
    have h2 := k.tl
    have h3 := k.few
    omega
  obtain ⟨p, n, nc⟩ := h
  simp only at ht ⊢
  clear H hT
  generalize olen zss = m at *
  have v1 : IntKind.i64.wrap ((m : Int) - 1) = (m : Int) - 1 := by rw [IntKind.wrap_i64]; omega
  go_enter Tryz.func38, Tryz.ntmps38
  go_wp2_with fail
  go_fit ht
  rintro e w1 ⟨rfl, hb⟩
  clear ht
  go_wp2
  go_ret
  exact ⟨by simp [go_sem, v1], hb⟩
def odeg (zss : List (List Int)) : Int := zss.foldl (fun m z => max m ((tlen z : Int) - 1)) (-1)
def obit (zss : List (List Int)) : Nat := zss.foldl (fun m z => max m (pb z)) 0
theorem odeg_take (zss : List (List Int)) (j : Nat) (h : j < zss.length) : odeg (zss.take (j + 1)) = max (odeg (zss.take j)) ((tlen (gt zss j) : Int) - 1) := by
  unfold odeg
  rw [List.take_succ_eq_append_getElem h, List.foldl_append]
  simp [gt, h]
theorem obit_take (zss : List (List Int)) (j : Nat) (h : j < zss.length) : obit (zss.take (j + 1)) = max (obit (zss.take j)) (pb (gt zss j)) := by
  unfold obit
  rw [List.take_succ_eq_append_getElem h, List.foldl_append]
  simp [gt, h]
def oz (zss : List (List Int)) : List (List Int) := (zss.take (olen zss)).map tr
theorem odeg_bd {E : Nat} (zss : List (List Int)) (h : ∀ j, (gt zss j).length ≤ E) : ∀ j, j ≤ zss.length → -1 ≤ odeg (zss.take j) ∧ odeg (zss.take j) ≤ E := by
  intro j
  induction j with
  | zero => intro _; simp [odeg]
  | succ j ih =>
    intro hj
    have h1 := ih (by omega)
    have h2 := h j
    have h3 := tlen_le (gt zss j)
    rw [odeg_take zss j (by omega)]
    omega
theorem obit_bd {E : Nat} (zss : List (List Int)) (h : ∀ j, j < zss.length → pb (gt zss j) ≤ E) : ∀ j, j ≤ zss.length → obit (zss.take j) ≤ E := by
  intro j
  induction j with
  | zero => intro _; simp [obit]
  | succ j ih =>
    intro hj
    have h1 := ih (by omega)
    have h2 := h j (by omega)
    rw [obit_take zss j (by omega)]
    omega
set_option maxRecDepth 100000 in
theorem oDegree_any {w : World} {B T K E D : Nat} {zss : List (List Int)} {h : Hdr} (H : HR D (EZ K E) w B T zss h) (hT : T ≤ w.heap.size) (hD : D ≤ 1000000) (hE : E ≤ 1000000) :
    Calls Tryz.prog 112 #[.slice h.p h.n h.c] w fun e w' => e = .returned (.int .i64 (odeg zss)) ∧ Below w.heap.size w w' := by
  have hlen := hr_len H
  have HBD := (show Hid _ from odeg_bd zss hlen)
  obtain ⟨hs, k⟩ := H
  have HX : Hid (HRow D (EZ K E) w B T zss h hs ∧ T ≤ w.heap.size) := ⟨k, hT⟩
  have hn : h.n ≤ D := k.few
  have HL : Hid (zss.length = h.n) := k.tl
  obtain ⟨p, n, nc⟩ := h
  simp only at hn HL ⊢
  clear k hT hlen
  go_enter Tryz.func112, Tryz.ntmps112
  go_wp2_with fail
  go_loopw [3, 8] (fun mv kv wr => ∃ i : Nat, i ≤ n ∧ mv = .int .i64 (odeg (zss.take i)) ∧ kv = .int .i64 i ∧ Hid (Below w.heap.size w wr)) (fun _ kv _ => n - (intOf kv).toNat)
  case atStart => exact ⟨0, Nat.zero_le _, by simp [odeg], by go_num, Below.refl _ _⟩
  case round =>
    obtain ⟨i, hi, rfl, rfl, G⟩ := hrel
    rcases Nat.lt_or_ge i n with hlt | hge
    · have g4 := G.out
      obtain ⟨b, o, hp, hc⟩ := HX.out.1.hl (by rw [HX.out.1.el]; show 0 < n; omega)
      simp only at hp
      subst hp
      have c0 := hc i (by rw [HX.out.1.el]; exact hlt)
      have c1 : wr.cell? ⟨b, o + i, none⟩ = some (gh hs i).val := cell_later' g4 c0
      have hE2 := (lasts_EZ K E).below (HX.out.1.ev i hlt) HX.out.2 g4
      generalize gh hs i = hd at c1 hE2
      obtain ⟨p2, n2, nc2⟩ := hd
      simp only [Hdr.val] at c1
      obtain ⟨es2, hP2, hd3, -, -⟩ := hE2
      simp only at hP2 hd3
      have i1 : (i : Int) < (n : Int) := by omega
      have hcall := uDeg_any K p2 n2 nc2 es2 (gt zss i) wr hP2 (by omega)
      have HT : Hid (odeg (zss.take (i + 1)) = max (odeg (zss.take i)) ((tlen (gt zss i) : Int) - 1)) := odeg_take zss i (by have := HL.out; omega)
      clear hc c0 hP2 g4
      go_wp2_with fail
      go_fit hcall
      rintro e w1 ⟨rfl, hb1⟩
      have HB1 : Hid (Below w.heap.size w w1) := bnext' G.out hb1
      clear c1 hcall hb1
      obtain ⟨M, hM⟩ : ∃ M, odeg (zss.take (i + 1)) = M := ⟨_, rfl⟩
      have HEQ := (show Hid _ from hM)
      rw [hM] at HT
      clear hM
      generalize odeg (zss.take i) = d at *
      generalize (tlen (gt zss i) : Int) - 1 = t at *
      have h4 : max d t = M := HT.out.symm
      go_wp2
      go_roundw
      case rel => exact ⟨i + 1, by omega, by rw [HEQ.out], by go_num, HB1.out⟩
      case measure => simp [intOf]; omega
    · obtain rfl : i = n := by omega
      have i1 : ¬ (i : Int) < (i : Int) := by omega
      have HZ : Hid (zss.take i = zss) := List.take_of_length_le (by have := HL.out; omega)
      go_wp2
      go_ret
      exact ⟨by rw [HZ.out]; rfl, G.out⟩
set_option maxRecDepth 100000 in
theorem oBits_any {w : World} {B T K E D : Nat} {zss : List (List Int)} {h : Hdr} (H : HR D (EZ K E) w B T zss h) (hT : T ≤ w.heap.size) (hD : D ≤ 1000000) (hE : E ≤ 1000000) (hK : K ≤ 1000) :
    Calls Tryz.prog 113 #[.slice h.p h.n h.c] w fun e w' => e = .returned (.int .i64 (obit zss)) ∧ Below w.heap.size w w' := by
  obtain ⟨hs, k⟩ := H
  have HX : Hid (HRow D (EZ K E) w B T zss h hs ∧ T ≤ w.heap.size) := ⟨k, hT⟩
  have hn : h.n ≤ D := k.few
  have HL : Hid (zss.length = h.n) := k.tl
  obtain ⟨p, n, nc⟩ := h
  simp only at hn HL ⊢
  clear k hT
  go_enter Tryz.func113, Tryz.ntmps113
  go_wp2_with fail
  go_loopw [3, 8] (fun mv kv wr => ∃ i : Nat, i ≤ n ∧ mv = .int .i64 (obit (zss.take i)) ∧ kv = .int .i64 i ∧ Hid (Below w.heap.size w wr)) (fun _ kv _ => n - (intOf kv).toNat)
  case atStart => exact ⟨0, Nat.zero_le _, by simp [obit], by go_num, Below.refl _ _⟩
  case round =>
    obtain ⟨i, hi, rfl, rfl, G⟩ := hrel
    rcases Nat.lt_or_ge i n with hlt | hge
    · have g4 := G.out
      obtain ⟨b, o, hp, hc⟩ := HX.out.1.hl (by rw [HX.out.1.el]; show 0 < n; omega)
      simp only at hp
      subst hp
      have c0 := hc i (by rw [HX.out.1.el]; exact hlt)
      have c1 : wr.cell? ⟨b, o + i, none⟩ = some (gh hs i).val := cell_later' g4 c0
      have hE2 := (lasts_EZ K E).below (HX.out.1.ev i hlt) HX.out.2 g4
      generalize gh hs i = hd at c1 hE2
      obtain ⟨p2, n2, nc2⟩ := hd
      simp only [Hdr.val] at c1
      obtain ⟨es2, hP2, hd3, -, -⟩ := hE2
      simp only at hP2 hd3
      have i1 : (i : Int) < (n : Int) := by omega
      have hcall := uBits_any hP2 (by omega) hK
      have HT : Hid (obit (zss.take (i + 1)) = max (obit (zss.take i)) (pb (gt zss i))) := obit_take zss i (by have := HL.out; omega)
      clear hc c0 hP2 g4
      go_wp2_with fail
      go_fit hcall
      rintro e w1 ⟨rfl, -, hb1⟩
      have HB1 : Hid (Below w.heap.size w w1) := bnext' G.out hb1
      clear c1 hcall hb1
      obtain ⟨M, hM⟩ : ∃ M, obit (zss.take (i + 1)) = M := ⟨_, rfl⟩
      have HEQ := (show Hid _ from hM)
      rw [hM] at HT
      clear hM
      generalize obit (zss.take i) = d at *
      generalize pb (gt zss i) = t at *
      have h4 : max (d : Int) (t : Int) = (M : Int) := by have := HT.out; omega
      go_wp2
      go_roundw
      case rel => exact ⟨i + 1, by omega, by rw [HEQ.out], by go_num, HB1.out⟩
      case measure => simp [intOf]; omega
    · obtain rfl : i = n := by omega
      have i1 : ¬ (i : Int) < (i : Int) := by omega
      have HZ : Hid (zss.take i = zss) := List.take_of_length_le (by have := HL.out; omega)
      go_wp2
      go_ret
      exact ⟨by rw [HZ.out]; rfl, G.out⟩
theorem ez_nil (K E : Nat) (w : World) (B T : Nat) : EZ K E w B T [] ⟨none, 0, 0⟩ :=
  ⟨[], ⟨rfl, rfl, Nat.le_refl _, Nat.zero_le _, fun _ => rfl, PL.nil, fun j hj => absurd hj (Nat.not_lt_zero j)⟩, Nat.zero_le _, nofun, fun j hj => absurd hj (Nat.not_lt_zero j)⟩
theorem oentry_any {w : World} {B T K E D : Nat} {zss : List (List Int)} {h : Hdr} (H : HR D (EZ K E) w B T zss h) (i : Nat) (hD : D ≤ 1000) (hi : i ≤ 1000) :
    Calls Tryz.prog 128 #[.slice h.p h.n h.c, .int .i64 i] w fun e w' => ∃ hd, e = .returned (Hdr.val hd) ∧ EZ K E w B T (gt zss i) hd ∧ w' = w := by
  obtain ⟨hs, k⟩ := H
  have HX : Hid (HRow D (EZ K E) w B T zss h hs) := k
  have hn := k.few
  obtain ⟨p, n, nc⟩ := h
  simp only at hn ⊢
  clear k
  rcases Nat.lt_or_ge i n with hlt | hge
  · obtain ⟨b, o, hp, hc⟩ := HX.out.hl (by rw [HX.out.el]; show 0 < n; omega)
    simp only at hp
    subst hp
    have c0 := hc i (by rw [HX.out.el]; exact hlt)
    have HE : Hid (EZ K E w B T (gt zss i) (gh hs i)) := HX.out.ev i hlt
    have i1 : (i : Int) < (n : Int) := by omega
    generalize gh hs i = hd at c0 HE
    obtain ⟨p2, n2, nc2⟩ := hd
    simp only [Hdr.val] at c0
    clear hc
    go_enter Tryz.func128, Tryz.ntmps128
    go_wp2
    go_ret
    exact ⟨⟨p2, n2, nc2⟩, rfl, HE.out, rfl⟩
  · have HE : Hid (EZ K E w B T (gt zss i) ⟨none, 0, 0⟩) := by
      rw [gt_over0 _ _ (by have := HX.out.tl; simp only at this; omega)]
      exact ez_nil K E w B T
    have i1 : ¬ (i : Int) < (n : Int) := by omega
    go_enter Tryz.func128, Tryz.ntmps128
    go_wp2
    go_ret
    exact ⟨⟨none, 0, 0⟩, rfl, HE.out, rfl⟩
theorem tr_cut (zss : List (List Int)) (i : Nat) : tr (gt (zss.take (olen zss)) i) = tr (gt zss i) := by
  rcases Nat.lt_or_ge i (olen zss) with h | h
  · rw [gt_take _ _ _ h]
  · rw [gt_over0 _ _ (by have := olen_le zss; simp; omega)]
    have h1 := olen_zero zss i h
    rw [tr, tr, h1]
    simp
set_option maxRecDepth 100000 in
theorem combine_any {w : World} {B T K E D B2 T2 L E2 D2 K' E' : Nat} {zss yss : List (List Int)} {h k : Hdr} (H : HR D (EZ K E) w B T zss h) (G : HR D2 (EZ L E2) w B2 T2 yss k) (hT : T ≤ w.heap.size) (hT2 : T2 ≤ w.heap.size) (hD : D ≤ 1000) (hD2 : D2 ≤ 1000) (hE : E ≤ 1000000) (hE2 : E2 ≤ 1000000) (hK' : K' ≤ 1000) (hE' : E' ≤ 1000000) (J : Nat) (hE0 : ∀ args w', Sem.run Tryz.prog (callFunc J args) w' = .ok (.enter J args) w') (F : List Int → List Int → List Int)
    (hJ : ∀ wq i (x y : List Int) hd ke, EZ K E wq B T x hd → EZ L E2 wq B2 T2 y ke → tr x = tr (gt zss i) → tr y = tr (gt yss i) → Calls Tryz.prog J #[Hdr.val hd, Hdr.val ke] wq (PnP (F (tr (gt zss i)) (tr (gt yss i))) K' wq)) (hF : ∀ i, (F (tr (gt zss i)) (tr (gt yss i))).length ≤ E') :
    Calls Tryz.prog 83 #[.slice h.p h.n h.c, .slice k.p k.n k.c, .func (.func J) #[] #[]] w (OpP ((List.range (max (olen zss) (olen yss))).map fun i => F (tr (gt zss i)) (tr (gt yss i))) K' E' w) := by
  have ht := fun w' (hb : Below w.heap.size w w') => otrim_any ((lasts_HR (lasts_EZ L E2)).below G hT2 hb) (Nat.le_trans hT2 hb.size) (by omega) hE2
  have hs := otrim_any H hT (by omega) hE
  obtain ⟨hs1, kh⟩ := H
  obtain ⟨hs2, kk⟩ := G
  have hol := olen_le zss
  have hol2 := olen_le yss
  have hm : olen zss ≤ D := by have h1 := kh.tl; have h2 := kh.few; omega
  have hm2 : olen yss ≤ D2 := by have h1 := kk.tl; have h2 := kk.few; omega
  have HX : Hid (HR D (EZ K E) w B T (zss.take (olen zss)) ⟨h.p, olen zss, olen zss⟩ ∧ T ≤ w.heap.size) := ⟨⟨_, kh.cut _ (by have := kh.tl; omega)⟩, hT⟩
  have HY : Hid (HR D2 (EZ L E2) w B2 T2 (yss.take (olen yss)) ⟨k.p, olen yss, olen yss⟩ ∧ T2 ≤ w.heap.size) := ⟨⟨_, kk.cut _ (by have := kk.tl; omega)⟩, hT2⟩
  obtain ⟨p, n, nc⟩ := h
  obtain ⟨q, m, mc⟩ := k
  simp only at ht hs HX HY ⊢
  have HJ := (show Hid _ from hJ)
  have HF := (show Hid _ from hF)
  clear hJ hF kh kk hT hT2 hol hol2
  have HOL : Hid (olen zss ≤ D ∧ olen yss ≤ D2) := ⟨hm, hm2⟩
  generalize hz : olen zss = a at *
  generalize hy : olen yss = b at *
  obtain ⟨M, hM⟩ : ∃ M, M = max a b := ⟨_, rfl⟩
  rw [← hM]
  have hmk := mk_ops M (by omega)
  have q1 : max (a : Int) (b : Int) = (M : Int) := by omega
  have HM : Hid (M = max a b) := hM
  have hM3 : M ≤ 1000 := by omega
  clear hM
  go_enter Tryz.func83, Tryz.ntmps83
  go_wp2_with fail
  go_fit hs
  rintro e w1 ⟨rfl, hb1⟩
  have HB1 : Hid (Below w.heap.size w w1) := hb1
  have ht1 := ht w1 hb1
  clear hs ht hb1
  go_wp2_with fail
  go_fit ht1
  rintro e w2 ⟨rfl, hb2⟩
  have HB2 : Hid (Below w.heap.size w w2) := bnext' HB1.out hb2
  clear ht1 hb2 HB1
  go_wp2_with fail
  have HO : Hid (CB (fun i => F (tr (gt zss i)) (tr (gt yss i))) K' E' w2.heap.size M 0 w (w2.alloc (.cells ((hzs M).map Hdr.val).toArray 26))) :=
    ⟨hzs M, heap_alloc_new w2 _, by simp [hzs], fun r hr => absurd hr (Nat.not_lt_zero r), HB2.out.alloc HB2.out.size _, HB2.out.size⟩
  have HG1 : Hid (w.heap.size ≤ w2.heap.size) := HB2.out.size
  generalize w2.alloc (.cells ((hzs M).map Hdr.val).toArray 26) = W1 at *
  generalize w2.heap.size = g at *
  clear hmk HB2
  go_loopw [21] (fun kv wr => ∃ i : Nat, i ≤ M ∧ kv = .int .i64 i ∧ Hid (CB (fun i => F (tr (gt zss i)) (tr (gt yss i))) K' E' g M i w wr)) (fun kv _ => M - (intOf kv).toNat)
  case atStart => exact ⟨0, Nat.zero_le _, by go_num, HO.out⟩
  case round =>
    obtain ⟨i, hi, rfl, G⟩ := hrel
    rcases Nat.lt_or_ge i M with hlt | hge
    · obtain ⟨os, g1, g2, g3, g4, g5⟩ := G.out
      have i1 : (i : Int) < (M : Int) := by omega
      have ha := oentry_any ((lasts_HR (lasts_EZ K E)).below HX.out.1 HX.out.2 g4) i hD (by omega)
      have hb := oentry_any ((lasts_HR (lasts_EZ L E2)).below HY.out.1 HY.out.2 g4) i hD2 (by omega)
      have HT1 : Hid (tr (gt (zss.take a) i) = tr (gt zss i) ∧ tr (gt (yss.take b) i) = tr (gt yss i)) := by
        rw [← hz, ← hy]
        exact ⟨tr_cut zss i, tr_cut yss i⟩
      have hg1 := g1
      have hlg := g1.lt
      simp only at ha hb
      clear g1 g3
      go_wp2_with fail
      go_fit ha
      rintro e v1 ⟨⟨p2, n2, nc2⟩, rfl, e2, hw⟩
      subst v1
      have HE2 : Hid (EZ K E wr B T (gt (zss.take a) i) ⟨p2, n2, nc2⟩) := e2
      clear e2 ha
      simp only [Hdr.val]
      go_wp2_with fail
      go_fit hb
      rintro e v1 ⟨⟨p3, n3, nc3⟩, rfl, e3, hw⟩
      subst v1
      have hcall := HJ.out wr i _ _ _ _ HE2.out e3 HT1.out.1 HT1.out.2
      clear e3 hb HE2
      simp only [Hdr.val] at hcall ⊢
      go_wp2_with fail
      go_fit hcall
      rintro e v3 ⟨p8, n8, es8, rfl, hN8, hb3⟩
      have z0 := (hg1.below hb3 hlg).cell i (by omega)
      have f0 := (hg1.below hb3 hlg).frozen i
      have hle : n8 ≤ E' := by have h1 := HF.out i; rw [hN8.zl] at h1; exact h1
      have hstep := G.out.step hlt hb3 (hN8.mono hlg) hle
      have HST := (show Hid _ from hstep)
      clear hstep hN8 hb3 hcall
      go_wp2
      go_roundw
      case rel => exact ⟨i + 1, by omega, by go_num, HST.out⟩
      case measure => simp [intOf]; omega
    · obtain rfl : i = M := by omega
      have i1 : ¬ (i : Int) < (i : Int) := by omega
      obtain ⟨os, hN⟩ := G.out.no
      have HBW : Hid (Below w.heap.size w wr) := by obtain ⟨_, _, _, _, h4, _⟩ := G.out; exact h4
      have ht2 := otrim_any (hN.hr hK' hE' (by omega)) (Nat.le_refl _) (by omega) hE'
      have HN : Hid (NO g wr K' E' ((List.range i).map fun i => F (tr (gt zss i)) (tr (gt yss i))) (some ⟨g, 0, none⟩) i os) := hN
      simp only at ht2
      clear hN G
      go_wp2_with fail
      go_fit ht2
      rintro e w3 ⟨rfl, hb3⟩
      have hle := olen_le ((List.range i).map fun i => F (tr (gt zss i)) (tr (gt yss i)))
      rw [List.length_map, List.length_range] at hle
      have HR' : Hid (OpP ((List.range i).map fun i => F (tr (gt zss i)) (tr (gt yss i))) K' E' w (.returned (.slice (some ⟨g, 0, none⟩) (olen ((List.range i).map fun i => F (tr (gt zss i)) (tr (gt yss i)))) (olen ((List.range i).map fun i => F (tr (gt zss i)) (tr (gt yss i)))))) w3) :=
        ⟨some ⟨g, 0, none⟩, os.take _, rfl, ((HN.out.below hb3).cut hle).mono HG1.out, bnext' HBW.out hb3⟩
      clear hb3 ht2 hle
      generalize olen ((List.range i).map fun i => F (tr (gt zss i)) (tr (gt yss i))) = q at *
      go_wp2
      go_ret
      exact HR'.out
theorem callAddU (args : Array Value) (w' : World) : Sem.run Tryz.prog (callFunc 77 args) w' = .ok (.enter 77 args) w' := by
  have h1 : ¬ Tryz.f77.name = "runtime.NumGoroutine" := of_decide_eq_false (by kernel_rfl)
  have h2 : ¬ Tryz.f77.body = none := fun h => by cases h
  simp only [callFunc, Tryz.func77, go_sem]
  simp [h1, h2, go_sem]
theorem pzlen (f : Int → Int → Int) (a b : List Int) (E : Nat) (ha : a.length ≤ E) (hb : b.length ≤ E) : (tr (pz f (tr a) (tr b))).length ≤ E := by
  rw [length_tr]
  refine Nat.le_trans (tlen_le _) ?_
  have h1 := length_tr a
  have h2 := length_tr b
  have h3 := tlen_le a
  have h4 := tlen_le b
  simp only [pz, List.length_map, List.length_range]
  omega
def opz (f : Int → Int → Int) (a b : List (List Int)) : List (List Int) := (List.range (max (olen a) (olen b))).map fun i => tr (pz f (tr (gt a i)) (tr (gt b i)))
theorem oAdd_any {w : World} {B T K E D B2 T2 L D2 : Nat} {zss yss : List (List Int)} {h k : Hdr} (H : HR D (EZ K E) w B T zss h) (G : HR D2 (EZ L E) w B2 T2 yss k) (hT : T ≤ w.heap.size) (hT2 : T2 ≤ w.heap.size) (hD : D ≤ 1000) (hD2 : D2 ≤ 1000) (hE : E ≤ 1000000) (hK : K + L + 1 ≤ 1000) :
    Calls Tryz.prog 37 #[.slice h.p h.n h.c, .slice k.p k.n k.c] w (OpP (opz (· + ·) zss yss) (K + L + 1) E w) := by
  have hc := combine_any (K' := K + L + 1) (E' := E) H G hT hT2 hD hD2 hE hE hK hE 77 callAddU (fun x y => tr (pz (· + ·) x y)) (fun wq i x y hd ke hx hy ex ey => by
    obtain ⟨fs, hP, hd3, -⟩ := hx
    obtain ⟨gs, hQ, hd4, -⟩ := hy
    have := uAdd_any hP hQ (by omega) (by omega) hK
    rw [ex, ey] at this
    exact this) (fun i => pzlen _ _ _ E (hr_len H i) (hr_len G i))
  clear H G
  obtain ⟨p, n, nc⟩ := h
  obtain ⟨q, m, mc⟩ := k
  change Calls _ _ _ _ (OpP (opz (· + ·) zss yss) (K + L + 1) E w) at hc
  simp only at hc ⊢
  generalize opz (· + ·) zss yss = l at *
  go_enter Tryz.func37, Tryz.ntmps37
  go_wp2_with fail
  go_fit hc
  rintro e w1 ⟨q, hs, rfl, h1, h2⟩
  have HR' : Hid (OpP l (K + L + 1) E w (.returned (.slice q (olen l) (olen l))) w1) := ⟨q, hs, rfl, h1, h2⟩
  clear hc h1 h2
  generalize olen l = m at *
  go_wp2
  go_ret
  exact HR'.out
theorem pb_trim (zs : List Int) : pb (tr zs) = pb zs := by
  have step : ∀ j, tlen zs ≤ j → j ≤ zs.length → pb (zs.take j) = pb (tr zs) := by
    intro j
    induction j with
    | zero => intro h1 _; have : tlen zs = 0 := by omega
              rw [tr, this]
    | succ j ih =>
      intro h1 h2
      rcases Nat.lt_or_ge j (tlen zs) with h | h
      · have : tlen zs = j + 1 := by omega
        rw [tr, this]
      · rw [pb_take zs j (by omega), ih h (by omega), tlen_zero zs j h, show zb 0 = 0 from rfl, Nat.max_zero]
  have := step zs.length (tlen_le zs) (Nat.le_refl _)
  rw [List.take_length] at this
  exact this.symm
theorem pb_few {w : World} {K : Nat} {p : Option Addr} {n nc : Nat} {es : List Ent} {zs : List Int} (h : PA w K p n nc es zs) : pb zs ≤ 32 * K := by
  have key : ∀ j, j ≤ zs.length → pb (zs.take j) ≤ 32 * K := by
    intro j
    induction j with
    | zero => intro _; simp [pb]
    | succ j ih =>
      intro hj
      rw [pb_take zs j (by omega)]
      have h1 := ih (by omega)
      have h2 := zb_le (h.ev j (by have := h.zl; omega))
      omega
  have := key zs.length (Nat.le_refl _)
  rw [List.take_length] at this
  exact this
theorem pb_le_of (zs : List Int) (K : Nat) (h : ∀ j, j < zs.length → zb (gx zs j) ≤ K) : ∀ j, j ≤ zs.length → pb (zs.take j) ≤ K
  | 0, _ => by simp [pb]
  | j + 1, hj => by
    rw [pb_take zs j (by omega)]
    have := pb_le_of zs K h j (by omega)
    have := h j (by omega)
    omega
theorem zb_pb (zs : List Int) (j : Nat) (h : j < zs.length) : zb (gx zs j) ≤ pb zs := by
  have h1 : ∀ k, j < k → k ≤ zs.length → zb (gx zs j) ≤ pb (zs.take k) := by
    intro k
    induction k with
    | zero => intro h; omega
    | succ k ih =>
      intro h1 h2
      rw [pb_take zs k (by omega)]
      rcases Nat.lt_or_ge j k with h3 | h3
      · have := ih h3 (by omega)
        omega
      · have : k = j := by omega
        subst this
        omega
  have := h1 zs.length h (Nat.le_refl _)
  rwa [List.take_length] at this
theorem callScaleO (args : Array Value) (w' : World) : Sem.run Tryz.prog (callFunc 147 args) w' = .ok (.enter 147 args) w' := by
  have h1 : ¬ Tryz.f147.name = "runtime.NumGoroutine" := of_decide_eq_false (by kernel_rfl)
  have h2 : ¬ Tryz.f147.body = none := fun h => by cases h
  simp only [callFunc, Tryz.func147, go_sem]
  simp [h1, h2, go_sem]
set_option maxRecDepth 100000 in
theorem rIs_any {B : Nat} {w : World} {s t : Bool} {p q : Option Addr} {n m mc : Nat} {xs ds : List Int} {z : Int} (h : NI B w s p n xs z) (hn : n ≤ 1000) (hl : ds.length = m) (hm : m ≤ 1000) (hX : Rd w q .i64 ds) (hU : U16 ds) (hnr : tlen ds = m) (hs : m = 0 → t = false) (hv : rval t ds = z) :
    Calls Tryz.prog 22 #[.agg #[.bool s, .slice p n n], .agg #[.bool t, .slice q m mc]] w fun e w' => e = .returned (.bool true) ∧ Below w.heap.size w w' := by
  go_enter Tryz.func22, Tryz.ntmps22
  go_wp2_with fail
  have hX2 := boxes2 w (.bool s) (.slice p n n) (.bool t) (.slice q m mc) 24 30
  generalize ((w.alloc (Obj.cells #[Value.bool s, Value.slice p n n] 24)).alloc (Obj.cells #[Value.bool t, Value.slice q m mc] 30)) = W at *
  have k0 := hX2.ca0
  have k1 := hX2.ca1
  have k2 := hX2.cb0
  have k3 := hX2.cb1
  go_region_held3 (fun w' => w'.cell? ⟨w.heap.size, 0, none⟩ = some (.bool s) ∧ w'.cell? ⟨w.heap.size, 1, none⟩ = some (.slice p n n) ∧ w'.cell? ⟨w.heap.size + 1, 0, none⟩ = some (.bool t) ∧ w'.cell? ⟨w.heap.size + 1, 1, none⟩ = some (.slice q m mc)) (first | exact ⟨by assumption, by assumption, by assumption, by assumption⟩ | exact keepc4 (by assumption) (by assumption))
    (first
      | (go_at_call 13; refine (rTo_any t q m mc ds _ hl hm (hX.below hX2.below).drew hU).mono ?_; rintro e w1 ⟨p', m', cap, rfl, hA1, hm', hb1⟩)
      | (go_at_call 57; have h1 := h.below (bnext' hX2.below (undrew hb1)); have h2 : NN t (jn ds m') z := nn_jn hU (by omega) (fun e => hs (by omega)) hv (by have := hm'.out; omega); refine (rEq_nn h1 hA1 h2 hn).mono ?_; rintro e w2 ⟨rfl, hb2⟩))
  go_wp2
  go_ret
  exact ⟨rfl, bnext' (bnext' hX2.below (undrew hb1)) hb2⟩
theorem rIs_e {B : Nat} {w : World} {K N : Nat} {z : Int} {e f : Ent} (h : NV B w K z e) (hK : K ≤ 1000) (k : RE w N z f) (hN : N ≤ 1000) :
    Calls Tryz.prog 22 #[.agg #[.bool e.s, .slice e.p e.n e.c], .agg #[.bool f.s, .slice f.p f.n f.c]] w fun r w' => r = .returned (.bool true) ∧ Below w.heap.size w w' := by
  obtain ⟨xs, h1, h2, h3⟩ := h
  obtain ⟨⟨ds, k1, k2, k3⟩, k4⟩ := k
  rw [h2, k4]
  exact rIs_any h1 (by omega) k1.len (by omega) k1.rd k1.u k1.nrm k1.sg k2
theorem NV.drew {B : Nat} {w : World} {K : Nat} {z : Int} {e : Ent} (h : NV B w K z e) : NV B w.drew K z e := by
  obtain ⟨xs, h1, h2⟩ := h
  exact ⟨xs, h1.drew, h2⟩
set_option maxRecDepth 100000 in
theorem rpIs_any {B : Nat} {w : World} {K N : Nat} {p q : Option Addr} {n nc : Nat} {es fs : List Ent} {zs : List Int} (h : PN B w K p n es zs) (k : PR w N q n nc fs zs) (hK : K ≤ 1000) (hN : N ≤ 1000) (hn : n ≤ 1000000) :
    Calls Tryz.prog 15 #[.slice p n n, .slice q n nc] w fun r w' => r = .returned (.bool true) ∧ Below w.heap.size w w' := by
  have hel := h.el
  have hfl := k.el
  go_enter Tryz.func15, Tryz.ntmps15
  go_wp2_with fail
  go_loopw [5, 6] (fun iv sv wr => ∃ j : Nat, j ≤ n ∧ iv = .int .i64 j ∧ Hid (Below w.heap.size w wr)) (fun iv _ _ => n - (intOf iv).toNat)
  case atStart => exact ⟨0, Nat.zero_le _, by go_num, Below.refl _ _⟩
  case round =>
    obtain ⟨j, hj, rfl, H⟩ := hrel
    rcases Nat.lt_or_ge j n with hlt | hge
    · have hh := h.below H.out
      have hk := k.below H.out
      have hv := hh.ev j hlt
      have hw := hk.ev j hlt
      obtain ⟨b, o, hp, hc⟩ := hh.pl (by omega)
      obtain ⟨c, r, hq, hd⟩ := hk.pl (by omega)
      subst hp hq
      obtain ⟨c0, c1⟩ := hc j (by omega)
      obtain ⟨d0, d1⟩ := hd j (by omega)
      clear hc hd hh hk
      go_wp2_with fail
      go_region_held3 (fun w' => w'.cell? ⟨b, o + j * 2, none⟩ = some (.bool (ge es j).s) ∧ w'.cell? ⟨b, o + j * 2 + 1, none⟩ = some (.slice (ge es j).p (ge es j).n (ge es j).c) ∧ w'.cell? ⟨c, r + j * 2, none⟩ = some (.bool (ge fs j).s) ∧ w'.cell? ⟨c, r + j * 2 + 1, none⟩ = some (.slice (ge fs j).p (ge fs j).n (ge fs j).c)) (first | with_reducible exact ⟨c0, c1, d0, d1⟩ | with_reducible exact keepc4 ⟨c0, c1, d0, d1⟩ hV1 | (simp [go_sem, *]; done))
        (first
          | (go_at_call 22; refine (rIs_e (hv.drew) hK hw.drew hN).mono ?_; rintro e w1 ⟨rfl, hb1⟩; have hV1 := undrew hb1))
      have hB := bnext' H.out hV1
      clear c0 c1 d0 d1 hv hw
      go_wp2
      go_roundw
      case rel => exact ⟨j + 1, by omega, by go_num, hB⟩
      case measure => simp [intOf]; omega
    · obtain rfl : j = n := by omega
      go_wp2
      go_ret
      exact ⟨rfl, H.out⟩
end Go.Proofs.YtifebbacnlhggaaGreatDoor
