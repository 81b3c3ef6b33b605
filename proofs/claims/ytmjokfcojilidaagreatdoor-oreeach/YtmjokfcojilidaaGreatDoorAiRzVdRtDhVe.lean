/-
  ore.Eq.
-/
import Derived.Test.YtmjokfcojilidaaGreatDoorWvUhAh
import Derived.Deep.DeepFit
import Derived.Test.YtmjokfcojilidaaGreatDoorReRxRfRhCqRrRwVa
import Derived.Test.YtmjokfcojilidaaGreatDoorUbUcUdOwRa
import Derived.Test.YtmjokfcojilidaaGreatDoorLnWrIbWg
import Derived.Test.YtmjokfcojilidaaGreatDoorDcUjLeUk
namespace Go.Proofs.YtmjokfcojilidaaGreatDoor
open Go.RowKit
set_option linter.unusedVariables false
set_option linter.unusedSimpArgs false

theorem callEqU (args : Array Value) (w' : World) : Sem.run Tryz.prog (callFunc 81 args) w' = .ok (.enter 81 args) w' := by
  have h1 : ¬ Tryz.f81.name = "runtime.NumGoroutine" := of_decide_eq_false (by kernel_rfl)
  have h2 : ¬ Tryz.f81.body = none := fun h => by cases h
  simp only [callFunc, Tryz.func81, go_sem]
  simp [h1, h2, go_sem]
theorem map_tr_eq {a b : List (List Int)} (hl : a.length = b.length) (h : ∀ j, j < a.length → tr (gt a j) = tr (gt b j)) : a.map tr = b.map tr := by
  apply List.ext_getElem
  · simp [hl]
  · intro i h1 h2
    have h3 : i < a.length := by simpa using h1
    have h4 : i < b.length := by simpa using h2
    have h5 := h i h3
    simp [gt, h3, h4] at h5
    simp [h5]
theorem gt_tr_eq {a b : List (List Int)} (h : a.map tr = b.map tr) (j : Nat) (hj : j < a.length) : tr (gt a j) = tr (gt b j) := by
  have hl : a.length = b.length := by have := congrArg List.length h; simpa using this
  have h1 : (a.map tr)[j]? = (b.map tr)[j]? := by rw [h]
  simp [hj, show j < b.length by omega] at h1
  simp [gt, hj, show j < b.length by omega, h1]
set_option maxHeartbeats 2000000 in
set_option maxRecDepth 100000 in
/-- slices.EqualFunc of operators. -/
theorem eqFuncO_any {w : World} {B T K E D B2 T2 L : Nat} {zss yss : List (List Int)} {h k : Hdr} (H : HR D (EZ K E) w B T zss h) (G : HR D (EZ L E) w B2 T2 yss k) (hT : T ≤ w.heap.size) (hT2 : T2 ≤ w.heap.size) (hD : D ≤ 1000) (hE : E ≤ 1000000) :
    Calls Tryz.prog 80 #[.slice h.p h.n h.c, .slice k.p k.n k.c, .func (.func 81) #[] #[]] w fun r w' => r = .returned (.bool (decide (zss.map tr = yss.map tr))) ∧ Below w.heap.size w w' := by
  obtain ⟨hs, kh⟩ := H
  obtain ⟨rs, kk⟩ := G
  have HX : Hid (HRow D (EZ K E) w B T zss h hs ∧ T ≤ w.heap.size) := ⟨kh, hT⟩
  have HY : Hid (HRow D (EZ L E) w B2 T2 yss k rs ∧ T2 ≤ w.heap.size) := ⟨kk, hT2⟩
  have hn : h.n ≤ D := kh.few
  have hm : k.n ≤ D := kk.few
  have HL : Hid (zss.length = h.n ∧ yss.length = k.n) := ⟨kh.tl, kk.tl⟩
  obtain ⟨p, n, nc⟩ := h
  obtain ⟨q, m, mc⟩ := k
  simp only at hn hm HL ⊢
  clear kh kk hT hT2
  by_cases hnm : n = m
  · subst hnm
    have hE0 := callEqU
    go_enter Tryz.func80, Tryz.ntmps80
    go_wp2_with fail
    go_loopw [17] (fun kv wr => ∃ j : Nat, j ≤ n ∧ kv = .int .i64 j ∧ Hid ((∀ i, i < j → tr (gt zss i) = tr (gt yss i)) ∧ Below w.heap.size w wr)) (fun kv _ => n - (intOf kv).toNat)
    case atStart => exact ⟨0, Nat.zero_le _, by go_num, fun i hi => by omega, Below.refl _ _⟩
    case round =>
      obtain ⟨j, hj, rfl, G⟩ := hrel
      rcases Nat.lt_or_ge j n with hlt | hge
      · have g4 := G.out.2
        obtain ⟨b, o, hp, hc⟩ := HX.out.1.hl (by rw [HX.out.1.el]; show 0 < n; omega)
        obtain ⟨b', o', hq, hd⟩ := HY.out.1.hl (by rw [HY.out.1.el]; show 0 < n; omega)
        simp only at hp hq
        subst hp hq
        have c1 := cell_later' g4 (hc j (by rw [HX.out.1.el]; exact hlt))
        have d1 := cell_later' g4 (hd j (by rw [HY.out.1.el]; exact hlt))
        have hE2 := (lasts_EZ K E).below (HX.out.1.ev j hlt) HX.out.2 g4
        have hE3 := (lasts_EZ L E).below (HY.out.1.ev j hlt) HY.out.2 g4
        generalize gh hs j = hd2 at c1 hE2
        generalize gh rs j = hd3 at d1 hE3
        obtain ⟨p2, n2, nc2⟩ := hd2
        obtain ⟨p3, n3, nc3⟩ := hd3
        simp only [Hdr.val] at c1 d1
        obtain ⟨es2, hP2, hd2, -, -⟩ := hE2
        obtain ⟨es3, hP3, hd3, -, -⟩ := hE3
        simp only at hP2 hd2 hP3 hd3
        have i1 : (j : Int) < (n : Int) := by omega
        have hcall := uEq_any hP2 hP3 (by omega) (by omega)
        clear hc hd hP2 hP3 g4
        go_wp2_with fail
        go_fit hcall
        rintro e w1 ⟨rfl, hb1⟩
        have hB : Hid (Below w.heap.size w w1) := bnext' G.out.2 hb1
        have hcs : Hid (tr (gt zss j) = tr (gt yss j) ∨ ¬ tr (gt zss j) = tr (gt yss j)) := Classical.em _
        clear c1 d1 hcall hb1
        rcases hcs.out with hz | hz
        · rw [decide_eq_true hz]
          have HZ : Hid (tr (gt zss j) = tr (gt yss j)) := hz
          clear hz hcs
          go_wp2
          go_roundw
          case rel => exact ⟨j + 1, by omega, by go_num, fun i hi => by
            rcases Nat.lt_or_ge i j with h' | h'
            · exact G.out.1 i h'
            · obtain rfl : i = j := by omega
              exact HZ.out, hB.out⟩
          case measure => simp [intOf]; omega
        · rw [decide_eq_false hz]
          have HDD : Hid (decide (zss.map tr = yss.map tr) = false) := decide_eq_false fun e => hz (gt_tr_eq e j (by have := HL.out; omega))
          clear hz hcs
          go_wp2
          go_ret
          exact ⟨by rw [HDD.out]; rfl, hB.out⟩
      · obtain rfl : j = n := by omega
        have HDD : Hid (decide (zss.map tr = yss.map tr) = true) := by
          obtain ⟨l1, l2⟩ := HL.out
          refine decide_eq_true (map_tr_eq (l1.trans l2.symm) fun i hi => G.out.1 i ?_)
          rw [l1] at hi
          exact hi
        clear hge
        go_wp2
        go_ret
        exact ⟨by rw [HDD.out]; rfl, G.out.2⟩
  · have hne : ¬ zss.map tr = yss.map tr := fun e => hnm (by have := congrArg List.length e; simp at this; have := HL.out; omega)
    have HDD : Hid (decide (zss.map tr = yss.map tr) = false) := decide_eq_false hne
    have hI : ((n : Int) != (m : Int)) = true := by rw [bne_iff_ne]; omega
    clear hne
    generalize decide (zss.map tr = yss.map tr) = dd at *
    obtain rfl : dd = false := HDD.out
    go_enter Tryz.func80, Tryz.ntmps80
    go_wp2
    go_ret
    exact ⟨rfl, Below.refl _ _⟩
/-- The normal form. -/
def oz (zss : List (List Int)) : List (List Int) := (zss.take (olen zss)).map tr
set_option maxHeartbeats 2000000 in
set_option maxRecDepth 100000 in
/-- ore.Eq. -/
theorem oEq_any {w : World} {B T K E D B2 T2 L : Nat} {zss yss : List (List Int)} {h k : Hdr} (H : HR D (EZ K E) w B T zss h) (G : HR D (EZ L E) w B2 T2 yss k) (hT : T ≤ w.heap.size) (hT2 : T2 ≤ w.heap.size) (hD : D ≤ 1000) (hE : E ≤ 1000000) :
    Calls Tryz.prog 39 #[.slice h.p h.n h.c, .slice k.p k.n k.c] w fun r w' => r = .returned (.bool (decide (oz zss = oz yss))) ∧ Below w.heap.size w w' := by
  unfold oz
  have ht := fun w' (hb : Below w.heap.size w w') => otrim_any ((lasts_HR (lasts_EZ L E)).below G hT2 hb) (Nat.le_trans hT2 hb.size) (by omega) hE
  have hs := otrim_any H hT (by omega) hE
  obtain ⟨hs1, kh⟩ := H
  obtain ⟨hs2, kk⟩ := G
  have hol := olen_le zss
  have hol2 := olen_le yss
  have HX : Hid (HR D (EZ K E) w B T (zss.take (olen zss)) ⟨h.p, olen zss, olen zss⟩ ∧ T ≤ w.heap.size) := ⟨⟨_, kh.cut _ (by have := kh.tl; omega)⟩, hT⟩
  have HY : Hid (HR D (EZ L E) w B2 T2 (yss.take (olen yss)) ⟨k.p, olen yss, olen yss⟩ ∧ T2 ≤ w.heap.size) := ⟨⟨_, kk.cut _ (by have := kk.tl; omega)⟩, hT2⟩
  have hC := fun w' (hb : Below w.heap.size w w') => eqFuncO_any ((lasts_HR (lasts_EZ K E)).below HX.out.1 HX.out.2 hb) ((lasts_HR (lasts_EZ L E)).below HY.out.1 HY.out.2 hb) (Nat.le_trans HX.out.2 hb.size) (Nat.le_trans HY.out.2 hb.size) hD hE
  obtain ⟨p, n, nc⟩ := h
  obtain ⟨q, m, mc⟩ := k
  simp only at ht hs hC ⊢
  clear kh kk hT hT2 hol hol2 HX HY
  generalize decide ((zss.take (olen zss)).map tr = (yss.take (olen yss)).map tr) = dd at hC ⊢
  have HC := (show Hid _ from hC)
  clear hC
  generalize olen zss = a at *
  generalize olen yss = b at *
  go_enter Tryz.func39, Tryz.ntmps39
  go_wp2_with fail
  go_fit hs
  rintro e w1 ⟨rfl, hb1⟩
  have ht1 := ht w1 hb1
  have HB1 : Hid (Below w.heap.size w w1) := hb1
  clear hs ht hb1
  go_wp2_with fail
  go_fit ht1
  rintro e w2 ⟨rfl, hb2⟩
  have HB2 : Hid (Below w.heap.size w w2) := bnext' HB1.out hb2
  have hc := HC.out w2 HB2.out
  clear ht1 hb2 HB1
  go_wp2_with fail
  go_fit hc
  rintro e w3 ⟨rfl, hb3⟩
  have HB3 : Hid (Below w.heap.size w w3) := bnext' HB2.out hb3
  clear hc hb3 HB2
  go_wp2
  go_ret
  exact ⟨rfl, HB3.out⟩
end Go.Proofs.YtmjokfcojilidaaGreatDoor
/-
  ashlarref1.Is.
-/
namespace Go.Proofs.YtmjokfcojilidaaGreatDoor
open Go.RowKit
set_option linter.unusedVariables false
set_option linter.unusedSimpArgs false

set_option maxRecDepth 100000 in
set_option maxHeartbeats 1000000 in
/-- ashlarref1.Is: an answer is this number. -/
theorem rIs_any {B : Nat} {w : World} {s t : Bool} {p q : Option Addr} {n m mc : Nat} {xs ds : List Int} {z : Int} (h : NI B w s p n xs z) (hn : n ≤ 1000) (hl : ds.length = m) (hm : m ≤ 1000) (hX : Rd w q .i64 ds) (hU : U16 ds) (hnr : tlen ds = m) (hs : m = 0 → t = false) (hv : rval t ds = z) :
    Calls Tryz.prog 19 #[.agg #[.bool s, .slice p n n], .agg #[.bool t, .slice q m mc]] w fun e w' => e = .returned (.bool true) ∧ Below w.heap.size w w' := by
  go_enter Tryz.func19, Tryz.ntmps19
  go_wp2_with fail
  have hX2 := boxes2 w (.bool s) (.slice p n n) (.bool t) (.slice q m mc) 24 30
  generalize ((w.alloc (Obj.cells #[Value.bool s, Value.slice p n n] 24)).alloc (Obj.cells #[Value.bool t, Value.slice q m mc] 30)) = W at *
  have k0 := hX2.ca0
  have k1 := hX2.ca1
  have k2 := hX2.cb0
  have k3 := hX2.cb1
  go_region_held3 (fun w' => w'.cell? ⟨w.heap.size, 0, none⟩ = some (.bool s) ∧ w'.cell? ⟨w.heap.size, 1, none⟩ = some (.slice p n n) ∧ w'.cell? ⟨w.heap.size + 1, 0, none⟩ = some (.bool t) ∧ w'.cell? ⟨w.heap.size + 1, 1, none⟩ = some (.slice q m mc)) (first | exact ⟨by assumption, by assumption, by assumption, by assumption⟩ | exact keepc4 (by assumption) (by assumption))
    (first
      | (go_at_call 10; refine (rTo_any t q m mc ds _ hl hm (hX.below hX2.below).drew hU).mono ?_; rintro e w1 ⟨p', m', cap, rfl, hA1, hm', hb1⟩)
      | (go_at_call 64; have h1 := h.below (bnext' hX2.below (undrew hb1)); have h2 : NN t (jn ds m') z := nn_jn hU (by omega) (fun e => hs (by omega)) hv (by have := hm'.out; omega); refine (rEq_nn h1 hA1 h2 hn).mono ?_; rintro e w2 ⟨rfl, hb2⟩))
  go_wp2
  go_ret
  exact ⟨rfl, bnext' (bnext' hX2.below (undrew hb1)) hb2⟩
end Go.Proofs.YtmjokfcojilidaaGreatDoor
/-
  ashlarref3.Is of an answer that is right.
-/
namespace Go.Proofs.YtmjokfcojilidaaGreatDoor
open Go.RowKit
set_option linter.unusedVariables false
set_option linter.unusedSimpArgs false

theorem rIs_e {B : Nat} {w : World} {K N : Nat} {z : Int} {e f : Ent} (h : NV B w K z e) (hK : K ≤ 1000) (k : RE w N z f) (hN : N ≤ 1000) :
    Calls Tryz.prog 19 #[.agg #[.bool e.s, .slice e.p e.n e.c], .agg #[.bool f.s, .slice f.p f.n f.c]] w fun r w' => r = .returned (.bool true) ∧ Below w.heap.size w w' := by
  obtain ⟨xs, h1, h2, h3⟩ := h
  obtain ⟨⟨ds, k1, k2, k3⟩, k4⟩ := k
  rw [h2, k4]
  exact rIs_any h1 (by omega) k1.len (by omega) k1.rd k1.u k1.nrm k1.sg k2
theorem NV.drew {B : Nat} {w : World} {K : Nat} {z : Int} {e : Ent} (h : NV B w K z e) : NV B w.drew K z e := by
  obtain ⟨xs, h1, h2⟩ := h
  exact ⟨xs, h1.drew, h2⟩
set_option maxHeartbeats 2000000 in
set_option maxRecDepth 100000 in
/-- ashlarref3.Is. -/
theorem rpIs_any {B : Nat} {w : World} {K N : Nat} {p q : Option Addr} {n nc : Nat} {es fs : List Ent} {zs : List Int} (h : PN B w K p n es zs) (k : PR w N q n nc fs zs) (hK : K ≤ 1000) (hN : N ≤ 1000) (hn : n ≤ 1000000) :
    Calls Tryz.prog 12 #[.slice p n n, .slice q n nc] w fun r w' => r = .returned (.bool true) ∧ Below w.heap.size w w' := by
  have hel := h.el
  have hfl := k.el
  go_enter Tryz.func12, Tryz.ntmps12
  go_wp2_with fail
  go_loopw [5, 6] (fun iv sv wr => ∃ j : Nat, j ≤ n ∧ iv = .int .i64 j ∧ Hid (Below w.heap.size w wr)) (fun iv _ _ => n - (intOf iv).toNat)
  case atStart => exact ⟨0, Nat.zero_le _, by go_num, Below.refl _ _⟩
  case round =>
    obtain ⟨j, hj, rfl, H⟩ := hrel
    rcases Nat.lt_or_ge j n with hlt | hge
    · have hh := h.below H.out
      have hk := k.below H.out
      have hv := hh.ev j hlt
      have hw := hk.ev j hlt
      obtain ⟨b, o, hp, hc⟩ := hh.pl (by omega)
      obtain ⟨c, r, hq, hd⟩ := hk.pl (by omega)
      subst hp hq
      obtain ⟨c0, c1⟩ := hc j (by omega)
      obtain ⟨d0, d1⟩ := hd j (by omega)
      clear hc hd hh hk
      go_wp2_with fail
      go_region_held3 (fun w' => w'.cell? ⟨b, o + j * 2, none⟩ = some (.bool (ge es j).s) ∧ w'.cell? ⟨b, o + j * 2 + 1, none⟩ = some (.slice (ge es j).p (ge es j).n (ge es j).c) ∧ w'.cell? ⟨c, r + j * 2, none⟩ = some (.bool (ge fs j).s) ∧ w'.cell? ⟨c, r + j * 2 + 1, none⟩ = some (.slice (ge fs j).p (ge fs j).n (ge fs j).c)) (first | with_reducible exact ⟨c0, c1, d0, d1⟩ | with_reducible exact keepc4 ⟨c0, c1, d0, d1⟩ hV1 | (simp [go_sem, *]; done))
        (first
          | (go_at_call 19; refine (rIs_e (hv.drew) hK hw.drew hN).mono ?_; rintro e w1 ⟨rfl, hb1⟩; have hV1 := undrew hb1))
      have hB := bnext' H.out hV1
      clear c0 c1 d0 d1 hv hw
      go_wp2
      go_roundw
      case rel => exact ⟨j + 1, by omega, by go_num, hB⟩
      case measure => simp [intOf]; omega
    · obtain rfl : j = n := by omega
      go_wp2
      go_ret
      exact ⟨rfl, H.out⟩
end Go.Proofs.YtmjokfcojilidaaGreatDoor
/-
  ashlarref1.Bits, and that it is limbs.Bits' number.
-/
namespace Go.Proofs.YtmjokfcojilidaaGreatDoor
open Go.RowKit
set_option linter.unusedVariables false
set_option linter.unusedSimpArgs false

set_option maxHeartbeats 1000000 in
/-- ashlarref1.Bits. -/
theorem rBits_any (s : Bool) (p : Option Addr) (n nc : Nat) (ds : List Int) (w : World) (hl : ds.length = n) (hs : n ≤ 1000000) (ht : tlen ds = n) (hX : Rd w p .i64 ds) (hU : U16 ds) :
    Calls Tryz.prog 117 #[.agg #[.bool s, .slice p n nc]] w fun e w' => ∃ b : Nat, e = .returned (.int .i64 (b : Int)) ∧ Hid (IB b (vd ds)) ∧ Below w.heap.size w w' := by
  rcases Nat.eq_zero_or_pos n with h0 | h0
  · subst h0
    obtain rfl : ds = [] := List.eq_nil_of_length_eq_zero hl
    go_enter Tryz.func117, Tryz.ntmps117
    go_wp2
    go_ret
    exact ⟨0, rfl, ⟨by decide, by decide, .inl rfl⟩, (Below.refl _ _).alloc (Nat.le_refl _) _⟩
  · obtain ⟨j, rfl⟩ : ∃ j, n = j + 1 := ⟨n - 1, by omega⟩
    have HL : Hid (ds.length = j + 1 ∧ tlen ds = j + 1) := ⟨hl, ht⟩
    obtain ⟨b, off, rfl, hc⟩ := (hX.alloc (.cells #[.bool s, .slice p (j + 1) nc] 30)) (by omega)
    have hcj := hc j (by omega)
    obtain ⟨b0, b1⟩ := hU j
    clear hc hl ht
    have hz : (((j + 1 : Nat) : Int) == 0) = false := beq_eq_false_iff_ne.2 (by omega)
    have hz' : ((j : Int) + 1 == 0) = false := beq_eq_false_iff_ne.2 (by omega)
    go_enter Tryz.func117, Tryz.ntmps117
    go_wp2
    go_loop [4, 5] (fun kv tv => ∃ (k : Nat) (t : Int), kv = .int .i64 k ∧ tv = .int .i64 t ∧ 0 ≤ t ∧ t < 65536 ∧ k ≤ 16 ∧ Hid (t = gx ds j / 2 ^ k ∧ (k = 0 ∨ (2 : Int) ^ (k - 1) ≤ gx ds j))) (fun _ tv => (intOf tv).toNat)
    case atStart => exact ⟨0, gx ds j, rfl, rfl, b0, b1, by decide, by simp, .inl rfl⟩
    case round =>
      obtain ⟨k, t, rfl, rfl, t0, t1, hk, H⟩ := hrel
      have hp : (0 : Int) < 2 ^ k := Int.pow_pos (by decide)
      have hdm := Int.emod_add_mul_ediv (gx ds j) (2 ^ k)
      have hm0 := Int.emod_nonneg (gx ds j) (show (2 : Int) ^ k ≠ 0 by omega)
      have hm1 := Int.emod_lt_of_pos (gx ds j) hp
      have HD : Hid (gx ds j % 2 ^ k + 2 ^ k * (gx ds j / 2 ^ k) = gx ds j ∧ 0 ≤ gx ds j % 2 ^ k ∧ gx ds j % 2 ^ k < 2 ^ k ∧ (0 : Int) < 2 ^ k) := ⟨hdm, hm0, hm1, hp⟩
      clear hp hdm hm0 hm1
      by_cases ht : 0 < t
      · have q1 : t.tdiv 2 = t / 2 := Int.tdiv_eq_ediv_of_nonneg t0
        have hge : Hid ((2 : Int) ^ k ≤ gx ds j) := by
          obtain ⟨e1, e2, e3, e4⟩ := HD.out
          have e5 := H.out.1
          have : (2 : Int) ^ k * 1 ≤ 2 ^ k * (gx ds j / 2 ^ k) := Int.mul_le_mul_of_nonneg_left (by omega) (by omega)
          show _ ≤ _
          omega
        have hk15 : k + 1 ≤ 16 := by
          rcases Nat.lt_or_ge k 16 with h | h
          · omega
          · exfalso
            have h2 := p2_mono h
            have h3 := hge.out
            have h4 : (2 : Int) ^ 16 = 65536 := rfl
            omega
        go_wp2
        go_round
        case rel =>
          refine ⟨k + 1, t / 2, by go_num, rfl, by omega, by omega, hk15, ?_, .inr (by rw [Nat.add_sub_cancel]; exact hge.out)⟩
          rw [H.out.1, Int.ediv_ediv_of_nonneg (Int.le_of_lt HD.out.2.2.2), Int.pow_succ]
        case measure => simp [intOf]; omega
      · obtain rfl : t = 0 := by omega
        go_wp2
        go_ret
        refine ⟨16 * j + k, by go_num, ?_, (Below.refl _ _).alloc (Nat.le_refl _) _⟩
        have hL := HL.out
        have hib : IB k (gx ds (ds.length - 1)) := by
          rw [hL.1, Nat.add_sub_cancel]
          refine ⟨b0, ?_, H.out.2⟩
          obtain ⟨e1, e2, e3, e4⟩ := HD.out
          have e5 := H.out.1
          rw [← e5, Int.mul_zero] at e1
          omega
        have := digits_ib hU (by omega) (by omega) hib
        rw [hL.1, Nat.add_sub_cancel] at this
        exact this
theorem vd_val {s t : Bool} {ds xs : List Int} (h : rval s ds = ival t xs) (hd : U16 ds) (hx : U32 xs) : vd ds = val xs := by
  have h1 := vd_nonneg hd
  have h2 := val_nonneg hx
  cases s <;> cases t <;> simp [rval, ival] at h <;> omega
/-- Both tell the same. -/
theorem bits_same {xs ds : List Int} {b : Nat} (h : U32 xs) (hv : vd ds = val xs) (hb : IB b (vd ds)) : nbits xs = (b : Int) := by
  obtain ⟨c, hc, hI⟩ := nbits_ib h
  rw [hc, hb.uniq (hv ▸ hI)]
end Go.Proofs.YtmjokfcojilidaaGreatDoor
/-
  ashlarref3.Deg.
-/
namespace Go.Proofs.YtmjokfcojilidaaGreatDoor
open Go.RowKit
set_option linter.unusedVariables false
set_option linter.unusedSimpArgs false

set_option maxHeartbeats 2000000 in
set_option maxRecDepth 100000 in
/-- ashlarref3.Deg. -/
theorem rpDeg_any (p : Option Addr) (n nc : Nat) (w : World) (hn : n ≤ 1000000) :
    Calls Tryz.prog 77 #[.slice p n nc] w fun r w' => r = .returned (.int .i64 ((n : Int) - 1)) ∧ Below w.heap.size w w' := by
  have v1 : IntKind.i64.wrap ((n : Int) - 1) = (n : Int) - 1 := by rw [IntKind.wrap_i64]; omega
  go_enter Tryz.func77, Tryz.ntmps77
  go_wp2
  go_ret
  exact ⟨rfl, Below.refl _ _⟩
end Go.Proofs.YtmjokfcojilidaaGreatDoor
/-
  ashlarref3.Deg, Bits.
-/
namespace Go.Proofs.YtmjokfcojilidaaGreatDoor
open Go.RowKit
set_option linter.unusedVariables false
set_option linter.unusedSimpArgs false

theorem rBits_w {w : World} {N : Nat} {x : Int} {s : Bool} {p : Option Addr} {n : Nat} (h : RV w N x s p n) (hN : N ≤ 1000) :
    Calls Tryz.prog 117 #[.agg #[.bool s, .slice p n n]] w fun e w' => ∃ b : Nat, e = .returned (.int .i64 (b : Int)) ∧ b ≤ 16 * N ∧ Hid (IB b (x.natAbs : Int)) ∧ Below w.heap.size w w' := by
  have hbd := h.bd
  obtain ⟨ds, h1, rfl, h3⟩ := h
  have a := vd_nonneg h1.u
  have e : ((rval s ds).natAbs : Int) = vd ds := by unfold rval; split <;> omega
  rw [e] at hbd ⊢
  refine (rBits_any s p n n ds w h1.len (by omega) h1.nrm h1.rd h1.u).mono ?_
  rintro e w' ⟨b, g1, g2, g3⟩
  refine ⟨b, g1, ?_, g2, g3⟩
  have hp : pd N = 2 ^ (16 * N) := by rw [pd, show (65536 : Int) = 2 ^ 16 from rfl, ← Int.pow_mul]
  rcases Nat.lt_or_ge (16 * N) b with hb | hb
  · rcases g2.out.2.2 with k | k
    · omega
    · have := p2_mono (show 16 * N ≤ b - 1 by omega)
      omega
  · exact hb
theorem rBits_e {w : World} {N : Nat} {z : Int} {e : Ent} (h : RE w N z e) (hN : N ≤ 1000) :
    Calls Tryz.prog 117 #[.agg #[.bool e.s, .slice e.p e.n e.c]] w fun r w' => r = .returned (.int .i64 (zb z)) ∧ zb z ≤ 16 * N ∧ Below w.heap.size w w' := by
  obtain ⟨h1, h2⟩ := h
  rw [h2]
  refine (rBits_w h1 hN).mono ?_
  rintro r w' ⟨b, rfl, hl, hI, hb⟩
  have e2 := hI.out.uniq (zb_ib z)
  subst e2
  exact ⟨rfl, hl, hb⟩
set_option maxHeartbeats 2000000 in
set_option maxRecDepth 100000 in
/-- ashlarref3.Bits. -/
theorem rpBits_any {w : World} {N : Nat} {q : Option Addr} {n nc : Nat} {fs : List Ent} {zs : List Int} (k : PR w N q n nc fs zs) (hN : N ≤ 1000) (hn : n ≤ 1000000) :
    Calls Tryz.prog 79 #[.slice q n nc] w fun r w' => r = .returned (.int .i64 (pb zs)) ∧ Below w.heap.size w w' := by
  have hfl := k.el
  have hzl := k.zl
  go_enter Tryz.func79, Tryz.ntmps79
  go_wp2_with fail
  go_loopw [3, 4, 5] (fun mv kv cv wr => ∃ j : Nat, j ≤ n ∧ kv = .int .i64 j ∧ mv = .int .i64 (pb (zs.take j)) ∧ Hid (pb (zs.take j) ≤ 16 * N ∧ Below w.heap.size w wr)) (fun _ kv _ _ => n - (intOf kv).toNat)
  case atStart => exact ⟨0, Nat.zero_le _, by go_num, by simp [pb], by simp [pb], Below.refl _ _⟩
  case round =>
    obtain ⟨j, hj, rfl, rfl, H⟩ := hrel
    rcases Nat.lt_or_ge j n with hlt | hge
    · have hh := k.below H.out.2
      have hv := hh.ev j hlt
      obtain ⟨b, o, hp, hc⟩ := hh.pl (by omega)
      subst hp
      obtain ⟨c0, c1⟩ := hc j (by omega)
      have HT : Hid (pb (zs.take (j + 1)) = max (pb (zs.take j)) (zb (gx zs j))) := pb_take zs j (by omega)
      clear hc hh
      go_wp2_with fail
      refine (rBits_e hv hN).mono ?_
      rintro e w1 ⟨rfl, hz, hb1⟩
      have hB := bnext' H.out.2 hb1
      clear c0 c1 hv hb1
      by_cases hgt : (pb (zs.take j) : Int) < (zb (gx zs j) : Int)
      · have e1 : pb (zs.take (j + 1)) = zb (gx zs j) := by rw [HT.out]; omega
        have HE : Hid (pb (zs.take (j + 1)) = zb (gx zs j)) := e1
        clear e1
        go_wp2
        go_roundw
        case rel => exact ⟨j + 1, by omega, by go_num, by rw [HE.out], by rw [HE.out]; exact hz, hB⟩
        case measure => simp [intOf]; omega
      · have e1 : pb (zs.take (j + 1)) = pb (zs.take j) := by rw [HT.out]; omega
        have HE : Hid (pb (zs.take (j + 1)) = pb (zs.take j)) := e1
        clear e1
        go_wp2
        go_roundw
        case rel => exact ⟨j + 1, by omega, by go_num, by rw [HE.out], by rw [HE.out]; exact H.out.1, hB⟩
        case measure => simp [intOf]; omega
    · obtain rfl : j = n := by omega
      have HT : Hid (zs.take j = zs) := List.take_of_length_le (by omega)
      clear hge
      go_wp2
      go_ret
      obtain ⟨h1, h2⟩ := H.out
      exact ⟨by rw [HT.out]; rfl, h2⟩
end Go.Proofs.YtmjokfcojilidaaGreatDoor
