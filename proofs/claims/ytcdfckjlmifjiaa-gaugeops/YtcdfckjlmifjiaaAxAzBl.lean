/-
  ashlarref9: Plus, By, Sum, Size.
-/
import Derived.Test.YtcdfckjlmifjiaaOrAv
import Derived.Test.YtcdfckjlmifjiaaAyEmDx
import Derived.Deep.DeepFit
import Derived.Test.YtcdfckjlmifjiaaAw
import Derived.Test.YtcdfckjlmifjiaaBnBoBsBrVvJpRzCwVkJoBp
import Derived.Test.YtcdfckjlmifjiaaBqDuAkAlAp
namespace Go.Proofs.Ytcdfckjlmifjiaa
open Go.RowKit
set_option linter.unusedVariables false
set_option linter.unusedSimpArgs false

set_option maxHeartbeats 1000000 in
/-- ashlarref9.Plus. -/
theorem rPlus_any {w : World} (a b : Int) (ha : InT a) (hb : InT b) :
    Calls Try.prog 48 #[.int .i64 a, .int .i64 b] w fun e w' => e = .returned (.int .i64 (smf a b)) ∧ w' = w := by
  unfold InT at ha hb
  have v1 : wrap64 (4611686018427387904 - b) = 4611686018427387904 - b := by unfold wrap64; omega
  rcases Int.lt_or_le (4611686018427387904 - b) a with h | h
  · have HE : Hid (smf a b = 4611686018427387904) := by show smf a b = _; unfold smf; omega
    rw [HE.out]
    go_enter Try.func48, Try.ntmps48
    go_wp2
    go_ret
    exact ⟨rfl, rfl⟩
  · have HE : Hid (smf a b = a + b) := by show smf a b = _; unfold smf; omega
    have h' : ¬ 4611686018427387904 - b < a := by omega
    have v2 : wrap64 (a + b) = a + b := by unfold wrap64; omega
    rw [HE.out]
    go_enter Try.func48, Try.ntmps48
    go_wp2
    go_ret
    exact ⟨rfl, rfl⟩
set_option maxHeartbeats 1000000 in
/-- ashlarref9.By, of numbers from 0 on. -/
theorem rBy0_any {w : World} (a b : Int) (ha : InT a) (hb : InI b) :
    Calls Try.prog 40 #[.int .i64 a, .int .i64 b] w fun e w' => e = .returned (.int .i64 (pmf a b)) ∧ Below w.heap.size w w' := by
  rcases Int.lt_or_le 0 a with h0 | h0
  · rcases Int.lt_or_le 0 b with h1 | h1
    · refine (rBy_any a b (by omega) ha.2 (by omega)).mono ?_
      rintro e w' ⟨rfl, rfl⟩
      exact ⟨rfl, Below.refl _ _⟩
    · obtain rfl : b = 0 := by have := hb.1; omega
      have i1 : ¬ (4611686018427387904 < a) := by have := ha.2; omega
      have i2 : (a != 0) = true := by rw [bne_iff_ne]; omega
      have i5 : a ≠ 0 := by omega
      have hp : 0 ≤ 4611686018427387904 / a := Int.ediv_nonneg (by decide) (by omega)
      have i3 : ¬ (4611686018427387904 / a < 0) := by omega
      have HE : Hid (pmf a 0 = 0) := by show pmf a 0 = 0; unfold pmf; rw [Int.mul_zero]; rfl
      rw [HE.out]
      clear hp
      go_enter Try.func40, Try.ntmps40
      go_wp2
      go_ret
      exact ⟨rfl, Below.refl _ _⟩
  · obtain rfl : a = 0 := by have := ha.1; omega
    have HE : Hid (pmf 0 b = 0) := by show pmf 0 b = 0; unfold pmf; rw [Int.zero_mul]; rfl
    rw [HE.out]
    go_enter Try.func40, Try.ntmps40
    go_wp2
    go_ret
    exact ⟨rfl, Below.refl _ _⟩
set_option maxHeartbeats 1000000 in
set_option maxRecDepth 100000 in
/-- ashlarref9.Sum. -/
theorem rSum_any {w : World} {p : Option Addr} {n nc : Nat} {xs : List Int} (hl : xs.length = n) (hX : Rd w p .i64 xs) (hn : n ≤ 1000000) (hx : ∀ x ∈ xs, InT x) :
    Calls Try.prog 39 #[.slice p n nc] w fun e w' => e = .returned (.int .i64 (sms xs)) ∧ w' = w := by
  have HX : Hid (xs.length = n ∧ Rd w p .i64 xs ∧ ∀ x ∈ xs, InT x) := ⟨hl, hX, hx⟩
  clear hl hX hx
  go_enter Try.func39, Try.ntmps39
  go_wp2_with fail
  go_loopw [3, 4] (fun cv iv wr => ∃ k : Nat, k ≤ n ∧ iv = .int .i64 k ∧ cv = .int .i64 (sms (xs.take k)) ∧ wr = w) (fun _ iv _ => n - (intOf iv).toNat)
  case atStart => exact ⟨0, Nat.zero_le _, by go_num, rfl, rfl⟩
  case round =>
    obtain ⟨k, hk, rfl, rfl, rfl⟩ := hrel
    obtain ⟨hl, hX, hx⟩ := HX.out
    rcases Nat.lt_or_ge k n with hlt | hge
    · obtain ⟨b, o, hp, hc⟩ := hX (by omega)
      subst hp
      have c0 := hc k (by omega)
      have HT : Hid (sms (xs.take (k + 1)) = smf (sms (xs.take k)) (gx xs k)) := fold_take smf 0 xs k (by omega)
      have hT : InT (sms (xs.take k)) := fold_inv smf InT InT (fun c x h1 h2 => smf_bd c x h1 ⟨h2.1, by have := h2.2; omega⟩) _ 0 ⟨by decide, by decide⟩ fun x hx' => hx x (List.mem_of_mem_take hx')
      have hg : InT (gx xs k) := by rw [gx_mem xs k (by omega)]; exact hx _ (List.getElem_mem _)
      have hpl := rPlus_any (w := wr) _ _ hT hg
      have i1 : (k : Int) < (n : Int) := by omega
      clear hl hX hx hc hT hg
      generalize gx xs k = x at *
      generalize sms (xs.take k) = c at *
      go_wp2_with fail
      go_fit hpl
      rintro e w1 ⟨rfl, hw⟩
      subst w1
      clear hpl
      go_wp2_with fail
      refine ⟨⟨k + 1, by omega, by go_num, by rw [HT.out], by first | rfl | trivial⟩, by simp [intOf]; omega⟩
    · obtain rfl : k = n := by omega
      have HE : Hid (sms (xs.take k) = sms xs) := by rw [List.take_of_length_le (by omega)]; rfl
      have i1 : ¬ (k : Int) < (k : Int) := by omega
      clear hX hl hx
      go_wp2
      go_ret
      exact ⟨by rw [← HE.out]; rfl, rfl⟩
end Go.Proofs.Ytcdfckjlmifjiaa
/-
  ashlarref9.Size, Mul.
-/
namespace Go.Proofs.Ytcdfckjlmifjiaa
open Go.RowKit
set_option linter.unusedVariables false
set_option linter.unusedSimpArgs false

/-- The size of an operator. -/
def rszO (l : List (List Int)) : Int := if l.length = 0 then 0 else (l.length : Int) - 1
def rszD (l : List (List Int)) : Int := if l.length = 0 then 0 else odeg l
def rszB (l : List (List Int)) : Int := if l.length = 0 then 0 else (obit l : Int)
set_option maxHeartbeats 1000000 in
set_option maxRecDepth 100000 in
/-- ashlarref9.Size. -/
theorem rSize8_any {w : World} {B T N E D : Nat} {l : List (List Int)} {h : Hdr} (H : HR D (EY N E) w B T l h) (hT : T ≤ w.heap.size) (hD : D ≤ 1000000) (hE : E ≤ 1000000) (hN : N ≤ 1000) :
    Calls Try.prog 12 #[.slice h.p h.n h.c] w fun e w' => e = .returned (.tuple #[.int .i64 (rszO l), .int .i64 (rszD l), .int .i64 (rszB l)]) ∧ Below w.heap.size w w' := by
  have h2 := fun w' (hb : Below w.heap.size w w') => rDegree8_any ((lasts_HR (lasts_EY N E)).below H hT hb) (Nat.le_trans hT hb.size) hD hE
  have h3 := fun w' (hb : Below w.heap.size w w') => rBits8_any ((lasts_HR (lasts_EY N E)).below H hT hb) (Nat.le_trans hT hb.size) hD hE hN
  have hl : l.length = h.n ∧ h.n ≤ 1000000 := by obtain ⟨_, k⟩ := H; exact ⟨k.tl, Nat.le_trans k.few hD⟩
  have hO : rszO l = if h.n = 0 then 0 else (h.n : Int) - 1 := by rw [rszO, hl.1]
  have hD' : rszD l = if h.n = 0 then 0 else odeg l := by rw [rszD, hl.1]
  have hB : rszB l = if h.n = 0 then 0 else (obit l : Int) := by rw [rszB, hl.1]
  rw [hO, hD', hB]
  obtain ⟨p, n, nc⟩ := h
  have hn := hl.2
  simp only at h2 h3 hn ⊢
  clear H hT hl hO hD' hB
  generalize odeg l = d at *
  generalize (obit l : Int) = k at *
  rcases Nat.eq_zero_or_pos n with h0 | h0
  · subst h0
    go_enter Try.func12, Try.ntmps12
    go_wp2
    refine bodyPost_ret (v := .tuple #[.int .i64 0, .int .i64 0, .int .i64 0]) (by simp [results, Try.results12, go_sem]) rfl ⟨rfl, Below.refl _ _⟩
  · have i1 : ((n : Int) == 0) = false := by rw [beq_eq_false_iff_ne]; omega
    have i2 : ¬ (n : Int) = 0 := by omega
    have i3 : ¬ n = 0 := by omega
    rw [if_neg i3, if_neg i3, if_neg i3]
    have hor := rOrder8_any w p n nc hn
    generalize (n : Int) - 1 = r at *
    go_enter Try.func12, Try.ntmps12
    go_wp2_with fail
    go_fit hor
    rintro e w1 ⟨rfl, hw⟩
    subst w1
    have h2' := h2 w (Below.refl _ _)
    go_wp2_with fail
    go_fit h2'
    rintro e w2 ⟨rfl, hb2⟩
    have h3' := h3 w2 hb2
    go_wp2_with fail
    go_fit h3'
    rintro e w3 ⟨rfl, hb3⟩
    have HB : Hid (Below w.heap.size w w3) := bnext' hb2 hb3
    clear h2 h3 h2' h3' hb2 hb3 hor
    go_wp2
    refine bodyPost_ret (v := .tuple #[.int .i64 r, .int .i64 d, .int .i64 k]) (by simp [results, Try.results12, go_sem]) rfl ⟨rfl, HB.out⟩
end Go.Proofs.Ytcdfckjlmifjiaa
/-
  ashlarref9.Mul.
-/
namespace Go.Proofs.Ytcdfckjlmifjiaa
open Go.RowKit
set_option linter.unusedVariables false
set_option linter.unusedSimpArgs false

theorem rtimes_lit {w : World} {b : Nat} (xs : List Int) (n : Nat) (hl : xs.length = n) (hn : n ≤ 100) (h : Rd w (some ⟨b, 0, none⟩) .i64 xs) (hx : ∀ x ∈ xs, InI x) :
    Calls Try.prog 22 #[.slice (some ⟨b, 0, none⟩) n n] w fun e w' => e = .returned (.int .i64 (tms xs)) ∧ Below w.heap.size w w' :=
  (rTimes_any hl h (by omega)).mono fun e w' ⟨a, b⟩ => ⟨a, by rw [b]; exact Below.refl _ _⟩
theorem rsum_lit {w : World} {b : Nat} (xs : List Int) (n : Nat) (hl : xs.length = n) (hn : n ≤ 100) (h : Rd w (some ⟨b, 0, none⟩) .i64 xs) (hx : ∀ x ∈ xs, InT x) :
    Calls Try.prog 39 #[.slice (some ⟨b, 0, none⟩) n n] w fun e w' => e = .returned (.int .i64 (sms xs)) ∧ Below w.heap.size w w' :=
  (rSum_any hl h (by omega) hx).mono fun e w' ⟨a, b⟩ => ⟨a, by rw [b]; exact Below.refl _ _⟩
/-- Sizes that are not too great. -/
def SzB (x : List (List Int)) : Prop := (0 ≤ rszO x ∧ rszO x ≤ 1000000) ∧ (0 ≤ rszD x ∧ rszD x ≤ 1000000) ∧ (0 ≤ rszB x ∧ rszB x ≤ 1000000000)
theorem inT_small {x : Int} (h0 : 0 ≤ x) (h1 : x ≤ 1000000000000) : InT x := ⟨h0, by omega⟩
theorem inI_small {x : Int} (h0 : 0 ≤ x) (h1 : x ≤ 1000000000000) : InI x := ⟨h0, by omega⟩
set_option maxHeartbeats 4000000 in
set_option maxRecDepth 100000 in
/-- ashlarref9.Mul. -/
theorem rMul9_any {w : World} {B T N E D B2 T2 N2 M : Nat} {x y : List (List Int)} {h g : Hdr} {q : Int} {e0 : Ent} (H : HR D (EY N E) w B T x h) (G : HR D (EY N2 E) w B2 T2 y g) (hT : T ≤ w.heap.size) (hT2 : T2 ≤ w.heap.size) (hq : RE w M q e0) (hD : D ≤ 1000000) (hE : E ≤ 1000000) (hN : N ≤ 1000) (hN2 : N2 ≤ 1000) (hM : M ≤ 1000) (b1 : SzB x) (b2 : SzB y) :
    Calls Try.prog 14 #[.slice h.p h.n h.c, .slice g.p g.n g.c, .agg #[.bool e0.s, .slice e0.p e0.n e0.c]] w fun e w' => e = .returned (.int .i64 (tms [rszO x + 1, rszO y + 1, rszD x + rszD y + 2, sms [rszB x, rszB y, pmf (rszO x + 1) (rszD y + 1), pmf (pmf (rszO x) (rszD y + 1)) (zb q : Int), 8]])) ∧ Below w.heap.size w w' := by
  have h1 := fun w' (hb : Below w.heap.size w w') => rSize8_any ((lasts_HR (lasts_EY N E)).below H hT hb) (Nat.le_trans hT hb.size) hD hE hN
  have h2 := fun w' (hb : Below w.heap.size w w') => rSize8_any ((lasts_HR (lasts_EY N2 E)).below G hT2 hb) (Nat.le_trans hT2 hb.size) hD hE hN2
  have h3 := fun w' (hb : Below w.heap.size w w') => rBits_e (hq.below hb) hM
  obtain ⟨p, n, nc⟩ := h
  obtain ⟨p', n', nc'⟩ := g
  simp only at h1 h2 h3 ⊢
  clear H G hT hT2 hq
  unfold SzB at b1 b2
  generalize rszO x = r at *
  generalize rszD x = d at *
  generalize rszB x = k at *
  generalize rszO y = s at *
  generalize rszD y = e at *
  generalize rszB y = l at *
  have hW : Below w.heap.size w (w.alloc (.cells #[.bool e0.s, .slice e0.p e0.n e0.c] 40)) := (Below.refl _ _).alloc (Nat.le_refl _) _
  have c0 : (w.alloc (.cells #[.bool e0.s, .slice e0.p e0.n e0.c] 40)).cell? ⟨w.heap.size, 0, none⟩ = some (.bool e0.s) := by simp [go_sem]
  have c1 : (w.alloc (.cells #[.bool e0.s, .slice e0.p e0.n e0.c] 40)).cell? ⟨w.heap.size, 1, none⟩ = some (.slice e0.p e0.n e0.c) := by simp [go_sem]
  go_enter Try.func14, Try.ntmps14
  go_wp2_with fail
  generalize w.alloc (.cells #[.bool e0.s, .slice e0.p e0.n e0.c] 40) = W at *
  go_fit (h1 W hW)
  rintro e1 w1 ⟨rfl, hb1⟩
  have hB1 := bnext' hW hb1
  have h2' := h2 w1 hB1
  go_wp2_with fail
  go_fit h2'
  rintro e1 w2 ⟨rfl, hb2⟩
  have hB2 := bnext' hB1 hb2
  have h3' := h3 w2 hB2
  have d0 := cell_later (bnext' hb1 hb2) c0
  have d1 := cell_later (bnext' hb1 hb2) c1
  go_wp2_with fail
  go_fit h3'
  rintro e1 w3 ⟨rfl, hzb, hb3⟩
  have hB3 := bnext' hB2 hb3
  clear h1 h2 h3 h2' h3' hb1 hb2 hb3 hB1 hB2 c0 c1 d0 d1 hW
  have hm : 0 ≤ (zb q : Int) ∧ (zb q : Int) ≤ 1000000 := by omega
  clear hzb
  generalize hmm : (zb q : Int) = m at *
  have HMM : Hid ((zb q : Int) = m) := hmm
  clear hmm
  obtain ⟨⟨r0, r1⟩, ⟨d0, d1⟩, k0, k1⟩ := b1
  obtain ⟨⟨s0, s1⟩, ⟨e0', e1'⟩, l0, l1⟩ := b2
  obtain ⟨m0, m1⟩ := hm
  have v1 : wrap64 (r + 1) = r + 1 := by unfold wrap64; omega
  have v2 : wrap64 (s + 1) = s + 1 := by unfold wrap64; omega
  have v3 : wrap64 (d + e) = d + e := by unfold wrap64; omega
  have v4 : wrap64 (d + e + 2) = d + e + 2 := by unfold wrap64; omega
  have v5 : wrap64 (e + 1) = e + 1 := by unfold wrap64; omega
  have t1 : InT (r + 1) := inT_small (by omega) (by omega)
  have t2 : InI (e + 1) := inI_small (by omega) (by omega)
  have t3 : InT r := inT_small (by omega) (by omega)
  have t4 : InI m := inI_small (by omega) (by omega)
  have p1 := pmf_bd (r + 1) (e + 1) t1 t2
  have p2 := pmf_bd r (e + 1) t3 t2
  have p3 := pmf_bd (pmf r (e + 1)) m p2 t4
  go_wp2_with fail
  go_fit (rBy0_any (r + 1) (e + 1) t1 t2)
  rintro e1 w4 ⟨rfl, hb4⟩
  have hB4 := bnext' hB3 hb4
  go_wp2_with fail
  go_fit (rBy0_any r (e + 1) t3 t2)
  rintro e1 w5 ⟨rfl, hb5⟩
  have hB5 := bnext' hB4 hb5
  go_wp2_with fail
  go_fit (rBy0_any (pmf r (e + 1)) m p2 t4)
  rintro e1 w6 ⟨rfl, hb6⟩
  have hB6 := bnext' hB5 hb6
  clear hB3 hB4 hB5 hb4 hb5 hb6
  generalize hx1 : pmf (r + 1) (e + 1) = x1 at *
  have HX1 : Hid (pmf (r + 1) (e + 1) = x1) := hx1
  clear hx1
  generalize hx2 : pmf (pmf r (e + 1)) m = x2 at *
  have HX2 : Hid (pmf (pmf r (e + 1)) m = x2) := hx2
  clear hx2
  generalize hx3 : pmf r (e + 1) = x3 at *
  have HX3 : Hid (pmf r (e + 1) = x3) := hx3
  clear hx3
  have hrd : Rd (w6.alloc (.cells #[.int .i64 k, .int .i64 l, .int .i64 x1, .int .i64 x2, .int .i64 8] 3)) (some ⟨w6.heap.size, 0, none⟩) .i64 [k, l, x1, x2, 8] := rd_lit w6 [k, l, x1, x2, 8] 3
  have hin : ∀ y ∈ [k, l, x1, x2, 8], InT y := (List.forall_mem_cons.2 ⟨inT_small (by omega) (by omega), (List.forall_mem_cons.2 ⟨inT_small (by omega) (by omega), (List.forall_mem_cons.2 ⟨p1, (List.forall_mem_cons.2 ⟨p3, (List.forall_mem_cons.2 ⟨inT_small (by omega) (by omega), (List.forall_mem_nil _)⟩)⟩)⟩)⟩)⟩)
  go_wp2_with fail
  go_fit (rsum_lit [k, l, x1, x2, 8] 5 rfl (by decide) hrd hin)
  rintro e1 w7 ⟨rfl, hb7⟩
  have hB7 : Below w.heap.size w w7 := bnext' hB6 (bnext' ((Below.refl _ _).alloc (Nat.le_refl _) _) hb7)
  have hsI : InI (sms [k, l, x1, x2, 8]) := sms_in fun y hy => ⟨(hin y hy).1, by have := (hin y hy).2; omega⟩
  clear hrd hb7 hB6 hin
  generalize hx4 : sms [k, l, x1, x2, 8] = x4 at *
  have HX4 : Hid (sms [k, l, x1, x2, 8] = x4) := hx4
  clear hx4
  have hrd : Rd (w7.alloc (.cells #[.int .i64 (r + 1), .int .i64 (s + 1), .int .i64 (d + e + 2), .int .i64 x4] 3)) (some ⟨w7.heap.size, 0, none⟩) .i64 [r + 1, s + 1, d + e + 2, x4] := rd_lit w7 [r + 1, s + 1, d + e + 2, x4] 3
  go_wp2_with fail
  go_fit (rtimes_lit [r + 1, s + 1, d + e + 2, x4] 4 rfl (by decide) hrd (List.forall_mem_cons.2 ⟨inI_small (by omega) (by omega), (List.forall_mem_cons.2 ⟨inI_small (by omega) (by omega), (List.forall_mem_cons.2 ⟨inI_small (by omega) (by omega), (List.forall_mem_cons.2 ⟨hsI, (List.forall_mem_nil _)⟩)⟩)⟩)⟩))
  rintro e1 w8 ⟨rfl, hb8⟩
  have HB8 : Hid (Below w.heap.size w w8) := bnext' hB7 (bnext' ((Below.refl _ _).alloc (Nat.le_refl _) _) hb8)
  clear hrd hb8 hB7
  go_wp2
  go_ret
  refine ⟨?_, HB8.out⟩
  rw [HMM.out, HX1.out, HX3.out, HX2.out, HX4.out]
  rfl
end Go.Proofs.Ytcdfckjlmifjiaa
