/-
  gauge.Term, Close, Turn, Cauchy.
-/
import Derived.Test.YtcdfckjlmifjiaaGreatAbBnUjBoAhEkOaOcOd
import Derived.Test.YtcdfckjlmifjiaaGreatFfEtEwFh
import Derived.Test.YtcdfckjlmifjiaaGreatEv
import Derived.Test.YtcdfckjlmifjiaaGreatExEuLeEy
import Derived.Test.YtcdfckjlmifjiaaGreatEz
import Derived.Deep.DeepFit
import Derived.Test.YtcdfckjlmifjiaaGreatMmKpOr
import Derived.Test.YtcdfckjlmifjiaaGreatAvWaWbWc
import Derived.Test.YtcdfckjlmifjiaaGreatUdLnWrIbWgUeUfUg
import Derived.Test.YtcdfckjlmifjiaaGreatDyAwOn
import Derived.Test.YtcdfckjlmifjiaaGreatRdReRxBbCvRfRhCqRr
namespace Go.Proofs.YtcdfckjlmifjiaaGreat
open Go.RowKit
set_option linter.unusedVariables false
set_option linter.unusedSimpArgs false
set_option maxHeartbeats 4000000 in
set_option maxRecDepth 100000 in
theorem gTerm_lay {w : World} {p q : Option Addr} {n nc m mc : Nat} {za zw : Value} {k V : Int} (h1 : ∀ w', Below w.heap.size w w' → Calls Tryz.prog 19 #[.slice p n nc] w' fun e w2 => e = .returned za ∧ Below w'.heap.size w' w2) (h2 : ∀ w', Below w.heap.size w w' → Calls Tryz.prog 28 #[.slice q m mc] w' fun e w2 => e = .returned zw ∧ Below w'.heap.size w' w2) (h4 : ∀ w', Calls Tryz.prog 27 #[za, zw, .int .i64 k] w' fun e w2 => e = .returned (.int .i64 V) ∧ Below w'.heap.size w' w2) :
    Calls Tryz.prog 9 #[.slice p n nc, .slice q m mc, .int .i64 k] w fun x w' => x = .returned (.int .i64 V) ∧ Below w.heap.size w w' := by
  go_enter Tryz.func9, Tryz.ntmps9
  go_wp2_with fail
  have g0 := h1 w (Below.refl _ _)
  go_fit g0
  rintro e w1 ⟨rfl, hb0⟩
  have hB0 : Below w.heap.size w w1 := hb0
  have g1 := h2 w1 hB0
  go_wp2_with fail
  go_fit g1
  rintro e w2 ⟨rfl, hb1⟩
  have hB1 : Below w.heap.size w w2 := bnext' hB0 hb1
  have g2 := h4 w2
  go_wp2_with fail
  go_fit g2
  rintro e w3 ⟨rfl, hb2⟩
  have hB2 : Below w.heap.size w w3 := bnext' hB1 hb2
  have HBE : Hid (Below w.heap.size w w3) := hB2
  clear h1 h2 h4 g0 g1 g2
  go_wp2
  go_ret
  exact ⟨rfl, HBE.out⟩
set_option maxHeartbeats 4000000 in
set_option maxRecDepth 100000 in
theorem gClose_lay {w : World} {p q pa pb' : Option Addr} {n nc m mc na nac nb nbc : Nat} {za zb' zw zv : Value} {V : Int} (h1 : ∀ w', Below w.heap.size w w' → Calls Tryz.prog 19 #[.slice p n nc] w' fun e w2 => e = .returned za ∧ Below w'.heap.size w' w2) (h2 : ∀ w', Below w.heap.size w w' → Calls Tryz.prog 19 #[.slice q m mc] w' fun e w2 => e = .returned zb' ∧ Below w'.heap.size w' w2) (h3 : ∀ w', Below w.heap.size w w' → Calls Tryz.prog 28 #[.slice pa na nac] w' fun e w2 => e = .returned zw ∧ Below w'.heap.size w' w2) (h5 : ∀ w', Below w.heap.size w w' → Calls Tryz.prog 28 #[.slice pb' nb nbc] w' fun e w2 => e = .returned zv ∧ Below w'.heap.size w' w2) (h4 : ∀ w', Calls Tryz.prog 37 #[za, zb', zw, zv] w' fun e w2 => e = .returned (.int .i64 V) ∧ Below w'.heap.size w' w2) :
    Calls Tryz.prog 11 #[.slice p n nc, .slice q m mc, .slice pa na nac, .slice pb' nb nbc] w fun x w' => x = .returned (.int .i64 V) ∧ Below w.heap.size w w' := by
  go_enter Tryz.func11, Tryz.ntmps11
  go_wp2_with fail
  have g0 := h1 w (Below.refl _ _)
  go_fit g0
  rintro e w1 ⟨rfl, hb0⟩
  have hB0 : Below w.heap.size w w1 := hb0
  have g1 := h2 w1 hB0
  go_wp2_with fail
  go_fit g1
  rintro e w2 ⟨rfl, hb1⟩
  have hB1 : Below w.heap.size w w2 := bnext' hB0 hb1
  have g2 := h3 w2 hB1
  go_wp2_with fail
  go_fit g2
  rintro e w3 ⟨rfl, hb2⟩
  have hB2 : Below w.heap.size w w3 := bnext' hB1 hb2
  have g3 := h5 w3 hB2
  go_wp2_with fail
  go_fit g3
  rintro e w4 ⟨rfl, hb3⟩
  have hB3 : Below w.heap.size w w4 := bnext' hB2 hb3
  have g4 := h4 w4
  go_wp2_with fail
  go_fit g4
  rintro e w5 ⟨rfl, hb4⟩
  have hB4 : Below w.heap.size w w5 := bnext' hB3 hb4
  have HBE : Hid (Below w.heap.size w w5) := hB4
  clear h1 h2 h3 h5 h4 g0 g1 g2 g3 g4
  go_wp2
  go_ret
  exact ⟨rfl, HBE.out⟩
set_option maxHeartbeats 4000000 in
set_option maxRecDepth 100000 in
theorem gTurn_lay {w : World} {p q : Option Addr} {n nc m mc : Nat} {za : Value} {V : Int} (h1 : ∀ w', Below w.heap.size w w' → Calls Tryz.prog 19 #[.slice p n nc] w' fun e w2 => e = .returned za ∧ Below w'.heap.size w' w2) (h4 : ∀ w', Calls Tryz.prog 39 #[za] w' fun e w2 => e = .returned (.int .i64 V) ∧ Below w'.heap.size w' w2) :
    Calls Tryz.prog 13 #[.slice p n nc, .slice q m mc] w fun x w' => x = .returned (.int .i64 V) ∧ Below w.heap.size w w' := by
  go_enter Tryz.func13, Tryz.ntmps13
  go_wp2_with fail
  go_fit (h1 w (Below.refl _ _))
  rintro e w1 ⟨rfl, hb1⟩
  have h4' := h4 w1
  go_wp2_with fail
  go_fit h4'
  rintro e w2 ⟨rfl, hb2⟩
  have HBE : Hid (Below w.heap.size w w2) := bnext' hb1 hb2
  clear h1 h4 h4'
  go_wp2
  go_ret
  exact ⟨rfl, HBE.out⟩
set_option maxHeartbeats 4000000 in
set_option maxRecDepth 100000 in
theorem gCauchy_lay {w : World} {p q pa pb' : Option Addr} {n nc m mc na nac nb nbc : Nat} {za zb' zw zv : Value} {V : Int} (h1 : ∀ w', Below w.heap.size w w' → Calls Tryz.prog 19 #[.slice p n nc] w' fun e w2 => e = .returned za ∧ Below w'.heap.size w' w2) (h2 : ∀ w', Below w.heap.size w w' → Calls Tryz.prog 19 #[.slice q m mc] w' fun e w2 => e = .returned zb' ∧ Below w'.heap.size w' w2) (h3 : ∀ w', Below w.heap.size w w' → Calls Tryz.prog 28 #[.slice pa na nac] w' fun e w2 => e = .returned zw ∧ Below w'.heap.size w' w2) (h5 : ∀ w', Below w.heap.size w w' → Calls Tryz.prog 28 #[.slice pb' nb nbc] w' fun e w2 => e = .returned zv ∧ Below w'.heap.size w' w2) (h4 : ∀ w', Calls Tryz.prog 40 #[za, zb', zw, zv] w' fun e w2 => e = .returned (.int .i64 V) ∧ Below w'.heap.size w' w2) :
    Calls Tryz.prog 15 #[.slice p n nc, .slice q m mc, .slice pa na nac, .slice pb' nb nbc] w fun x w' => x = .returned (.int .i64 V) ∧ Below w.heap.size w w' := by
  go_enter Tryz.func15, Tryz.ntmps15
  go_wp2_with fail
  have g0 := h1 w (Below.refl _ _)
  go_fit g0
  rintro e w1 ⟨rfl, hb0⟩
  have hB0 : Below w.heap.size w w1 := hb0
  have g1 := h2 w1 hB0
  go_wp2_with fail
  go_fit g1
  rintro e w2 ⟨rfl, hb1⟩
  have hB1 : Below w.heap.size w w2 := bnext' hB0 hb1
  have g2 := h3 w2 hB1
  go_wp2_with fail
  go_fit g2
  rintro e w3 ⟨rfl, hb2⟩
  have hB2 : Below w.heap.size w w3 := bnext' hB1 hb2
  have g3 := h5 w3 hB2
  go_wp2_with fail
  go_fit g3
  rintro e w4 ⟨rfl, hb3⟩
  have hB3 : Below w.heap.size w w4 := bnext' hB2 hb3
  have g4 := h4 w4
  go_wp2_with fail
  go_fit g4
  rintro e w5 ⟨rfl, hb4⟩
  have hB4 : Below w.heap.size w w5 := bnext' hB3 hb4
  have HBE : Hid (Below w.heap.size w w5) := hB4
  clear h1 h2 h3 h5 h4 g0 g1 g2 g3 g4
  go_wp2
  go_ret
  exact ⟨rfl, HBE.out⟩
end Go.Proofs.YtcdfckjlmifjiaaGreat
/-
  ashlarref9.By, Times (out of Or).
-/
namespace Go.Proofs.YtcdfckjlmifjiaaGreat
open Go.RowKit
set_option linter.unusedVariables false
set_option linter.unusedSimpArgs false

set_option maxHeartbeats 1000000 in
/-- ashlarref9.By. -/
theorem rBy_any {w : World} (a b : Int) (ha : 1 ≤ a) (ha' : a ≤ 4611686018427387904) (hb : 1 ≤ b) :
    Calls Tryz.prog 36 #[.int .i64 a, .int .i64 b] w fun e w' => e = .returned (.int .i64 (min (a * b) 4611686018427387904)) ∧ w' = w := by
  have i1 : ¬ (4611686018427387904 < a) := by omega
  have i2 : (a != 0) = true := by rw [bne_iff_ne]; omega
  have i5 : a ≠ 0 := by omega
  have key : b ≤ 4611686018427387904 / a ↔ b * a ≤ 4611686018427387904 := Int.le_ediv_iff_mul_le (by omega)
  rw [Int.mul_comm b a] at key
  have hpos : 1 ≤ a * b := Int.mul_le_mul ha hb (by decide) (by omega)
  rcases Int.lt_or_le (4611686018427387904 / a) b with h | h
  · have HE : Hid (min (a * b) 4611686018427387904 = 4611686018427387904) := by
      have : ¬ a * b ≤ 4611686018427387904 := fun hh => by have := key.2 hh; omega
      show min (a * b) 4611686018427387904 = 4611686018427387904
      omega
    clear key hpos
    rw [HE.out]
    go_enter Tryz.func36, Tryz.ntmps36
    go_wp2
    go_ret
    exact ⟨rfl, rfl⟩
  · have h' := key.1 h
    have HE : Hid (min (a * b) 4611686018427387904 = a * b) := by
      show min (a * b) 4611686018427387904 = a * b
      omega
    have i4 : wrap64 (a * b) = a * b := by unfold wrap64; omega
    have i3 : ¬ (4611686018427387904 / a < b) := by omega
    clear key hpos h h'
    rw [HE.out]
    go_enter Tryz.func36, Tryz.ntmps36
    go_wp2
    go_ret
    exact ⟨rfl, rfl⟩
set_option maxHeartbeats 1000000 in
set_option maxRecDepth 100000 in
/-- ashlarref9.Times. -/
theorem rTimes_any {w : World} {p : Option Addr} {n nc : Nat} {xs : List Int} (hl : xs.length = n) (hX : Rd w p .i64 xs) (hn : n ≤ 1000000) :
    Calls Tryz.prog 33 #[.slice p n nc] w fun e w' => e = .returned (.int .i64 (tms xs)) ∧ w' = w := by
  have HX : Hid (xs.length = n ∧ Rd w p .i64 xs) := ⟨hl, hX⟩
  clear hl hX
  go_enter Tryz.func33, Tryz.ntmps33
  go_wp2_with fail
  go_loopw [3, 4] (fun cv iv wr => ∃ k : Nat, k ≤ n ∧ iv = .int .i64 k ∧ cv = .int .i64 (tms (xs.take k)) ∧ wr = w) (fun _ iv _ => n - (intOf iv).toNat)
  case atStart => exact ⟨0, Nat.zero_le _, by go_num, rfl, rfl⟩
  case round =>
    obtain ⟨k, hk, rfl, rfl, rfl⟩ := hrel
    obtain ⟨hl, hX⟩ := HX.out
    obtain ⟨d1, d2⟩ := tms_bd (xs.take k) 1 (by decide) (by decide)
    rcases Nat.lt_or_ge k n with hlt | hge
    · obtain ⟨b, o, hp, hc⟩ := hX (by omega)
      subst hp
      have c0 := hc k (by omega)
      have HP : Hid (tms (xs.take (k + 1)) = tmf (tms (xs.take k)) (gx xs k)) := tms_take 1 xs k (by omega)
      generalize gx xs k = x at *
      have d1' : 1 ≤ tms (xs.take k) := d1
      have d2' : tms (xs.take k) ≤ 4611686018427387904 := d2
      clear d1 d2
      generalize tms (xs.take k) = c at *
      have i1 : (k : Int) < (n : Int) := by omega
      clear hc hl hX
      rcases Int.lt_or_le 1 x with h1 | h1
      · have HP' : Hid (tms (xs.take (k + 1)) = min (c * x) 4611686018427387904) := by
          have h3 : max x 1 = x := by omega
          have h4 := HP.out
          unfold tmf at h4
          rw [h3] at h4
          exact h4
        clear HP
        go_wp2_with fail
        refine (rBy_any c x d1' d2' (by omega)).mono ?_
        rintro e w1 ⟨rfl, rfl⟩
        go_wp2_with fail
        refine ⟨⟨k + 1, by omega, by go_num, by rw [HP'.out], by first | rfl | trivial⟩, by simp [intOf]; omega⟩
      · have h2 : ¬ (1 < x) := by omega
        have HP' : Hid (tms (xs.take (k + 1)) = c) := by
          have h3 : max x 1 = 1 := by omega
          have h4 := HP.out
          unfold tmf at h4
          rw [h3, Int.mul_one] at h4
          show tms (xs.take (k + 1)) = c
          omega
        go_wp2_with fail
        refine ⟨⟨k + 1, by omega, by go_num, by rw [HP'.out], by first | rfl | trivial⟩, by simp [intOf]; omega⟩
    · obtain rfl : k = n := by omega
      have HE : Hid (tms (xs.take k) = tms xs) := by rw [List.take_of_length_le (by omega)]; rfl
      have i1 : ¬ (k : Int) < (k : Int) := by omega
      clear hX hl d1 d2
      go_wp2
      go_ret
      exact ⟨by rw [← HE.out]; rfl, rfl⟩
end Go.Proofs.YtcdfckjlmifjiaaGreat
/-
  ashlarref9: Plus, By, Sum, Size.
-/
namespace Go.Proofs.YtcdfckjlmifjiaaGreat
open Go.RowKit
set_option linter.unusedVariables false
set_option linter.unusedSimpArgs false

set_option maxHeartbeats 1000000 in
/-- ashlarref9.Plus. -/
theorem rPlus_any {w : World} (a b : Int) (ha : InT a) (hb : InT b) :
    Calls Tryz.prog 34 #[.int .i64 a, .int .i64 b] w fun e w' => e = .returned (.int .i64 (smf a b)) ∧ w' = w := by
  unfold InT at ha hb
  have v1 : wrap64 (4611686018427387904 - b) = 4611686018427387904 - b := by unfold wrap64; omega
  rcases Int.lt_or_le (4611686018427387904 - b) a with h | h
  · have HE : Hid (smf a b = 4611686018427387904) := by show smf a b = _; unfold smf; omega
    rw [HE.out]
    go_enter Tryz.func34, Tryz.ntmps34
    go_wp2
    go_ret
    exact ⟨rfl, rfl⟩
  · have HE : Hid (smf a b = a + b) := by show smf a b = _; unfold smf; omega
    have h' : ¬ 4611686018427387904 - b < a := by omega
    have v2 : wrap64 (a + b) = a + b := by unfold wrap64; omega
    rw [HE.out]
    go_enter Tryz.func34, Tryz.ntmps34
    go_wp2
    go_ret
    exact ⟨rfl, rfl⟩
set_option maxHeartbeats 1000000 in
/-- ashlarref9.By, of numbers from 0 on. -/
theorem rBy0_any {w : World} (a b : Int) (ha : InT a) (hb : InI b) :
    Calls Tryz.prog 36 #[.int .i64 a, .int .i64 b] w fun e w' => e = .returned (.int .i64 (pmf a b)) ∧ Below w.heap.size w w' := by
  rcases Int.lt_or_le 0 a with h0 | h0
  · rcases Int.lt_or_le 0 b with h1 | h1
    · refine (rBy_any a b (by omega) ha.2 (by omega)).mono ?_
      rintro e w' ⟨rfl, rfl⟩
      exact ⟨rfl, Below.refl _ _⟩
    · obtain rfl : b = 0 := by have := hb.1; omega
      have i1 : ¬ (4611686018427387904 < a) := by have := ha.2; omega
      have i2 : (a != 0) = true := by rw [bne_iff_ne]; omega
      have i5 : a ≠ 0 := by omega
      have hp : 0 ≤ 4611686018427387904 / a := Int.ediv_nonneg (by decide) (by omega)
      have i3 : ¬ (4611686018427387904 / a < 0) := by omega
      have HE : Hid (pmf a 0 = 0) := by show pmf a 0 = 0; unfold pmf; rw [Int.mul_zero]; rfl
      rw [HE.out]
      clear hp
      go_enter Tryz.func36, Tryz.ntmps36
      go_wp2
      go_ret
      exact ⟨rfl, Below.refl _ _⟩
  · obtain rfl : a = 0 := by have := ha.1; omega
    have HE : Hid (pmf 0 b = 0) := by show pmf 0 b = 0; unfold pmf; rw [Int.zero_mul]; rfl
    rw [HE.out]
    go_enter Tryz.func36, Tryz.ntmps36
    go_wp2
    go_ret
    exact ⟨rfl, Below.refl _ _⟩
set_option maxHeartbeats 1000000 in
set_option maxRecDepth 100000 in
/-- ashlarref9.Sum. -/
theorem rSum_any {w : World} {p : Option Addr} {n nc : Nat} {xs : List Int} (hl : xs.length = n) (hX : Rd w p .i64 xs) (hn : n ≤ 1000000) (hx : ∀ x ∈ xs, InT x) :
    Calls Tryz.prog 35 #[.slice p n nc] w fun e w' => e = .returned (.int .i64 (sms xs)) ∧ w' = w := by
  have HX : Hid (xs.length = n ∧ Rd w p .i64 xs ∧ ∀ x ∈ xs, InT x) := ⟨hl, hX, hx⟩
  clear hl hX hx
  go_enter Tryz.func35, Tryz.ntmps35
  go_wp2_with fail
  go_loopw [3, 4] (fun cv iv wr => ∃ k : Nat, k ≤ n ∧ iv = .int .i64 k ∧ cv = .int .i64 (sms (xs.take k)) ∧ wr = w) (fun _ iv _ => n - (intOf iv).toNat)
  case atStart => exact ⟨0, Nat.zero_le _, by go_num, rfl, rfl⟩
  case round =>
    obtain ⟨k, hk, rfl, rfl, rfl⟩ := hrel
    obtain ⟨hl, hX, hx⟩ := HX.out
    rcases Nat.lt_or_ge k n with hlt | hge
    · obtain ⟨b, o, hp, hc⟩ := hX (by omega)
      subst hp
      have c0 := hc k (by omega)
      have HT : Hid (sms (xs.take (k + 1)) = smf (sms (xs.take k)) (gx xs k)) := fold_take smf 0 xs k (by omega)
      have hT : InT (sms (xs.take k)) := fold_inv smf InT InT (fun c x h1 h2 => smf_bd c x h1 ⟨h2.1, by have := h2.2; omega⟩) _ 0 ⟨by decide, by decide⟩ fun x hx' => hx x (List.mem_of_mem_take hx')
      have hg : InT (gx xs k) := by rw [gx_mem xs k (by omega)]; exact hx _ (List.getElem_mem _)
      have hpl := rPlus_any (w := wr) _ _ hT hg
      have i1 : (k : Int) < (n : Int) := by omega
      clear hl hX hx hc hT hg
      generalize gx xs k = x at *
      generalize sms (xs.take k) = c at *
      go_wp2_with fail
      go_fit hpl
      rintro e w1 ⟨rfl, hw⟩
      subst w1
      clear hpl
      go_wp2_with fail
      refine ⟨⟨k + 1, by omega, by go_num, by rw [HT.out], by first | rfl | trivial⟩, by simp [intOf]; omega⟩
    · obtain rfl : k = n := by omega
      have HE : Hid (sms (xs.take k) = sms xs) := by rw [List.take_of_length_le (by omega)]; rfl
      have i1 : ¬ (k : Int) < (k : Int) := by omega
      clear hX hl hx
      go_wp2
      go_ret
      exact ⟨by rw [← HE.out]; rfl, rfl⟩
end Go.Proofs.YtcdfckjlmifjiaaGreat
/-
  Normal polynomials behind a store (out of Eb), and wider (out of It).
-/
namespace Go.Proofs.YtcdfckjlmifjiaaGreat
open Go.RowKit
set_option linter.unusedVariables false
set_option linter.unusedSimpArgs false

theorem PN.put {B : Nat} {w : World} {K : Nat} {p : Option Addr} {n : Nat} {es : List Ent} {zs : List Int} (h : PN B w K p n es zs) {b o : Nat} (hb : b < B) (v : Value) : PN B (w.setCell ⟨b, o, none⟩ v) K p n es zs :=
  ⟨h.el, h.zl, h.nrm, h.pl.set_other _ _ (off_from h.fr hb), h.fr, fun j hj => by
    obtain ⟨xs, c1, c2, c3⟩ := h.ev j hj
    exact ⟨xs, c1.set (a := ⟨b, o, none⟩) hb v, c2, c3⟩⟩
theorem PN.wider {B : Nat} {w : World} {K L : Nat} {p : Option Addr} {n : Nat} {es : List Ent} {zs : List Int} (h : PN B w K p n es zs) (hL : K ≤ L) : PN B w L p n es zs :=
  ⟨h.el, h.zl, h.nrm, h.pl, h.fr, fun j hj => by obtain ⟨xs, a, b, c⟩ := h.ev j hj; exact ⟨xs, a, b, by omega⟩⟩
end Go.Proofs.YtcdfckjlmifjiaaGreat
/-
  A block of slices (out of Oy).
-/
namespace Go.Proofs.YtcdfckjlmifjiaaGreat
open Go.RowKit
set_option linter.unusedVariables false
set_option linter.unusedSimpArgs false

theorem PN.tr {B : Nat} {w : World} {K : Nat} {p : Option Addr} {n : Nat} {es : List Ent} {zs : List Int} (h : PN B w K p n es zs) : Go.Proofs.YtcdfckjlmifjiaaGreat.tr zs = zs := tr_self (by rw [h.nrm, h.zl])
/-- A block of slices. -/
def HB (w : World) (g : Nat) (hs : List Hdr) : Prop := w.heap[g]? = some (.cells (hs.map Hdr.val).toArray 53 (0, 0))
section
variable {w w' : World} {g : Nat} {hs : List Hdr}
theorem HB.lt (h : HB w g hs) : g < w.heap.size := (Array.getElem?_eq_some_iff.1 h).1
theorem HB.cell (h : HB w g hs) (j : Nat) (hj : j < hs.length) : w.cell? ⟨g, j, none⟩ = some (gh hs j).val := by
  have h' : w.heap[g]? = some (.cells (hs.map Hdr.val).toArray 53 (0, 0)) := h
  simp [World.cell?, h', gh, hj]
theorem HB.frozen (h : HB w g hs) (j : Nat) : w.frozen? ⟨g, j, none⟩ = false := frozen_of_row w g j _ _ h
theorem HB.set (h : HB w g hs) (j : Nat) (v : Hdr) : HB (w.setCell ⟨g, j, none⟩ v.val) g (hs.set j v) := by
  unfold HB
  rw [heap_setCell_same w g j _ _ _ h]
  simp [List.map_set]
theorem HB.below {B : Nat} (h : HB w g hs) (hb : Below B w w') (hg : g < B) : HB w' g hs := (hb.block g hg).trans h
theorem gh_set (hs : List Hdr) (i j : Nat) (v : Hdr) (hi : i < hs.length) : gh (hs.set i v) j = if j = i then v else gh hs j := by
  unfold gh
  simp only [List.getD_eq_getElem?_getD, List.getElem?_set]
  by_cases e : i = j
  · subst e; simp [hi]
  · have e' : ¬ j = i := fun h => e h.symm
    simp [e, e']
end
def hzs (n : Nat) : List Hdr := List.replicate n ⟨none, 0, 0⟩
end Go.Proofs.YtcdfckjlmifjiaaGreat
