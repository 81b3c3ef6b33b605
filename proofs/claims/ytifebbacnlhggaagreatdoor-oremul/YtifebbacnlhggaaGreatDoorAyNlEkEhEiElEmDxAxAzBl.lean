/-
  ore.size; estimate.Apply.
-/
import Derived.Test.YtifebbacnlhggaaGreatDoorAw
import Derived.Test.YtifebbacnlhggaaGreatDoorBpBnBoAhAdBsDtAgWvUhAiRzVd
import Derived.Deep.DeepFit
import Derived.Test.YtifebbacnlhggaaGreatDoorNwNkOrAv
import Derived.Test.YtifebbacnlhggaaGreatDoorKqNtNuNv
import Derived.Test.YtifebbacnlhggaaGreatDoorRkUi
import Derived.Test.YtifebbacnlhggaaGreatDoorRtDhVeRsVfVcAjDqDrBmBqDuAkBrAlAp
namespace Go.Proofs.YtifebbacnlhggaaGreatDoor
open Go.RowKit
set_option linter.unusedVariables false
set_option linter.unusedSimpArgs false
set_option maxHeartbeats 8000000
set_option maxRecDepth 100000 in
theorem osize_any {w : World} {B T K E D : Nat} {zss : List (List Int)} {h : Hdr} (H : HR D (EZ K E) w B T zss h) (hT : T ≤ w.heap.size) (hD : D ≤ 1000000) (hE : E ≤ 1000000) (hK : K ≤ 1000) :
    Calls Tryz.prog 60 #[.slice h.p h.n h.c] w fun e w' => e = .returned (.agg #[.int .i64 (max ((olen zss : Int) - 1) 0), .int .i64 (max (odeg zss) 0), .int .i64 (obit zss)]) ∧ Below w.heap.size w w' := by
  have h1 := fun w' (hb : Below w.heap.size w w') => oOrder_any ((lasts_HR (lasts_EZ K E)).below H hT hb) (Nat.le_trans hT hb.size) hD hE
  have h2 := fun w' (hb : Below w.heap.size w w') => oDegree_any ((lasts_HR (lasts_EZ K E)).below H hT hb) (Nat.le_trans hT hb.size) hD hE
  have h3 := fun w' (hb : Below w.heap.size w w') => oBits_any ((lasts_HR (lasts_EZ K E)).below H hT hb) (Nat.le_trans hT hb.size) hD hE hK
  obtain ⟨p, n, nc⟩ := h
  simp only at h1 h2 h3 ⊢
  clear H hT
  generalize (olen zss : Int) - 1 = r at *
  generalize odeg zss = d at *
  generalize (obit zss : Int) = k at *
  obtain ⟨r', hr'⟩ : ∃ r', max r 0 = r' := ⟨_, rfl⟩
  obtain ⟨d', hd'⟩ : ∃ d', max d 0 = d' := ⟨_, rfl⟩
  have h4 := fun w => eSize_any w r d k
  rw [hr', hd'] at h4
  rw [hr', hd']
  clear hr' hd'
  have hW : Below w.heap.size w (w.alloc (.cells #[.int .i64 0, .int .i64 0, .int .i64 0] 96)) := (Below.refl _ _).alloc (Nat.le_refl _) _
  have hG : (w.alloc (.cells #[.int .i64 0, .int .i64 0, .int .i64 0] 96)).heap[w.heap.size]? = some (.cells #[.int .i64 0, .int .i64 0, .int .i64 0] 96 (0, 0)) := heap_alloc_new w _
  go_enter Tryz.func60, Tryz.ntmps60
  go_wp2_with fail
  generalize w.alloc (.cells #[.int .i64 0, .int .i64 0, .int .i64 0] 96) = W at *
  go_fit (h1 W hW)
  rintro e w1 ⟨rfl, hb1⟩
  have hB1 := bnext' hW hb1
  have h2' := h2 w1 hB1
  go_wp2_with fail
  go_fit h2'
  rintro e w2 ⟨rfl, hb2⟩
  have hB2 := bnext' hB1 hb2
  have h3' := h3 w2 hB2
  go_wp2_with fail
  go_fit h3'
  rintro e w3 ⟨rfl, hb3⟩
  have hB3 := bnext' hB2 hb3
  have hV3 := bnext' hb1 (bnext' hb2 hb3)
  clear h1 h2 h3 h2' h3' hb1 hb2 hb3 hB2 hB1
  go_wp2_with fail
  go_fit (h4 w3)
  rintro e w4 ⟨rfl, hb4⟩
  have hG4 : w4.heap[w.heap.size]? = some (.cells #[.int .i64 0, .int .i64 0, .int .i64 0] 96 (0, 0)) := ((bnext' hV3 hb4).block _ (Array.getElem?_eq_some_iff.1 hG).1).trans hG
  have HB : Hid (Below w.heap.size w w4) := bnext' hB3 hb4
  have z0 : w4.cell? ⟨w.heap.size, 0, none⟩ = some (.int .i64 0) := by simp only [World.cell?]; rw [hG4]; rfl
  have z1 : w4.cell? ⟨w.heap.size, 1, none⟩ = some (.int .i64 0) := by simp only [World.cell?]; rw [hG4]; rfl
  have z2 : w4.cell? ⟨w.heap.size, 2, none⟩ = some (.int .i64 0) := by simp only [World.cell?]; rw [hG4]; rfl
  have f0 := frozen_of_row w4 _ 0 _ _ hG4
  have f1 := frozen_of_row w4 _ 1 _ _ hG4
  have f2 := frozen_of_row w4 _ 2 _ _ hG4
  clear hB3 hb4 hV3 hG hG4 hW
  clear h4
  go_wp2_with fail
  refine bodyPost_ret (v := .agg #[.int .i64 r', .int .i64 d', .int .i64 k]) (by simp [results, Tryz.results60, go_sem, z0, z1, z2]) rfl ⟨rfl, ?_⟩
  exact ((HB.out.setCell (p := ⟨w.heap.size, 0, none⟩) (Nat.le_refl _) _).setCell (p := ⟨w.heap.size, 1, none⟩) (Nat.le_refl _) _).setCell (p := ⟨w.heap.size, 2, none⟩) (Nat.le_refl _) _
theorem rBy_any {w : World} (a b : Int) (ha : 1 ≤ a) (ha' : a ≤ 4611686018427387904) (hb : 1 ≤ b) :
    Calls Tryz.prog 67 #[.int .i64 a, .int .i64 b] w fun e w' => e = .returned (.int .i64 (min (a * b) 4611686018427387904)) ∧ w' = w := by
  have i1 : ¬ (4611686018427387904 < a) := by omega
  have i2 : (a != 0) = true := by rw [bne_iff_ne]; omega
  have i5 : a ≠ 0 := by omega
  have key : b ≤ 4611686018427387904 / a ↔ b * a ≤ 4611686018427387904 := Int.le_ediv_iff_mul_le (by omega)
  rw [Int.mul_comm b a] at key
  have hpos : 1 ≤ a * b := Int.mul_le_mul ha hb (by decide) (by omega)
  rcases Int.lt_or_le (4611686018427387904 / a) b with h | h
  · have HE : Hid (min (a * b) 4611686018427387904 = 4611686018427387904) := by
      have : ¬ a * b ≤ 4611686018427387904 := fun hh => by have := key.2 hh; omega
      show min (a * b) 4611686018427387904 = 4611686018427387904
      omega
    clear key hpos
    rw [HE.out]
    go_enter Tryz.func67, Tryz.ntmps67
    go_wp2
    go_ret
    exact ⟨rfl, rfl⟩
  · have h' := key.1 h
    have HE : Hid (min (a * b) 4611686018427387904 = a * b) := by
      show min (a * b) 4611686018427387904 = a * b
      omega
    have i4 : wrap64 (a * b) = a * b := by unfold wrap64; omega
    have i3 : ¬ (4611686018427387904 / a < b) := by omega
    clear key hpos h h'
    rw [HE.out]
    go_enter Tryz.func67, Tryz.ntmps67
    go_wp2
    go_ret
    exact ⟨rfl, rfl⟩
set_option maxRecDepth 100000 in
theorem rTimes_any {w : World} {p : Option Addr} {n nc : Nat} {xs : List Int} (hl : xs.length = n) (hX : Rd w p .i64 xs) (hn : n ≤ 1000000) :
    Calls Tryz.prog 65 #[.slice p n nc] w fun e w' => e = .returned (.int .i64 (tms xs)) ∧ w' = w := by
  have HX : Hid (xs.length = n ∧ Rd w p .i64 xs) := ⟨hl, hX⟩
  clear hl hX
  go_enter Tryz.func65, Tryz.ntmps65
  go_wp2_with fail
  go_loopw [3, 4] (fun cv iv wr => ∃ k : Nat, k ≤ n ∧ iv = .int .i64 k ∧ cv = .int .i64 (tms (xs.take k)) ∧ wr = w) (fun _ iv _ => n - (intOf iv).toNat)
  case atStart => exact ⟨0, Nat.zero_le _, by go_num, rfl, rfl⟩
  case round =>
    obtain ⟨k, hk, rfl, rfl, rfl⟩ := hrel
    obtain ⟨hl, hX⟩ := HX.out
    obtain ⟨d1, d2⟩ := tms_bd (xs.take k) 1 (by decide) (by decide)
    rcases Nat.lt_or_ge k n with hlt | hge
    · obtain ⟨b, o, hp, hc⟩ := hX (by omega)
      subst hp
      have c0 := hc k (by omega)
      have HP : Hid (tms (xs.take (k + 1)) = tmf (tms (xs.take k)) (gx xs k)) := tms_take 1 xs k (by omega)
      generalize gx xs k = x at *
      have d1' : 1 ≤ tms (xs.take k) := d1
      have d2' : tms (xs.take k) ≤ 4611686018427387904 := d2
      clear d1 d2
      generalize tms (xs.take k) = c at *
      have i1 : (k : Int) < (n : Int) := by omega
      clear hc hl hX
      rcases Int.lt_or_le 1 x with h1 | h1
      · have HP' : Hid (tms (xs.take (k + 1)) = min (c * x) 4611686018427387904) := by
          have h3 : max x 1 = x := by omega
          have h4 := HP.out
          unfold tmf at h4
          rw [h3] at h4
          exact h4
        clear HP
        go_wp2_with fail
        refine (rBy_any c x d1' d2' (by omega)).mono ?_
        rintro e w1 ⟨rfl, rfl⟩
        go_wp2_with fail
        refine ⟨⟨k + 1, by omega, by go_num, by rw [HP'.out], by first | rfl | trivial⟩, by simp [intOf]; omega⟩
      · have h2 : ¬ (1 < x) := by omega
        have HP' : Hid (tms (xs.take (k + 1)) = c) := by
          have h3 : max x 1 = 1 := by omega
          have h4 := HP.out
          unfold tmf at h4
          rw [h3, Int.mul_one] at h4
          show tms (xs.take (k + 1)) = c
          omega
        go_wp2_with fail
        refine ⟨⟨k + 1, by omega, by go_num, by rw [HP'.out], by first | rfl | trivial⟩, by simp [intOf]; omega⟩
    · obtain rfl : k = n := by omega
      have HE : Hid (tms (xs.take k) = tms xs) := by rw [List.take_of_length_le (by omega)]; rfl
      have i1 : ¬ (k : Int) < (k : Int) := by omega
      clear hX hl d1 d2
      go_wp2
      go_ret
      exact ⟨by rw [← HE.out]; rfl, rfl⟩
theorem rPlus_any {w : World} (a b : Int) (ha : InT a) (hb : InT b) :
    Calls Tryz.prog 120 #[.int .i64 a, .int .i64 b] w fun e w' => e = .returned (.int .i64 (smf a b)) ∧ w' = w := by
  unfold InT at ha hb
  have v1 : wrap64 (4611686018427387904 - b) = 4611686018427387904 - b := by unfold wrap64; omega
  rcases Int.lt_or_le (4611686018427387904 - b) a with h | h
  · have HE : Hid (smf a b = 4611686018427387904) := by show smf a b = _; unfold smf; omega
    rw [HE.out]
    go_enter Tryz.func120, Tryz.ntmps120
    go_wp2
    go_ret
    exact ⟨rfl, rfl⟩
  · have HE : Hid (smf a b = a + b) := by show smf a b = _; unfold smf; omega
    have h' : ¬ 4611686018427387904 - b < a := by omega
    have v2 : wrap64 (a + b) = a + b := by unfold wrap64; omega
    rw [HE.out]
    go_enter Tryz.func120, Tryz.ntmps120
    go_wp2
    go_ret
    exact ⟨rfl, rfl⟩
theorem rBy0_any {w : World} (a b : Int) (ha : InT a) (hb : InI b) :
    Calls Tryz.prog 67 #[.int .i64 a, .int .i64 b] w fun e w' => e = .returned (.int .i64 (pmf a b)) ∧ Below w.heap.size w w' := by
  rcases Int.lt_or_le 0 a with h0 | h0
  · rcases Int.lt_or_le 0 b with h1 | h1
    · refine (rBy_any a b (by omega) ha.2 (by omega)).mono ?_
      rintro e w' ⟨rfl, rfl⟩
      exact ⟨rfl, Below.refl _ _⟩
    · obtain rfl : b = 0 := by have := hb.1; omega
      have i1 : ¬ (4611686018427387904 < a) := by have := ha.2; omega
      have i2 : (a != 0) = true := by rw [bne_iff_ne]; omega
      have i5 : a ≠ 0 := by omega
      have hp : 0 ≤ 4611686018427387904 / a := Int.ediv_nonneg (by decide) (by omega)
      have i3 : ¬ (4611686018427387904 / a < 0) := by omega
      have HE : Hid (pmf a 0 = 0) := by show pmf a 0 = 0; unfold pmf; rw [Int.mul_zero]; rfl
      rw [HE.out]
      clear hp
      go_enter Tryz.func67, Tryz.ntmps67
      go_wp2
      go_ret
      exact ⟨rfl, Below.refl _ _⟩
  · obtain rfl : a = 0 := by have := ha.1; omega
    have HE : Hid (pmf 0 b = 0) := by show pmf 0 b = 0; unfold pmf; rw [Int.zero_mul]; rfl
    rw [HE.out]
    go_enter Tryz.func67, Tryz.ntmps67
    go_wp2
    go_ret
    exact ⟨rfl, Below.refl _ _⟩
set_option maxRecDepth 100000 in
theorem rSum_any {w : World} {p : Option Addr} {n nc : Nat} {xs : List Int} (hl : xs.length = n) (hX : Rd w p .i64 xs) (hn : n ≤ 1000000) (hx : ∀ x ∈ xs, InT x) :
    Calls Tryz.prog 66 #[.slice p n nc] w fun e w' => e = .returned (.int .i64 (sms xs)) ∧ w' = w := by
  have HX : Hid (xs.length = n ∧ Rd w p .i64 xs ∧ ∀ x ∈ xs, InT x) := ⟨hl, hX, hx⟩
  clear hl hX hx
  go_enter Tryz.func66, Tryz.ntmps66
  go_wp2_with fail
  go_loopw [3, 4] (fun cv iv wr => ∃ k : Nat, k ≤ n ∧ iv = .int .i64 k ∧ cv = .int .i64 (sms (xs.take k)) ∧ wr = w) (fun _ iv _ => n - (intOf iv).toNat)
  case atStart => exact ⟨0, Nat.zero_le _, by go_num, rfl, rfl⟩
  case round =>
    obtain ⟨k, hk, rfl, rfl, rfl⟩ := hrel
    obtain ⟨hl, hX, hx⟩ := HX.out
    rcases Nat.lt_or_ge k n with hlt | hge
    · obtain ⟨b, o, hp, hc⟩ := hX (by omega)
      subst hp
      have c0 := hc k (by omega)
      have HT : Hid (sms (xs.take (k + 1)) = smf (sms (xs.take k)) (gx xs k)) := fold_take smf 0 xs k (by omega)
      have hT : InT (sms (xs.take k)) := fold_inv smf InT InT (fun c x h1 h2 => smf_bd c x h1 ⟨h2.1, by have := h2.2; omega⟩) _ 0 ⟨by decide, by decide⟩ fun x hx' => hx x (List.mem_of_mem_take hx')
      have hg : InT (gx xs k) := by rw [gx_mem xs k (by omega)]; exact hx _ (List.getElem_mem _)
      have hpl := rPlus_any (w := wr) _ _ hT hg
      have i1 : (k : Int) < (n : Int) := by omega
      clear hl hX hx hc hT hg
      generalize gx xs k = x at *
      generalize sms (xs.take k) = c at *
      go_wp2_with fail
      go_fit hpl
      rintro e w1 ⟨rfl, hw⟩
      subst w1
      clear hpl
      go_wp2_with fail
      refine ⟨⟨k + 1, by omega, by go_num, by rw [HT.out], by first | rfl | trivial⟩, by simp [intOf]; omega⟩
    · obtain rfl : k = n := by omega
      have HE : Hid (sms (xs.take k) = sms xs) := by rw [List.take_of_length_le (by omega)]; rfl
      have i1 : ¬ (k : Int) < (k : Int) := by omega
      clear hX hl hx
      go_wp2
      go_ret
      exact ⟨by rw [← HE.out]; rfl, rfl⟩
def rszO (l : List (List Int)) : Int := if l.length = 0 then 0 else (l.length : Int) - 1
def rszD (l : List (List Int)) : Int := if l.length = 0 then 0 else odeg l
def rszB (l : List (List Int)) : Int := if l.length = 0 then 0 else (obit l : Int)
set_option maxRecDepth 100000 in
theorem rSize8_any {w : World} {B T N E D : Nat} {l : List (List Int)} {h : Hdr} (H : HR D (EY N E) w B T l h) (hT : T ≤ w.heap.size) (hD : D ≤ 1000000) (hE : E ≤ 1000000) (hN : N ≤ 1000) :
    Calls Tryz.prog 63 #[.slice h.p h.n h.c] w fun e w' => e = .returned (.tuple #[.int .i64 (rszO l), .int .i64 (rszD l), .int .i64 (rszB l)]) ∧ Below w.heap.size w w' := by
  have h2 := fun w' (hb : Below w.heap.size w w') => rDegree8_any ((lasts_HR (lasts_EY N E)).below H hT hb) (Nat.le_trans hT hb.size) hD hE
  have h3 := fun w' (hb : Below w.heap.size w w') => rBits8_any ((lasts_HR (lasts_EY N E)).below H hT hb) (Nat.le_trans hT hb.size) hD hE hN
  have hl : l.length = h.n ∧ h.n ≤ 1000000 := by obtain ⟨_, k⟩ := H; exact ⟨k.tl, Nat.le_trans k.few hD⟩
  have hO : rszO l = if h.n = 0 then 0 else (h.n : Int) - 1 := by rw [rszO, hl.1]
  have hD' : rszD l = if h.n = 0 then 0 else odeg l := by rw [rszD, hl.1]
  have hB : rszB l = if h.n = 0 then 0 else (obit l : Int) := by rw [rszB, hl.1]
  rw [hO, hD', hB]
  obtain ⟨p, n, nc⟩ := h
  have hn := hl.2
  simp only at h2 h3 hn ⊢
  clear H hT hl hO hD' hB
  generalize odeg l = d at *
  generalize (obit l : Int) = k at *
  rcases Nat.eq_zero_or_pos n with h0 | h0
  · subst h0
    go_enter Tryz.func63, Tryz.ntmps63
    go_wp2
    refine bodyPost_ret (v := .tuple #[.int .i64 0, .int .i64 0, .int .i64 0]) (by simp [results, Tryz.results63, go_sem]) rfl ⟨rfl, Below.refl _ _⟩
  · have i1 : ((n : Int) == 0) = false := by rw [beq_eq_false_iff_ne]; omega
    have i2 : ¬ (n : Int) = 0 := by omega
    have i3 : ¬ n = 0 := by omega
    rw [if_neg i3, if_neg i3, if_neg i3]
    have hor := rOrder8_any w p n nc hn
    generalize (n : Int) - 1 = r at *
    go_enter Tryz.func63, Tryz.ntmps63
    go_wp2_with fail
    go_fit hor
    rintro e w1 ⟨rfl, hw⟩
    subst w1
    have h2' := h2 w (Below.refl _ _)
    go_wp2_with fail
    go_fit h2'
    rintro e w2 ⟨rfl, hb2⟩
    have h3' := h3 w2 hb2
    go_wp2_with fail
    go_fit h3'
    rintro e w3 ⟨rfl, hb3⟩
    have HB : Hid (Below w.heap.size w w3) := bnext' hb2 hb3
    clear h2 h3 h2' h3' hb2 hb3 hor
    go_wp2
    refine bodyPost_ret (v := .tuple #[.int .i64 r, .int .i64 d, .int .i64 k]) (by simp [results, Tryz.results63, go_sem]) rfl ⟨rfl, HB.out⟩
theorem rtimes_lit {w : World} {b : Nat} (xs : List Int) (n : Nat) (hl : xs.length = n) (hn : n ≤ 100) (h : Rd w (some ⟨b, 0, none⟩) .i64 xs) (hx : ∀ x ∈ xs, InI x) :
    Calls Tryz.prog 65 #[.slice (some ⟨b, 0, none⟩) n n] w fun e w' => e = .returned (.int .i64 (tms xs)) ∧ Below w.heap.size w w' :=
  (rTimes_any hl h (by omega)).mono fun e w' ⟨a, b⟩ => ⟨a, by rw [b]; exact Below.refl _ _⟩
theorem rsum_lit {w : World} {b : Nat} (xs : List Int) (n : Nat) (hl : xs.length = n) (hn : n ≤ 100) (h : Rd w (some ⟨b, 0, none⟩) .i64 xs) (hx : ∀ x ∈ xs, InT x) :
    Calls Tryz.prog 66 #[.slice (some ⟨b, 0, none⟩) n n] w fun e w' => e = .returned (.int .i64 (sms xs)) ∧ Below w.heap.size w w' :=
  (rSum_any hl h (by omega) hx).mono fun e w' ⟨a, b⟩ => ⟨a, by rw [b]; exact Below.refl _ _⟩
def SzB (x : List (List Int)) : Prop := (0 ≤ rszO x ∧ rszO x ≤ 1000000) ∧ (0 ≤ rszD x ∧ rszD x ≤ 1000000) ∧ (0 ≤ rszB x ∧ rszB x ≤ 1000000000)
theorem inT_small {x : Int} (h0 : 0 ≤ x) (h1 : x ≤ 1000000000000) : InT x := ⟨h0, by omega⟩
theorem inI_small {x : Int} (h0 : 0 ≤ x) (h1 : x ≤ 1000000000000) : InI x := ⟨h0, by omega⟩
set_option maxRecDepth 100000 in
theorem rMul9_any {w : World} {B T N E D B2 T2 N2 M : Nat} {x y : List (List Int)} {h g : Hdr} {q : Int} {e0 : Ent} (H : HR D (EY N E) w B T x h) (G : HR D (EY N2 E) w B2 T2 y g) (hT : T ≤ w.heap.size) (hT2 : T2 ≤ w.heap.size) (hq : RE w M q e0) (hD : D ≤ 1000000) (hE : E ≤ 1000000) (hN : N ≤ 1000) (hN2 : N2 ≤ 1000) (hM : M ≤ 1000) (b1 : SzB x) (b2 : SzB y) :
    Calls Tryz.prog 28 #[.slice h.p h.n h.c, .slice g.p g.n g.c, .agg #[.bool e0.s, .slice e0.p e0.n e0.c]] w fun e w' => e = .returned (.int .i64 (tms [rszO x + 1, rszO y + 1, rszD x + rszD y + 2, sms [rszB x, rszB y, pmf (rszO x + 1) (rszD y + 1), pmf (pmf (rszO x) (rszD y + 1)) (zb q : Int), 8]])) ∧ Below w.heap.size w w' := by
  have h1 := fun w' (hb : Below w.heap.size w w') => rSize8_any ((lasts_HR (lasts_EY N E)).below H hT hb) (Nat.le_trans hT hb.size) hD hE hN
  have h2 := fun w' (hb : Below w.heap.size w w') => rSize8_any ((lasts_HR (lasts_EY N2 E)).below G hT2 hb) (Nat.le_trans hT2 hb.size) hD hE hN2
  have h3 := fun w' (hb : Below w.heap.size w w') => rBits_e (hq.below hb) hM
  obtain ⟨p, n, nc⟩ := h
  obtain ⟨p', n', nc'⟩ := g
  simp only at h1 h2 h3 ⊢
  clear H G hT hT2 hq
  unfold SzB at b1 b2
  generalize rszO x = r at *
  generalize rszD x = d at *
  generalize rszB x = k at *
  generalize rszO y = s at *
  generalize rszD y = e at *
  generalize rszB y = l at *
  have hW : Below w.heap.size w (w.alloc (.cells #[.bool e0.s, .slice e0.p e0.n e0.c] 30)) := (Below.refl _ _).alloc (Nat.le_refl _) _
  have c0 : (w.alloc (.cells #[.bool e0.s, .slice e0.p e0.n e0.c] 30)).cell? ⟨w.heap.size, 0, none⟩ = some (.bool e0.s) := by simp [go_sem]
  have c1 : (w.alloc (.cells #[.bool e0.s, .slice e0.p e0.n e0.c] 30)).cell? ⟨w.heap.size, 1, none⟩ = some (.slice e0.p e0.n e0.c) := by simp [go_sem]
  go_enter Tryz.func28, Tryz.ntmps28
  go_wp2_with fail
  generalize w.alloc (.cells #[.bool e0.s, .slice e0.p e0.n e0.c] 30) = W at *
  go_fit (h1 W hW)
  rintro e1 w1 ⟨rfl, hb1⟩
  have hB1 := bnext' hW hb1
  have h2' := h2 w1 hB1
  go_wp2_with fail
  go_fit h2'
  rintro e1 w2 ⟨rfl, hb2⟩
  have hB2 := bnext' hB1 hb2
  have h3' := h3 w2 hB2
  have d0 := cell_later (bnext' hb1 hb2) c0
  have d1 := cell_later (bnext' hb1 hb2) c1
  go_wp2_with fail
  go_fit h3'
  rintro e1 w3 ⟨rfl, hzb, hb3⟩
  have hB3 := bnext' hB2 hb3
  clear h1 h2 h3 h2' h3' hb1 hb2 hb3 hB1 hB2 c0 c1 d0 d1 hW
  have hm : 0 ≤ (zb q : Int) ∧ (zb q : Int) ≤ 1000000 := by omega
  clear hzb
  generalize hmm : (zb q : Int) = m at *
  have HMM : Hid ((zb q : Int) = m) := hmm
  clear hmm
  obtain ⟨⟨r0, r1⟩, ⟨d0, d1⟩, k0, k1⟩ := b1
  obtain ⟨⟨s0, s1⟩, ⟨e0', e1'⟩, l0, l1⟩ := b2
  obtain ⟨m0, m1⟩ := hm
  have v1 : wrap64 (r + 1) = r + 1 := by unfold wrap64; omega
  have v2 : wrap64 (s + 1) = s + 1 := by unfold wrap64; omega
  have v3 : wrap64 (d + e) = d + e := by unfold wrap64; omega
  have v4 : wrap64 (d + e + 2) = d + e + 2 := by unfold wrap64; omega
  have v5 : wrap64 (e + 1) = e + 1 := by unfold wrap64; omega
  have t1 : InT (r + 1) := inT_small (by omega) (by omega)
  have t2 : InI (e + 1) := inI_small (by omega) (by omega)
  have t3 : InT r := inT_small (by omega) (by omega)
  have t4 : InI m := inI_small (by omega) (by omega)
  have p1 := pmf_bd (r + 1) (e + 1) t1 t2
  have p2 := pmf_bd r (e + 1) t3 t2
  have p3 := pmf_bd (pmf r (e + 1)) m p2 t4
  go_wp2_with fail
  go_fit (rBy0_any (r + 1) (e + 1) t1 t2)
  rintro e1 w4 ⟨rfl, hb4⟩
  have hB4 := bnext' hB3 hb4
  go_wp2_with fail
  go_fit (rBy0_any r (e + 1) t3 t2)
  rintro e1 w5 ⟨rfl, hb5⟩
  have hB5 := bnext' hB4 hb5
  go_wp2_with fail
  go_fit (rBy0_any (pmf r (e + 1)) m p2 t4)
  rintro e1 w6 ⟨rfl, hb6⟩
  have hB6 := bnext' hB5 hb6
  clear hB3 hB4 hB5 hb4 hb5 hb6
  generalize hx1 : pmf (r + 1) (e + 1) = x1 at *
  have HX1 : Hid (pmf (r + 1) (e + 1) = x1) := hx1
  clear hx1
  generalize hx2 : pmf (pmf r (e + 1)) m = x2 at *
  have HX2 : Hid (pmf (pmf r (e + 1)) m = x2) := hx2
  clear hx2
  generalize hx3 : pmf r (e + 1) = x3 at *
  have HX3 : Hid (pmf r (e + 1) = x3) := hx3
  clear hx3
  have hrd : Rd (w6.alloc (.cells #[.int .i64 k, .int .i64 l, .int .i64 x1, .int .i64 x2, .int .i64 8] 3)) (some ⟨w6.heap.size, 0, none⟩) .i64 [k, l, x1, x2, 8] := rd_lit w6 [k, l, x1, x2, 8] 3
  have hin : ∀ y ∈ [k, l, x1, x2, 8], InT y := (List.forall_mem_cons.2 ⟨inT_small (by omega) (by omega), (List.forall_mem_cons.2 ⟨inT_small (by omega) (by omega), (List.forall_mem_cons.2 ⟨p1, (List.forall_mem_cons.2 ⟨p3, (List.forall_mem_cons.2 ⟨inT_small (by omega) (by omega), (List.forall_mem_nil _)⟩)⟩)⟩)⟩)⟩)
  go_wp2_with fail
  go_fit (rsum_lit [k, l, x1, x2, 8] 5 rfl (by decide) hrd hin)
  rintro e1 w7 ⟨rfl, hb7⟩
  have hB7 : Below w.heap.size w w7 := bnext' hB6 (bnext' ((Below.refl _ _).alloc (Nat.le_refl _) _) hb7)
  have hsI : InI (sms [k, l, x1, x2, 8]) := sms_in fun y hy => ⟨(hin y hy).1, by have := (hin y hy).2; omega⟩
  clear hrd hb7 hB6 hin
  generalize hx4 : sms [k, l, x1, x2, 8] = x4 at *
  have HX4 : Hid (sms [k, l, x1, x2, 8] = x4) := hx4
  clear hx4
  have hrd : Rd (w7.alloc (.cells #[.int .i64 (r + 1), .int .i64 (s + 1), .int .i64 (d + e + 2), .int .i64 x4] 3)) (some ⟨w7.heap.size, 0, none⟩) .i64 [r + 1, s + 1, d + e + 2, x4] := rd_lit w7 [r + 1, s + 1, d + e + 2, x4] 3
  go_wp2_with fail
  go_fit (rtimes_lit [r + 1, s + 1, d + e + 2, x4] 4 rfl (by decide) hrd (List.forall_mem_cons.2 ⟨inI_small (by omega) (by omega), (List.forall_mem_cons.2 ⟨inI_small (by omega) (by omega), (List.forall_mem_cons.2 ⟨inI_small (by omega) (by omega), (List.forall_mem_cons.2 ⟨hsI, (List.forall_mem_nil _)⟩)⟩)⟩)⟩))
  rintro e1 w8 ⟨rfl, hb8⟩
  have HB8 : Hid (Below w.heap.size w w8) := bnext' hB7 (bnext' ((Below.refl _ _).alloc (Nat.le_refl _) _) hb8)
  clear hrd hb8 hB7
  go_wp2
  go_ret
  refine ⟨?_, HB8.out⟩
  rw [HMM.out, HX1.out, HX3.out, HX2.out, HX4.out]
  rfl
end Go.Proofs.YtifebbacnlhggaaGreatDoor
