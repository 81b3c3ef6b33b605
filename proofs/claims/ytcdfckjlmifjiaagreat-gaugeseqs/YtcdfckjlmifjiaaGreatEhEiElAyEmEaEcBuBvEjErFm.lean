/-
  estimate.Divide.
-/
import Derived.Test.YtcdfckjlmifjiaaGreatDyAw
import Derived.Deep.DeepFit
import Derived.Test.YtcdfckjlmifjiaaGreatBnUjBoAhEkOaOcOd
import Derived.Test.YtcdfckjlmifjiaaGreatAzBlEeEfVuDlVvWxUpUqDkDbUiVqJpDjVkJo
import Derived.Test.YtcdfckjlmifjiaaGreatAvWa
import Derived.Test.YtcdfckjlmifjiaaGreatAdDtAgUhAiRsVfAjDqDrBmAkAlApEp
import Derived.Test.YtcdfckjlmifjiaaGreatFlDxAxDnDoAc
import Derived.Test.YtcdfckjlmifjiaaGreatFiFj
namespace Go.Proofs.YtcdfckjlmifjiaaGreat
open Go.RowKit
set_option linter.unusedVariables false
set_option linter.unusedSimpArgs false

end Go.Proofs.YtcdfckjlmifjiaaGreat
/-
  estimate.Common.
-/
namespace Go.Proofs.YtcdfckjlmifjiaaGreat
open Go.RowKit
set_option linter.unusedVariables false
set_option linter.unusedSimpArgs false

end Go.Proofs.YtcdfckjlmifjiaaGreat
/-
  gauge.Mul, Divide, Common.
-/
namespace Go.Proofs.YtcdfckjlmifjiaaGreat
open Go.RowKit
set_option linter.unusedVariables false
set_option linter.unusedSimpArgs false

set_option maxHeartbeats 4000000 in
set_option maxRecDepth 100000 in
theorem gMul_lay {w : World} {p q : Option Addr} {n nc m mc : Nat} {e0 : Ent} {za zb' : Value} {m0 V : Int} (h1 : ∀ w', Below w.heap.size w w' → Calls Tryz.prog 19 #[.slice p n nc] w' fun e w2 => e = .returned za ∧ Below w'.heap.size w' w2) (h2 : ∀ w', Below w.heap.size w w' → Calls Tryz.prog 19 #[.slice q m mc] w' fun e w2 => e = .returned zb' ∧ Below w'.heap.size w' w2)
    (h3 : ∀ w', Below w.heap.size w w' → Calls Tryz.prog 48 #[.agg #[.bool e0.s, .slice e0.p e0.n e0.c]] w' fun e w2 => e = .returned (.int .i64 m0) ∧ Below w'.heap.size w' w2) (h4 : ∀ w', Calls Tryz.prog 47 #[za, zb', .int .i64 m0] w' fun e w2 => e = .returned (.int .i64 V) ∧ Below w'.heap.size w' w2) :
    Calls Tryz.prog 20 #[.slice p n nc, .slice q m mc, .agg #[.bool e0.s, .slice e0.p e0.n e0.c]] w fun x w' => x = .returned (.int .i64 V) ∧ Below w.heap.size w w' := by
  have hW : Below w.heap.size w (w.alloc (.cells #[.bool e0.s, .slice e0.p e0.n e0.c] 50)) := (Below.refl _ _).alloc (Nat.le_refl _) _
  have c0 : (w.alloc (.cells #[.bool e0.s, .slice e0.p e0.n e0.c] 50)).cell? ⟨w.heap.size, 0, none⟩ = some (.bool e0.s) := by simp [go_sem]
  have c1 : (w.alloc (.cells #[.bool e0.s, .slice e0.p e0.n e0.c] 50)).cell? ⟨w.heap.size, 1, none⟩ = some (.slice e0.p e0.n e0.c) := by simp [go_sem]
  go_enter Tryz.func20, Tryz.ntmps20
  go_wp2_with fail
  generalize w.alloc (.cells #[.bool e0.s, .slice e0.p e0.n e0.c] 50) = W at *
  refine region_ints [(0, 7), (1, 8), (2, 9), (3, 10), (4, 11), (5, 12), (6, 13), (7, 6)]
    [.val (.slice p n nc), .val za, .val (.slice q m mc), .val zb', .val (.agg #[.bool e0.s, .slice e0.p e0.n e0.c]), .val (.int .i64 m0), .val (.int .i64 V), .val (.int .i64 V)]
    (by kernel_rfl) (by kernel_rfl) (by kernel_rfl) (by decide) (by decide) (by rfl) ?_ ?_
  · refine ⟨?_, ?_, ?_, ?_, ?_, ?_, ?_, ?_, trivial⟩
    · exact ok_pure _ rfl fun ρ v R => by simp [execOp, go_sem, R.old 0 (by decide)]
    · exact ok_call 19 _ rfl fun ρ v R => ⟨_, by simp [execOp, go_sem, R.dep 0 7 _ (by decide) rfl rfl, R.fn], h1 _ (bnext' hW R.b)⟩
    · exact ok_pure _ rfl fun ρ v R => by simp [execOp, go_sem, R.old 1 (by decide)]
    · exact ok_call 19 _ rfl fun ρ v R => ⟨_, by simp [execOp, go_sem, R.dep 2 9 _ (by decide) rfl rfl, R.fn], h2 _ (bnext' hW R.b)⟩
    · exact ok_pure _ rfl fun ρ v R => by have x0 := cell_later R.b c0; have x1 := cell_later R.b c1; simp [execOp, go_sem, R.old 5 (by decide), x0, x1]
    · exact ok_call 48 _ rfl fun ρ v R => ⟨_, by simp [execOp, go_sem, R.dep 4 11 _ (by decide) rfl rfl, R.fn], h3 _ (bnext' hW R.b)⟩
    · exact ok_call 47 _ rfl fun ρ v R => ⟨_, by simp [execOp, go_sem, R.dep 1 8 _ (by decide) rfl rfl, R.dep 3 10 _ (by decide) rfl rfl, R.dep 5 12 _ (by decide) rfl rfl, R.fn], h4 _⟩
    · exact ok_pure _ rfl fun ρ v R => by simp [execOp, go_sem, R.dep 6 13 _ (by decide) rfl rfl]
  intro vals w2 hb2 hv
  have v0 : vals 0 = _ := hv (0, 7) (by decide)
  have v1 : vals 1 = _ := hv (1, 8) (by decide)
  have v2 : vals 2 = _ := hv (2, 9) (by decide)
  have v3 : vals 3 = _ := hv (3, 10) (by decide)
  have v4 : vals 4 = _ := hv (4, 11) (by decide)
  have v5 : vals 5 = _ := hv (5, 12) (by decide)
  have v6 : vals 6 = _ := hv (6, 13) (by decide)
  have v7 : vals 7 = _ := hv (7, 6) (by decide)
  simp only [List.foldl, v0, v1, v2, v3, v4, v5, v6, v7, List.setIfInBounds_toArray, List.set_cons_succ, List.set_cons_zero]
  clear hv v0 v1 v2 v3 v4 v5 v6 v7
  have HBE : Hid (Below w.heap.size w w2) := bnext' hW hb2
  clear h1 h2 h3 h4
  go_wp2
  go_ret
  exact ⟨rfl, HBE.out⟩
end Go.Proofs.YtcdfckjlmifjiaaGreat
/-
  ore.size; estimate.Apply.
-/
namespace Go.Proofs.YtcdfckjlmifjiaaGreat
open Go.RowKit
set_option linter.unusedVariables false
set_option linter.unusedSimpArgs false

end Go.Proofs.YtcdfckjlmifjiaaGreat
/-
  gauge.Apply.
-/
namespace Go.Proofs.YtcdfckjlmifjiaaGreat
open Go.RowKit
set_option linter.unusedVariables false
set_option linter.unusedSimpArgs false
end Go.Proofs.YtcdfckjlmifjiaaGreat
/-
  ashlarref9.Divide.
-/
namespace Go.Proofs.YtcdfckjlmifjiaaGreat
open Go.RowKit
set_option linter.unusedVariables false
set_option linter.unusedSimpArgs false


end Go.Proofs.YtcdfckjlmifjiaaGreat
/-
  ashlarref9.Common.
-/
namespace Go.Proofs.YtcdfckjlmifjiaaGreat
open Go.RowKit
set_option linter.unusedVariables false
set_option linter.unusedSimpArgs false


end Go.Proofs.YtcdfckjlmifjiaaGreat
/-
  ashlarref9.Apply.
-/
namespace Go.Proofs.YtcdfckjlmifjiaaGreat
open Go.RowKit
set_option linter.unusedVariables false
set_option linter.unusedSimpArgs false

end Go.Proofs.YtcdfckjlmifjiaaGreat
/-
  Plain: the program's estimates are the reference's.
-/
namespace Go.Proofs.YtcdfckjlmifjiaaGreat
open Go.RowKit
set_option linter.unusedVariables false
set_option linter.unusedSimpArgs false

/-- The plain sum. -/
def sm1 : List Int → Int
  | [] => 0
  | x :: xs => x + sm1 xs
theorem sm1_pos : ∀ xs : List Int, (∀ x ∈ xs, 0 ≤ x) → 0 ≤ sm1 xs
  | [], _ => by decide
  | x :: xs, h => by
    have h1 := sm1_pos xs fun y hy => h y (by simp [hy])
    have h2 := h x (by simp)
    rw [sm1]
    omega
theorem fold_sm1 : ∀ (xs : List Int) (c : Int), 0 ≤ c → c ≤ 4611686018427387904 → (∀ x ∈ xs, 0 ≤ x) → xs.foldl smf c = min (c + sm1 xs) 4611686018427387904
  | [], c, h0, h1, _ => by
    rw [sm1]
    show c = _
    omega
  | x :: xs, c, h0, h1, h => by
    have hx := h x (by simp)
    have hp := sm1_pos xs fun y hy => h y (by simp [hy])
    rw [List.foldl_cons, fold_sm1 xs (smf c x) (by unfold smf; omega) (by unfold smf; omega) fun y hy => h y (by simp [hy]), sm1]
    unfold smf
    omega
theorem sms_sm1 (xs : List Int) (h : ∀ x ∈ xs, 0 ≤ x) : sms xs = min (sm1 xs) 4611686018427387904 := by
  rw [sms, fold_sm1 xs 0 (by decide) (by decide) h, Int.zero_add]
theorem pmf_one {a : Int} (h : InT a) : pmf 1 a = a := by
  unfold pmf
  rw [Int.one_mul]
  have := h.2
  omega
theorem pms_two {a b : Int} (h : InT a) : pms [a, b] = pmf a b := by
  show pmf (pmf 1 a) b = _
  rw [pmf_one h]
theorem pms_three {a b c : Int} (h : InT a) : pms [a, b, c] = pmf (pmf a b) c := by
  show pmf (pmf (pmf 1 a) b) c = _
  rw [pmf_one h]
theorem sms_small1 {a b : Int} (h0 : 0 ≤ a) (h1 : 0 ≤ b) (h2 : a + b ≤ 4611686018427387904) : sms [a, b] = a + b := by
  show smf (smf 0 a) b = _
  unfold smf
  omega
theorem sms_small2 {a b c : Int} (h0 : 0 ≤ a) (h1 : 0 ≤ b) (h3 : 0 ≤ c) (h2 : a + b + c ≤ 4611686018427387904) : sms [a, b, c] = a + b + c := by
  show smf (smf (smf 0 a) b) c = _
  unfold smf
  omega
theorem pmf_in {a b : Int} (ha : 0 ≤ a) (hb : 0 ≤ b) : 0 ≤ pmf a b ∧ pmf a b ≤ 4611686018427387904 := by
  have := Int.mul_nonneg ha hb
  unfold pmf
  omega
/-- Mul's estimate. -/
theorem emul_ref {r d k s e l m : Int} (hr : 0 ≤ r ∧ r ≤ 1000000) (hd : 0 ≤ d ∧ d ≤ 1000000) (hk : 0 ≤ k ∧ k ≤ 1000000000) (hs : 0 ≤ s ∧ s ≤ 1000000) (he : 0 ≤ e ∧ e ≤ 1000000) (hl : 0 ≤ l ∧ l ≤ 1000000000) (hm : 0 ≤ m) :
    tms [sms [r, 1], sms [s, 1], sms [d, e, 2], sms [k, l, sms [pms [sms [r, 1], sms [e, 1]], pms [r, sms [e, 1], m]], 8]] = tms [r + 1, s + 1, d + e + 2, sms [k, l, pmf (r + 1) (e + 1), pmf (pmf r (e + 1)) m, 8]] := by
  rw [sms_small1 (a := r) hr.1 (by decide) (by omega), sms_small1 (a := s) hs.1 (by decide) (by omega), sms_small1 (a := e) he.1 (by decide) (by omega), sms_small2 (a := d) hd.1 he.1 (by decide) (by omega), pms_two ⟨by omega, by omega⟩, pms_three ⟨by omega, by omega⟩]
  have p1 := pmf_in (a := r + 1) (b := e + 1) (by omega) (by omega)
  have p2 := pmf_in (a := r) (b := e + 1) (by omega) (by omega)
  have p3 := pmf_in (a := pmf r (e + 1)) (b := m) p2.1 hm
  generalize pmf (r + 1) (e + 1) = x at *
  generalize pmf (pmf r (e + 1)) m = y at *
  have e1 : sms [k, l, sms [x, y], 8] = sms [k, l, x, y, 8] := by
    show smf (smf (smf (smf 0 k) l) (smf (smf 0 x) y)) 8 = smf (smf (smf (smf (smf 0 k) l) x) y) 8
    unfold smf
    omega
  rw [e1]
/-- Apply's estimate. -/
theorem eapply_ref {r d k g l m : Int} (hr : 0 ≤ r ∧ r ≤ 1000000) (hd : 0 ≤ d ∧ d ≤ 1000000) (hg : -1 ≤ g ∧ g ≤ 1000000) (hm : 0 ≤ m ∧ m ≤ 1000000) :
    tms [sms [r, 1], sms [d, g + 3], sms [k, l, pms [sms [r, 1], g + 2, sms [m, 8]]]] = tms [r + 1, d + g + 3, sms [k, l, pmf (pmf (r + 1) (g + 2)) (m + 8)]] := by
  rw [sms_small1 (a := r) hr.1 (by decide) (by omega), sms_small1 (a := d) hd.1 (by omega) (by omega), sms_small1 (a := m) hm.1 (by decide) (by omega), pms_three ⟨by omega, by omega⟩, show d + (g + 3) = d + g + 3 by omega]
end Go.Proofs.YtcdfckjlmifjiaaGreat
/-
  Plain: the program's estimates of Divide, Common are the reference's.
-/
namespace Go.Proofs.YtcdfckjlmifjiaaGreat
open Go.RowKit
set_option linter.unusedVariables false
set_option linter.unusedSimpArgs false

theorem sms_pair {a b : Int} (h : InT a) : sms [a, b] = smf a b := by
  show smf (smf 0 a) b = _
  have h1 := h.1
  have h2 := h.2
  unfold smf
  omega
/-- Divide's estimate. -/
theorem edivide_ref {r d k s e l m : Int} (hr : 0 ≤ r ∧ r ≤ 1000000) (hd : 0 ≤ d ∧ d ≤ 1000000) (hs : 0 ≤ s ∧ s ≤ 1000000) (he : 0 ≤ e ∧ e ≤ 1000000) (hm : 0 ≤ m ∧ m ≤ 1000000) :
    tms [sms [r, 1], sms [s, 1], sms [r, s, 2], sms [d, e, 2], sms [k, l, pms [sms [r, 1], sms [m, 2]], 8]] = tms [r + 1, s + 1, r + s + 2, d + e + 2, sms [k, l, pmf (r + 1) (m + 2), 8]] := by
  rw [sms_small1 (a := r) hr.1 (by decide) (by omega), sms_small1 (a := s) hs.1 (by decide) (by omega), sms_small1 (a := m) hm.1 (by decide) (by omega), sms_small2 (a := d) hd.1 he.1 (by decide) (by omega), sms_small2 (a := r) hr.1 hs.1 (by decide) (by omega), pms_two ⟨by omega, by omega⟩]
/-- Common's estimate. -/
theorem ecommon_ref {r d k s e l m : Int} (hr : 0 ≤ r ∧ r ≤ 1000000) (hd : 0 ≤ d ∧ d ≤ 1000000) (hs : 0 ≤ s ∧ s ≤ 1000000) (he : 0 ≤ e ∧ e ≤ 1000000) (hm : 0 ≤ m ∧ m ≤ 1000000) :
    tms [sms [r, s, 2], sms [r, s, 2], sms [r, s, 2], sms [pms [sms [r, s, 2], sms [d, e]], 2], sms [k, l, pms [sms [r, s, 1], sms [m, 2]], 8]] = tms [r + s + 2, r + s + 2, r + s + 2, smf (pmf (r + s + 2) (d + e)) 2, sms [k, l, pmf (r + s + 1) (m + 2), 8]] := by
  rw [sms_small2 (a := r) hr.1 hs.1 (by decide) (by omega), sms_small2 (a := r) hr.1 hs.1 (by decide) (by omega), sms_small1 (a := d) hd.1 he.1 (by omega), sms_small1 (a := m) hm.1 (by decide) (by omega), pms_two (a := r + s + 2) ⟨by omega, by omega⟩, pms_two (a := r + s + 1) ⟨by omega, by omega⟩, sms_pair (pmf_in (by omega) (by omega))]
end Go.Proofs.YtcdfckjlmifjiaaGreat
/-
  Estimates of operators that are cut: the program's and the reference's.
-/
namespace Go.Proofs.YtcdfckjlmifjiaaGreat
open Go.RowKit
set_option linter.unusedVariables false
set_option linter.unusedSimpArgs false

theorem szO_oz (z : List (List Int)) : max ((olen z : Int) - 1) 0 = rszO (oz z) := by
  rw [rszO, length_oz]
  split <;> omega
theorem oz_nil {z : List (List Int)} (h : olen z = 0) : oz z = [] := by rw [oz, h]; rfl
theorem szD_oz (z : List (List Int)) : max (odeg z) 0 = rszD (oz z) := by
  rw [rszD, length_oz, ← odeg_oz]
  split
  · rename_i h
    rw [oz_nil h]
    rfl
  · rename_i h
    rw [odeg_oz]
    have h0 : 0 < olen z := by omega
    have hl : olen z ≤ z.length := olen_le z
    have h1 := odeg_take z (olen z - 1) (by omega)
    have h2 : tlen (gt z (olen z - 1)) ≠ 0 := by
      intro e
      have h3 := tlen_top (z.map fun z => (tlen z : Int)) h0
      rw [gx_tlens] at h3
      exact h3 (by show (tlen (gt z (olen z - 1)) : Int) = 0; rw [e]; rfl)
    have h5 : ∀ k, olen z - 1 + 1 + k ≤ z.length → 0 ≤ odeg (z.take (olen z - 1 + 1 + k)) := by
      intro k
      induction k with
      | zero => intro _; rw [Nat.add_zero, h1]; omega
      | succ k ih =>
        intro hk
        have := ih (by omega)
        rw [← Nat.add_assoc, odeg_take z _ (by omega)]
        omega
    have h6 := h5 (z.length - olen z) (by omega)
    rw [show olen z - 1 + 1 + (z.length - olen z) = z.length by omega, List.take_length] at h6
    omega
theorem szB_oz (z : List (List Int)) : (obit z : Int) = rszB (oz z) := by
  rw [rszB, length_oz, ← obit_oz]
  split
  · rename_i h
    rw [oz_nil h]
    rfl
  · rfl
theorem szb_op {D E K : Nat} {w : World} {B T : Nat} {z : List (List Int)} {h : Hdr} (H : HR D (EZ K E) w B T z h) (hD : D ≤ 1000000) (hE : E ≤ 1000000) (hK : K ≤ 1000) : SzB (oz z) := by
  unfold SzB
  rw [← szO_oz, ← szD_oz, ← szB_oz]
  have hlen := hr_len H
  obtain ⟨hs, k⟩ := H
  have h1 := olen_le z
  have h2 := k.tl
  have h3 := k.few
  have h4 := odeg_bd z hlen z.length (Nat.le_refl _)
  have h5 := obit_bd (E := 32 * K) z (fun j hj => by
    obtain ⟨fs, a, -⟩ := k.ev j (by omega)
    exact pb_few a) z.length (Nat.le_refl _)
  rw [List.take_length] at h4 h5
  omega
section
variable {D E K N lo lo' D' E' : Nat} {X Y : Nat → Prop} {w v : World} {z y : List (List Int)} {h g : Hdr} {zq : Int} {uq un : Ent}
theorem of_at (k : Lies (EOp D E K) lo X w z h) (hb : Below w.heap.size w v) (hD : D ≤ 1000000) (hE : E ≤ 1000000) (hK : K ≤ 1000) :
    Calls Tryz.prog 19 #[.slice h.p h.n h.c] v fun e w' => e = .returned (.agg #[.int .i64 (rszO (oz z)), .int .i64 (rszD (oz z)), .int .i64 (rszB (oz z))]) ∧ Below v.heap.size v w' := by
  obtain ⟨B, T, h1, h2, -, -⟩ := k.below (lOp _ _ _) hb
  have := gOf_any h1 h2 hD hE hK
  rwa [szO_oz, szD_oz, szB_oz] at this
theorem size_at {l : List (List Int)} (k : Lies (EOr D E N) lo X w l h) (hb : Below w.heap.size w v) (hD : D ≤ 1000000) (hE : E ≤ 1000000) (hN : N ≤ 1000) :
    Calls Tryz.prog 29 #[.slice h.p h.n h.c] v fun e w' => e = .returned (.tuple #[.int .i64 (rszO l), .int .i64 (rszD l), .int .i64 (rszB l)]) ∧ Below v.heap.size v w' := by
  obtain ⟨B, T, h1, h2, -, -⟩ := k.below (lOr _ _ _) hb
  exact rSize8_any h1 h2 hD hE hN
theorem szb_at (k : Lies (EOp D E K) lo X w z h) (hD : D ≤ 1000000) (hE : E ≤ 1000000) (hK : K ≤ 1000) : SzB (oz z) := by
  obtain ⟨B, T, h1, h2, -, -⟩ := k
  exact szb_op h1 hD hE hK
theorem bits_at (k : NumX K lo X w zq uq) (hb : Below w.heap.size w v) : Calls Tryz.prog 48 #[.agg #[.bool uq.s, .slice uq.p uq.n uq.c]] v fun e w' => e = .returned (.int .i64 (zb zq)) ∧ Below v.heap.size v w' := Bits_ev (k.1.below hb)
theorem inI_of {x : Int} {m : Int} (h : 0 ≤ x ∧ x ≤ m) (hm : m ≤ 9223372036854775807) : InI x := ⟨h.1, by omega⟩
/-- The estimate of a product. -/
def vMul (x y : List (List Int)) (q : Int) : Int := tms [rszO x + 1, rszO y + 1, rszD x + rszD y + 2, sms [rszB x, rszB y, pmf (rszO x + 1) (rszD y + 1), pmf (pmf (rszO x) (rszD y + 1)) (zb q : Int), 8]]
def vDivide (x y : List (List Int)) (q : Int) : Int := tms [rszO x + 1, rszO y + 1, rszO x + rszO y + 2, rszD x + rszD y + 2, sms [rszB x, rszB y, pmf (rszO x + 1) ((zb q : Int) + 2), 8]]
def vCommon (x y : List (List Int)) (q : Int) : Int := tms [rszO x + rszO y + 2, rszO x + rszO y + 2, rszO x + rszO y + 2, smf (pmf (rszO x + rszO y + 2) (rszD x + rszD y)) 2, sms [rszB x, rszB y, pmf (rszO x + rszO y + 1) ((zb q : Int) + 2), 8]]
def vApply (x : List (List Int)) (f : List Int) (q : Int) : Int := tms [rszO x + 1, rszD x + ((tlen f : Int) - 1) + 3, sms [rszB x, (pb f : Int), pmf (pmf (rszO x + 1) ((tlen f : Int) - 1 + 2)) ((zb q : Int) + 8)]]
theorem gmul_at (k : Lies (EOp D E K) lo X w z h) (k2 : Lies (EOp D E K) lo' Y w y g) (kq : ∃ lo X, NumX K lo X w zq uq) (hb : Below w.heap.size w v) (hD : D ≤ 1000000) (hE : E ≤ 1000000) (hK : K ≤ 1000) :
    Calls Tryz.prog 20 #[.slice h.p h.n h.c, .slice g.p g.n g.c, .agg #[.bool uq.s, .slice uq.p uq.n uq.c]] v fun e w' => e = .returned (.int .i64 (vMul (oz z) (oz y) zq)) ∧ Below v.heap.size v w' := by
  obtain ⟨_, _, kq⟩ := kq
  have b1 := szb_at k hD hE hK
  have b2 := szb_at k2 hD hE hK
  have b3 := zb_le kq.1
  refine gMul_lay (fun w' hb' => of_at k (bnext' hb hb') hD hE hK) (fun w' hb' => of_at k2 (bnext' hb hb') hD hE hK) (fun w' hb' => bits_at kq (bnext' hb hb')) (fun w' => ?_)
  have := eMul_any w' (rszO (oz z)) (rszD (oz z)) (rszB (oz z)) (rszO (oz y)) (rszD (oz y)) (rszB (oz y)) (zb zq : Int) (inI_of b1.1 (by decide)) (inI_of b1.2.1 (by decide)) (inI_of b1.2.2 (by decide)) (inI_of b2.1 (by decide)) (inI_of b2.2.1 (by decide)) (inI_of b2.2.2 (by decide)) ⟨by omega, by omega⟩
  rwa [emul_ref b1.1 b1.2.1 b1.2.2 b2.1 b2.2.1 b2.2.2 (by omega)] at this
end
end Go.Proofs.YtcdfckjlmifjiaaGreat
/-
  Estimates of sequences that are cut: the program's and the reference's.
-/
namespace Go.Proofs.YtcdfckjlmifjiaaGreat
open Go.RowKit
set_option linter.unusedVariables false
set_option linter.unusedSimpArgs false

def vTerm (x : List (List Int)) (wv N : Int) : Int := max (tms [smf N 1, rszO x + 1, sms [rszB x, pmf (rszD x + 1) ((zb N : Int) + 1), 8]]) (tms [smf N 1, wv + 1])
def vClose (x y : List (List Int)) (la lb : Int) (ba bb : Int) : Int := max (tms [pmf (rszO x + 1) (rszO y + 1), pmf (rszO x + 1) (rszO y + 1), pmf (rszO x + 1) (rszO y + 1), smf (pmf (pmf (rszO x + 1) (rszO y + 1)) (rszD x + rszD y)) 1, sms [rszB x, rszB y, 8]]) (tms [la + lb + 1, sms [ba, bb, 1]])
def vTurn (x : List (List Int)) : Int := tms [rszO x + rszD x + 2, rszO x + rszD x + 2, rszO x + rszD x + 2, rszD x + 2, rszB x + 8]
def vCauchy (x y : List (List Int)) (la lb : Int) (ba bb : Int) : Int := max (tms [pmf (rszD x + 1) (rszD y + 1), pmf (rszD x + 1) (rszD y + 1), pmf (rszD x + 1) (rszD y + 1), pmf (pmf (rszD x + 1) (rszD y + 1)) (rszO x + rszO y + rszD x + rszD y + 2), sms [rszB x, rszB y, 8]]) (tms [la + lb + 1, sms [ba, bb, 1]])
theorem sms_one {N : Int} (h : InI N) : sms [N, 1] = smf N 1 := by
  show smf (smf 0 N) 1 = _
  have h1 := h.1
  unfold smf
  omega
theorem sms_five {a b c d e : Int} (h0 : 0 ≤ a) (h1 : 0 ≤ b) (h2 : 0 ≤ c) (h3 : 0 ≤ d) (h4 : 0 ≤ e) (h : a + b + c + d + e ≤ 4611686018427387904) : sms [a, b, c, d, e] = a + b + c + d + e := by
  show smf (smf (smf (smf (smf 0 a) b) c) d) e = _
  unfold smf
  omega
section
variable {D E K lo lo' : Nat} {X Y : Nat → Prop} {w v : World} {z y : List (List Int)} {h g : Hdr} {p q : Option Addr} {n nc m mc : Nat} {rs qs : List Rq} {zs ys : List Rat}
theorem win_bd (k : WA (EQ 24) w p n nc rs zs) : wbt zs ≤ 1600 := by
  have := wbt_bd zs 1600 (fun i hi => qb_bd (k.ev i (by rw [← k.zl]; exact hi))) zs.length (Nat.le_refl _)
  rwa [List.take_length] at this
theorem win_each (k : WA (EQ 24) w p n nc rs zs) : ∀ j, j < n → qb (gq zs j) ≤ 1000000 := fun j hj => Nat.le_trans (qb_bd (k.ev j hj)) (by decide)
theorem gterm_at {N : Int} (k : Lies (EOp D E K) lo X w z h) (kw : WA (EQ 24) w p n nc rs zs) (hb : Below w.heap.size w v) (hD : D ≤ 1000000) (hE : E ≤ 1000000) (hK : K ≤ 1000) (hn : n ≤ 1000000) (hN : N ≤ 9223372036854775807) :
    Calls Tryz.prog 9 #[.slice h.p h.n h.c, .slice p n nc, .int .i64 N] v fun e w' => e = .returned (.int .i64 (vTerm (oz z) (wbt zs) (max N 0))) ∧ Below v.heap.size v w' := by
  have b1 := szb_at k hD hE hK
  have b2 := win_bd kw
  refine gTerm_lay (fun w' hb' => of_at k (bnext' hb hb') hD hE hK) (fun w' hb' => gWindow_any (kw.below (lasts_EQ 24) (bnext' hb hb')) hn) (fun w' => ?_)
  have iN : InI (max N 0) := ⟨by omega, by omega⟩
  have := eTerm_any w' (rszO (oz z)) (rszD (oz z)) (rszB (oz z)) (n : Int) (wbt zs : Int) N (inI_of b1.1 (by decide)) (inI_of b1.2.1 (by decide)) (inI_of b1.2.2 (by decide)) ⟨by omega, by omega⟩ ⟨by omega, by omega⟩ hN
  have h1 := b1.1
  have h2 := b1.2.1
  rwa [sms_one iN, len_zb iN, sms_small1 (a := rszO (oz z)) h1.1 (by decide) (by omega), sms_small1 (a := rszD (oz z)) h2.1 (by decide) (by omega), sms_small1 (a := (wbt zs : Int)) (by omega) (by decide) (by omega), pms_two ⟨by omega, by omega⟩] at this
theorem gclose_at (k : Lies (EOp D E K) lo X w z h) (k2 : Lies (EOp D E K) lo' Y w y g) (kw : WA (EQ 24) w p n nc rs zs) (kv : WA (EQ 24) w q m mc qs ys) (hb : Below w.heap.size w v) (hD : D ≤ 1000000) (hE : E ≤ 1000000) (hK : K ≤ 1000) (hn : n ≤ 1000000) (hm : m ≤ 1000000) :
    Calls Tryz.prog 11 #[.slice h.p h.n h.c, .slice g.p g.n g.c, .slice p n nc, .slice q m mc] v fun e w' => e = .returned (.int .i64 (vClose (oz z) (oz y) n m (wbt zs) (wbt ys))) ∧ Below v.heap.size v w' := by
  have b1 := szb_at k hD hE hK
  have b2 := szb_at k2 hD hE hK
  have b3 := win_bd kw
  have b4 := win_bd kv
  refine gClose_lay (fun w' hb' => of_at k (bnext' hb hb') hD hE hK) (fun w' hb' => of_at k2 (bnext' hb hb') hD hE hK) (fun w' hb' => gWindow_any (kw.below (lasts_EQ 24) (bnext' hb hb')) hn) (fun w' hb' => gWindow_any (kv.below (lasts_EQ 24) (bnext' hb hb')) hm) (fun w' => ?_)
  have := eClose_any w' (rszO (oz z)) (rszD (oz z)) (rszB (oz z)) (rszO (oz y)) (rszD (oz y)) (rszB (oz y)) (n : Int) (wbt zs : Int) (m : Int) (wbt ys : Int) (inI_of b1.1 (by decide)) (inI_of b1.2.1 (by decide)) (inI_of b1.2.2 (by decide)) (inI_of b2.1 (by decide)) (inI_of b2.2.1 (by decide)) (inI_of b2.2.2 (by decide)) ⟨by omega, by omega⟩ ⟨by omega, by omega⟩ ⟨by omega, by omega⟩ ⟨by omega, by omega⟩
  have h1 := b1.1
  have h2 := b1.2.1
  have h3 := b2.1
  have h4 := b2.2.1
  have i1 := pmf_in (a := rszO (oz z) + 1) (b := rszO (oz y) + 1) (by omega) (by omega)
  rwa [sms_small1 (a := rszO (oz z)) h1.1 (by decide) (by omega), sms_small1 (a := rszO (oz y)) h3.1 (by decide) (by omega), sms_small1 (a := rszD (oz z)) h2.1 h4.1 (by omega), pms_two (a := rszO (oz z) + 1) ⟨by omega, by omega⟩, pms_two (a := pmf (rszO (oz z) + 1) (rszO (oz y) + 1)) i1, sms_pair (pmf_in i1.1 (by omega)), sms_small2 (a := (n : Int)) (by omega) (by omega) (by decide) (by omega)] at this
theorem gcauchy_at (k : Lies (EOp D E K) lo X w z h) (k2 : Lies (EOp D E K) lo' Y w y g) (kw : WA (EQ 24) w p n nc rs zs) (kv : WA (EQ 24) w q m mc qs ys) (hb : Below w.heap.size w v) (hD : D ≤ 1000000) (hE : E ≤ 1000000) (hK : K ≤ 1000) (hn : n ≤ 1000000) (hm : m ≤ 1000000) :
    Calls Tryz.prog 15 #[.slice h.p h.n h.c, .slice g.p g.n g.c, .slice p n nc, .slice q m mc] v fun e w' => e = .returned (.int .i64 (vCauchy (oz z) (oz y) n m (wbt zs) (wbt ys))) ∧ Below v.heap.size v w' := by
  have b1 := szb_at k hD hE hK
  have b2 := szb_at k2 hD hE hK
  have b3 := win_bd kw
  have b4 := win_bd kv
  refine gCauchy_lay (fun w' hb' => of_at k (bnext' hb hb') hD hE hK) (fun w' hb' => of_at k2 (bnext' hb hb') hD hE hK) (fun w' hb' => gWindow_any (kw.below (lasts_EQ 24) (bnext' hb hb')) hn) (fun w' hb' => gWindow_any (kv.below (lasts_EQ 24) (bnext' hb hb')) hm) (fun w' => ?_)
  have := eCauchy_any w' (rszO (oz z)) (rszD (oz z)) (rszB (oz z)) (rszO (oz y)) (rszD (oz y)) (rszB (oz y)) (n : Int) (wbt zs : Int) (m : Int) (wbt ys : Int) (inI_of b1.1 (by decide)) (inI_of b1.2.1 (by decide)) (inI_of b1.2.2 (by decide)) (inI_of b2.1 (by decide)) (inI_of b2.2.1 (by decide)) (inI_of b2.2.2 (by decide)) ⟨by omega, by omega⟩ ⟨by omega, by omega⟩ ⟨by omega, by omega⟩ ⟨by omega, by omega⟩
  have h1 := b1.1
  have h2 := b1.2.1
  have h3 := b2.1
  have h4 := b2.2.1
  have i1 := pmf_in (a := rszD (oz z) + 1) (b := rszD (oz y) + 1) (by omega) (by omega)
  rwa [sms_small1 (a := rszD (oz z)) h2.1 (by decide) (by omega), sms_small1 (a := rszD (oz y)) h4.1 (by decide) (by omega), sms_five h1.1 h3.1 h2.1 h4.1 (by decide) (by omega), pms_two (a := rszD (oz z) + 1) ⟨by omega, by omega⟩, pms_two (a := pmf (rszD (oz z) + 1) (rszD (oz y) + 1)) i1, sms_small2 (a := (n : Int)) (by omega) (by omega) (by decide) (by omega)] at this
theorem gturn_at (k : Lies (EOp D E K) lo X w z h) (hb : Below w.heap.size w v) (hD : D ≤ 1000000) (hE : E ≤ 1000000) (hK : K ≤ 1000) :
    Calls Tryz.prog 13 #[.slice h.p h.n h.c, .slice p n nc] v fun e w' => e = .returned (.int .i64 (vTurn (oz z))) ∧ Below v.heap.size v w' := by
  have b1 := szb_at k hD hE hK
  refine gTurn_lay (fun w' hb' => of_at k (bnext' hb hb') hD hE hK) (fun w' => ?_)
  have := eTurn_any w' (rszO (oz z)) (rszD (oz z)) (rszB (oz z)) (inI_of b1.1 (by decide)) (inI_of b1.2.1 (by decide)) (inI_of b1.2.2 (by decide))
  have h1 := b1.1
  have h2 := b1.2.1
  have h3 := b1.2.2
  rwa [sms_small2 (a := rszO (oz z)) h1.1 h2.1 (by decide) (by omega), sms_small1 (a := rszD (oz z)) h2.1 (by decide) (by omega), sms_small1 (a := rszB (oz z)) h3.1 (by decide) (by omega)] at this
theorem rterm_at {N : Nat} {l : List (List Int)} {i : Int} (k : Lies (EOr D E N) lo X w l h) (kw : WA (EM 24) w p n nc rs zs) (b1 : SzB l) (hb : Below w.heap.size w v) (hD : D ≤ 1000000) (hE : E ≤ 1000000) (hN : N ≤ 1000) (hn : n ≤ 1000000) (hz : ∀ j, j < n → qb (gq zs j) ≤ 1000000) (hi : i ≤ 9223372036854775807) :
    Calls Tryz.prog 10 #[.slice h.p h.n h.c, .slice p n nc, .int .i64 i] v fun e w' => e = .returned (.int .i64 (vTerm l (wbt zs) (max i 0))) ∧ Below v.heap.size v w' := by
  obtain ⟨B, T, h1, h2, -, -⟩ := k.below (lOr _ _ _) hb
  rcases Int.lt_or_le i 0 with h0 | h0
  · have := rTerm9_neg h1 h2 (kw.below (lasts_EM 24) hb) hD hE hN (by decide) hn hz b1 h0
    rwa [show (0 : Int) = max i 0 by omega] at this
  · have := rTerm9_pos h1 h2 (kw.below (lasts_EM 24) hb) hD hE hN (by decide) hn hz b1 ⟨h0, hi⟩
    rw [show max i 0 = i by omega]
    exact this
theorem rclose_at {N : Nat} {l l2 : List (List Int)} (k : Lies (EOr D E N) lo X w l h) (k2 : Lies (EOr D E N) lo' Y w l2 g) (kw : WA (EM 24) w p n nc rs zs) (kv : WA (EM 24) w q m mc qs ys) (b1 : SzB l) (b2 : SzB l2) (hb : Below w.heap.size w v) (hD : D ≤ 1000000) (hE : E ≤ 1000000) (hN : N ≤ 1000) (hn : n ≤ 1000000) (hm : m ≤ 1000000) (hz : ∀ j, j < n → qb (gq zs j) ≤ 1000000) (hy : ∀ j, j < m → qb (gq ys j) ≤ 1000000) :
    Calls Tryz.prog 12 #[.slice h.p h.n h.c, .slice g.p g.n g.c, .slice p n nc, .slice q m mc] v fun e w' => e = .returned (.int .i64 (vClose l l2 n m (wbt zs) (wbt ys))) ∧ Below v.heap.size v w' := by
  obtain ⟨B, T, h1, h2, -, -⟩ := k.below (lOr _ _ _) hb
  obtain ⟨B2, T2, h3, h4, -, -⟩ := k2.below (lOr _ _ _) hb
  exact rClose9_any h1 h3 h2 h4 (kw.below (lasts_EM 24) hb) (kv.below (lasts_EM 24) hb) hD hE hN hN (by decide) hn hm hz hy b1 b2
theorem rcauchy_at {N : Nat} {l l2 : List (List Int)} (k : Lies (EOr D E N) lo X w l h) (k2 : Lies (EOr D E N) lo' Y w l2 g) (kw : WA (EM 24) w p n nc rs zs) (kv : WA (EM 24) w q m mc qs ys) (b1 : SzB l) (b2 : SzB l2) (hb : Below w.heap.size w v) (hD : D ≤ 1000000) (hE : E ≤ 1000000) (hN : N ≤ 1000) (hn : n ≤ 1000000) (hm : m ≤ 1000000) (hz : ∀ j, j < n → qb (gq zs j) ≤ 1000000) (hy : ∀ j, j < m → qb (gq ys j) ≤ 1000000) :
    Calls Tryz.prog 16 #[.slice h.p h.n h.c, .slice g.p g.n g.c, .slice p n nc, .slice q m mc] v fun e w' => e = .returned (.int .i64 (vCauchy l l2 n m (wbt zs) (wbt ys))) ∧ Below v.heap.size v w' := by
  obtain ⟨B, T, h1, h2, -, -⟩ := k.below (lOr _ _ _) hb
  obtain ⟨B2, T2, h3, h4, -, -⟩ := k2.below (lOr _ _ _) hb
  exact rCauchy9_any h1 h3 h2 h4 (kw.below (lasts_EM 24) hb) (kv.below (lasts_EM 24) hb) hD hE hN hN (by decide) hn hm hz hy b1 b2
theorem rturn_at {N : Nat} {l : List (List Int)} (k : Lies (EOr D E N) lo X w l h) (b1 : SzB l) (hb : Below w.heap.size w v) (hD : D ≤ 1000000) (hE : E ≤ 1000000) (hN : N ≤ 1000) :
    Calls Tryz.prog 14 #[.slice h.p h.n h.c] v fun e w' => e = .returned (.int .i64 (vTurn l)) ∧ Below v.heap.size v w' := by
  obtain ⟨B, T, h1, h2, -, -⟩ := k.below (lOr _ _ _) hb
  exact rTurn9_any h1 h2 hD hE hN b1
end
end Go.Proofs.YtcdfckjlmifjiaaGreat
