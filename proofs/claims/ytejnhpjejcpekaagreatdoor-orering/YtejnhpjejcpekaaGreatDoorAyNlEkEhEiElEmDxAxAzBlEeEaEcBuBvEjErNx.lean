/-
  ore.size; estimate.Apply.
-/
import Derived.Test.YtejnhpjejcpekaaGreatDoorAw
import Derived.Test.YtejnhpjejcpekaaGreatDoorUlUmVsUoDmVtAfBpBnBoAh
import Derived.Deep.DeepFit
import Derived.Test.YtejnhpjejcpekaaGreatDoorKqNtNuNvNwNk
import Derived.Test.YtejnhpjejcpekaaGreatDoorUiVqDcUj
import Derived.Test.YtejnhpjejcpekaaGreatDoorOrAv
import Derived.Test.YtejnhpjejcpekaaGreatDoorAiRzVdRtDhVeRsVfVcAjDqDrBmBqDuAkBrAl
import Derived.Test.YtejnhpjejcpekaaGreatDoorVkJoNcDpAaEpGiGj
namespace Go.Proofs.YtejnhpjejcpekaaGreatDoor
open Go.RowKit
set_option linter.unusedVariables false
set_option linter.unusedSimpArgs false
set_option maxHeartbeats 8000000
set_option maxRecDepth 100000 in
theorem osize_any {w : World} {B T K E D : Nat} {zss : List (List Int)} {h : Hdr} (H : HR D (EZ K E) w B T zss h) (hT : T ≤ w.heap.size) (hD : D ≤ 1000000) (hE : E ≤ 1000000) (hK : K ≤ 1000) :
    Calls Tryz.prog 60 #[.slice h.p h.n h.c] w fun e w' => e = .returned (.agg #[.int .i64 (max ((olen zss : Int) - 1) 0), .int .i64 (max (odeg zss) 0), .int .i64 (obit zss)]) ∧ Below w.heap.size w w' := by
  have h1 := fun w' (hb : Below w.heap.size w w') => oOrder_any ((lasts_HR (lasts_EZ K E)).below H hT hb) (Nat.le_trans hT hb.size) hD hE
  have h2 := fun w' (hb : Below w.heap.size w w') => oDegree_any ((lasts_HR (lasts_EZ K E)).below H hT hb) (Nat.le_trans hT hb.size) hD hE
  have h3 := fun w' (hb : Below w.heap.size w w') => oBits_any ((lasts_HR (lasts_EZ K E)).below H hT hb) (Nat.le_trans hT hb.size) hD hE hK
  obtain ⟨p, n, nc⟩ := h
  simp only at h1 h2 h3 ⊢
  clear H hT
  generalize (olen zss : Int) - 1 = r at *
  generalize odeg zss = d at *
  generalize (obit zss : Int) = k at *
  obtain ⟨r', hr'⟩ : ∃ r', max r 0 = r' := ⟨_, rfl⟩
  obtain ⟨d', hd'⟩ : ∃ d', max d 0 = d' := ⟨_, rfl⟩
  have h4 := fun w => eSize_any w r d k
  rw [hr', hd'] at h4
  rw [hr', hd']
  clear hr' hd'
  have hW : Below w.heap.size w (w.alloc (.cells #[.int .i64 0, .int .i64 0, .int .i64 0] 107)) := (Below.refl _ _).alloc (Nat.le_refl _) _
  have hG : (w.alloc (.cells #[.int .i64 0, .int .i64 0, .int .i64 0] 107)).heap[w.heap.size]? = some (.cells #[.int .i64 0, .int .i64 0, .int .i64 0] 107 (0, 0)) := heap_alloc_new w _
  go_enter Tryz.func60, Tryz.ntmps60
  go_wp2_with fail
  generalize w.alloc (.cells #[.int .i64 0, .int .i64 0, .int .i64 0] 107) = W at *
  go_fit (h1 W hW)
  rintro e w1 ⟨rfl, hb1⟩
  have hB1 := bnext' hW hb1
  have h2' := h2 w1 hB1
  go_wp2_with fail
  go_fit h2'
  rintro e w2 ⟨rfl, hb2⟩
  have hB2 := bnext' hB1 hb2
  have h3' := h3 w2 hB2
  go_wp2_with fail
  go_fit h3'
  rintro e w3 ⟨rfl, hb3⟩
  have hB3 := bnext' hB2 hb3
  have hV3 := bnext' hb1 (bnext' hb2 hb3)
  clear h1 h2 h3 h2' h3' hb1 hb2 hb3 hB2 hB1
  go_wp2_with fail
  go_fit (h4 w3)
  rintro e w4 ⟨rfl, hb4⟩
  have hG4 : w4.heap[w.heap.size]? = some (.cells #[.int .i64 0, .int .i64 0, .int .i64 0] 107 (0, 0)) := ((bnext' hV3 hb4).block _ (Array.getElem?_eq_some_iff.1 hG).1).trans hG
  have HB : Hid (Below w.heap.size w w4) := bnext' hB3 hb4
  have z0 : w4.cell? ⟨w.heap.size, 0, none⟩ = some (.int .i64 0) := by simp only [World.cell?]; rw [hG4]; rfl
  have z1 : w4.cell? ⟨w.heap.size, 1, none⟩ = some (.int .i64 0) := by simp only [World.cell?]; rw [hG4]; rfl
  have z2 : w4.cell? ⟨w.heap.size, 2, none⟩ = some (.int .i64 0) := by simp only [World.cell?]; rw [hG4]; rfl
  have f0 := frozen_of_row w4 _ 0 _ _ hG4
  have f1 := frozen_of_row w4 _ 1 _ _ hG4
  have f2 := frozen_of_row w4 _ 2 _ _ hG4
  clear hB3 hb4 hV3 hG hG4 hW
  clear h4
  go_wp2_with fail
  refine bodyPost_ret (v := .agg #[.int .i64 r', .int .i64 d', .int .i64 k]) (by simp [results, Tryz.results60, go_sem, z0, z1, z2]) rfl ⟨rfl, ?_⟩
  exact ((HB.out.setCell (p := ⟨w.heap.size, 0, none⟩) (Nat.le_refl _) _).setCell (p := ⟨w.heap.size, 1, none⟩) (Nat.le_refl _) _).setCell (p := ⟨w.heap.size, 2, none⟩) (Nat.le_refl _) _
def rszO (l : List (List Int)) : Int := if l.length = 0 then 0 else (l.length : Int) - 1
def rszD (l : List (List Int)) : Int := if l.length = 0 then 0 else odeg l
def rszB (l : List (List Int)) : Int := if l.length = 0 then 0 else (obit l : Int)
def SzB (x : List (List Int)) : Prop := (0 ≤ rszO x ∧ rszO x ≤ 1000000) ∧ (0 ≤ rszD x ∧ rszD x ≤ 1000000) ∧ (0 ≤ rszB x ∧ rszB x ≤ 1000000000)
theorem pmf_one {a : Int} (h : InT a) : pmf 1 a = a := by
  unfold pmf
  rw [Int.one_mul]
  have := h.2
  omega
theorem pms_two {a b : Int} (h : InT a) : pms [a, b] = pmf a b := by
  show pmf (pmf 1 a) b = _
  rw [pmf_one h]
theorem pms_three {a b c : Int} (h : InT a) : pms [a, b, c] = pmf (pmf a b) c := by
  show pmf (pmf (pmf 1 a) b) c = _
  rw [pmf_one h]
theorem sms_small1 {a b : Int} (h0 : 0 ≤ a) (h1 : 0 ≤ b) (h2 : a + b ≤ 4611686018427387904) : sms [a, b] = a + b := by
  show smf (smf 0 a) b = _
  unfold smf
  omega
theorem sms_small2 {a b c : Int} (h0 : 0 ≤ a) (h1 : 0 ≤ b) (h3 : 0 ≤ c) (h2 : a + b + c ≤ 4611686018427387904) : sms [a, b, c] = a + b + c := by
  show smf (smf (smf 0 a) b) c = _
  unfold smf
  omega
theorem pmf_in {a b : Int} (ha : 0 ≤ a) (hb : 0 ≤ b) : 0 ≤ pmf a b ∧ pmf a b ≤ 4611686018427387904 := by
  have := Int.mul_nonneg ha hb
  unfold pmf
  omega
theorem emul_ref {r d k s e l m : Int} (hr : 0 ≤ r ∧ r ≤ 1000000) (hd : 0 ≤ d ∧ d ≤ 1000000) (hk : 0 ≤ k ∧ k ≤ 1000000000) (hs : 0 ≤ s ∧ s ≤ 1000000) (he : 0 ≤ e ∧ e ≤ 1000000) (hl : 0 ≤ l ∧ l ≤ 1000000000) (hm : 0 ≤ m) :
    tms [sms [r, 1], sms [s, 1], sms [d, e, 2], sms [k, l, sms [pms [sms [r, 1], sms [e, 1]], pms [r, sms [e, 1], m]], 8]] = tms [r + 1, s + 1, d + e + 2, sms [k, l, pmf (r + 1) (e + 1), pmf (pmf r (e + 1)) m, 8]] := by
  rw [sms_small1 (a := r) hr.1 (by decide) (by omega), sms_small1 (a := s) hs.1 (by decide) (by omega), sms_small1 (a := e) he.1 (by decide) (by omega), sms_small2 (a := d) hd.1 he.1 (by decide) (by omega), pms_two ⟨by omega, by omega⟩, pms_three ⟨by omega, by omega⟩]
  have p1 := pmf_in (a := r + 1) (b := e + 1) (by omega) (by omega)
  have p2 := pmf_in (a := r) (b := e + 1) (by omega) (by omega)
  have p3 := pmf_in (a := pmf r (e + 1)) (b := m) p2.1 hm
  generalize pmf (r + 1) (e + 1) = x at *
  generalize pmf (pmf r (e + 1)) m = y at *
  have e1 : sms [k, l, sms [x, y], 8] = sms [k, l, x, y, 8] := by
    show smf (smf (smf (smf 0 k) l) (smf (smf 0 x) y)) 8 = smf (smf (smf (smf (smf 0 k) l) x) y) 8
    unfold smf
    omega
  rw [e1]
theorem szO_oz (z : List (List Int)) : max ((olen z : Int) - 1) 0 = rszO (oz z) := by
  rw [rszO, length_oz]
  split <;> omega
theorem oz_nil {z : List (List Int)} (h : olen z = 0) : oz z = [] := by rw [oz, h]; rfl
theorem szD_oz (z : List (List Int)) : max (odeg z) 0 = rszD (oz z) := by
  rw [rszD, length_oz, ← odeg_oz]
  split
  · rename_i h
    rw [oz_nil h]
    rfl
  · rename_i h
    rw [odeg_oz]
    have h0 : 0 < olen z := by omega
    have hl : olen z ≤ z.length := olen_le z
    have h1 := odeg_take z (olen z - 1) (by omega)
    have h2 : tlen (gt z (olen z - 1)) ≠ 0 := by
      intro e
      have h3 := tlen_top (z.map fun z => (tlen z : Int)) h0
      rw [gx_tlens] at h3
      exact h3 (by show (tlen (gt z (olen z - 1)) : Int) = 0; rw [e]; rfl)
    have h5 : ∀ k, olen z - 1 + 1 + k ≤ z.length → 0 ≤ odeg (z.take (olen z - 1 + 1 + k)) := by
      intro k
      induction k with
      | zero => intro _; rw [Nat.add_zero, h1]; omega
      | succ k ih =>
        intro hk
        have := ih (by omega)
        rw [← Nat.add_assoc, odeg_take z _ (by omega)]
        omega
    have h6 := h5 (z.length - olen z) (by omega)
    rw [show olen z - 1 + 1 + (z.length - olen z) = z.length by omega, List.take_length] at h6
    omega
theorem szB_oz (z : List (List Int)) : (obit z : Int) = rszB (oz z) := by
  rw [rszB, length_oz, ← obit_oz]
  split
  · rename_i h
    rw [oz_nil h]
    rfl
  · rfl
theorem szb_op {D E K : Nat} {w : World} {B T : Nat} {z : List (List Int)} {h : Hdr} (H : HR D (EZ K E) w B T z h) (hD : D ≤ 1000000) (hE : E ≤ 1000000) (hK : K ≤ 1000) : SzB (oz z) := by
  unfold SzB
  rw [← szO_oz, ← szD_oz, ← szB_oz]
  have hlen := hr_len H
  obtain ⟨hs, k⟩ := H
  have h1 := olen_le z
  have h2 := k.tl
  have h3 := k.few
  have h4 := odeg_bd z hlen z.length (Nat.le_refl _)
  have h5 := obit_bd (E := 32 * K) z (fun j hj => by
    obtain ⟨fs, a, -⟩ := k.ev j (by omega)
    exact pb_few a) z.length (Nat.le_refl _)
  rw [List.take_length] at h4 h5
  omega
section
variable {D E K N lo lo' D' E' : Nat} {X Y : Nat → Prop} {w v : World} {z y : List (List Int)} {h g : Hdr} {zq : Int} {uq un : Ent}
theorem inI_of {x : Int} {m : Int} (h : 0 ≤ x ∧ x ≤ m) (hm : m ≤ 9223372036854775807) : InI x := ⟨h.1, by omega⟩
def vMul (x y : List (List Int)) (q : Int) : Int := tms [rszO x + 1, rszO y + 1, rszD x + rszD y + 2, sms [rszB x, rszB y, pmf (rszO x + 1) (rszD y + 1), pmf (pmf (rszO x) (rszD y + 1)) (zb q : Int), 8]]
end
end Go.Proofs.YtejnhpjejcpekaaGreatDoor
