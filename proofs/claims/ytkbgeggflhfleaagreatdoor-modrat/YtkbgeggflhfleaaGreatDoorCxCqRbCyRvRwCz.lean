/-
  What the walks of the laws share: numbers and boxes carried on.
-/
import Derived.Test.YtkbgeggflhfleaaGreatDoorWlBxBbCvNjUbUcUdOwRaWmBe
import Derived.Test.YtkbgeggflhfleaaGreatDoorCuZjReRxRfRh
import Derived.Test.YtkbgeggflhfleaaGreatDoorUaWhPnWk
namespace Go.Proofs.YtkbgeggflhfleaaGreatDoor
open Go.RowKit
set_option linter.unusedVariables false
set_option linter.unusedSimpArgs false
set_option maxHeartbeats 8000000
structure Vr (w : World) (g : Nat) (s : Bool) (p : Option Addr) (n nc F : Nat) (xs : List Int) : Prop where
  b : Bx w g (.bool s) (.slice p n nc)
  a : AI w p n nc xs
  f : Go.Proofs.YtkbgeggflhfleaaGreatDoor.From F p
theorem RN.set {w : World} {s : Bool} {p : Option Addr} {n : Nat} {ds : List Int} (h : RN w s p n ds) {a : Addr} (hne : 0 < n → Off a.block p) (v : Value) : RN (w.setCell a v) s p n ds :=
  ⟨h.len, fun hx => (h.rd.set_other a v (hne (by rw [← h.len]; exact hx))) hx, h.u, h.nrm, h.sg, h.sml⟩
theorem RN.alloc {w : World} {s : Bool} {p : Option Addr} {n : Nat} {ds : List Int} (h : RN w s p n ds) (o : Obj) : RN (w.alloc o) s p n ds := ⟨h.len, h.rd.alloc o, h.u, h.nrm, h.sg, h.sml⟩
theorem RN.drew {w : World} {s : Bool} {p : Option Addr} {n : Nat} {ds : List Int} (h : RN w s p n ds) : RN w.drew s p n ds := ⟨h.len, h.rd.drew, h.u, h.nrm, h.sg, h.sml⟩
theorem RN_al {w : World} {s : Bool} {p : Option Addr} {n : Nat} {ds : List Int} {o : Obj} (h : RN w s p n ds) : RN (w.alloc o) s p n ds := h.alloc o
theorem RN_st2 {U : Nat} {w : World} {s : Bool} {p : Option Addr} {n : Nat} {ds : List Int} {a : Addr} {v : Value} (hU : 0 < n → ∀ x, p = some x → x.block < U) (ha : U ≤ a.block) (h : RN w s p n ds) : RN (w.setCell a v) s p n ds :=
  h.set (fun hn x hx e => by have := hU hn x hx; omega) v
theorem RN.lt {w : World} {s : Bool} {p : Option Addr} {n : Nat} {ds : List Int} (h : RN w s p n ds) : 0 < n → ∀ x, p = some x → x.block < w.heap.size := fun hn x hx => by
  obtain ⟨b, off, hp, hlt⟩ := h.rd.lt (by rw [h.len]; exact hn)
  rw [hp] at hx
  cases hx
  exact hlt
def FromPost (s : Bool) (xs : List Int) (w : World) (e : Ending) (w' : World) : Prop :=
  ∃ s' p' n', e = .returned (.agg #[.bool s', .slice p' n' n']) ∧ RN w' s' p' n' (tr (spl xs)) ∧ s' = nsg s (spl xs) ∧ Go.Proofs.YtkbgeggflhfleaaGreatDoor.From w.heap.size p' ∧ Below w.heap.size w w'
set_option maxRecDepth 100000 in
theorem From_any (s : Bool) (p : Option Addr) (n nc : Nat) (xs : List Int) (w : World) (hA : AI w p n nc xs) :
    Calls Tryz.prog 34 #[.agg #[.bool s, .slice p n nc]] w (FromPost s xs w) := by
  obtain ⟨i0, hi, hzz⟩ := Option.map_eq_some_iff.1 info_int
  simp only [Prod.mk.injEq] at hzz
  obtain ⟨hz0, hz1, hz2⟩ := hzz
  have HI : Hid (Tryz.prog.info? 3 = some i0 ∧ i0.zero = some (.int .i64 0) ∧ i0.size = 1 ∧ i0.bytes = 8) := ⟨hi, hz0, hz1, hz2⟩
  clear hi hz0 hz1 hz2
  have hl := hA.len
  have hs := hA.sml
  go_enter Tryz.func34, Tryz.ntmps34
  go_wp2
  have hb1 : Bx ((w.alloc (.cells #[.bool s, .slice p n nc] 30)).alloc (.cells #[.bool false, .slice none 0 0] 38)) w.heap.size (.bool s) (.slice p n nc) := (Bx.new _ _ _ rfl).alloc _
  have hb2 : Bx ((w.alloc (.cells #[.bool s, .slice p n nc] 30)).alloc (.cells #[.bool false, .slice none 0 0] 38)) (w.heap.size + 1) (.bool false) (.slice none 0 0) := Bx.new _ _ _ (World.size_alloc ..).symm
  have hbw : Below w.heap.size w ((w.alloc (.cells #[.bool s, .slice p n nc] 30)).alloc (.cells #[.bool false, .slice none 0 0] 38)) := ((Below.refl _ _).alloc (Nat.le_refl _) _).alloc (by simp) _
  have hsz : ((w.alloc (.cells #[.bool s, .slice p n nc] 30)).alloc (.cells #[.bool false, .slice none 0 0] 38)).heap.size = w.heap.size + 1 + 1 := by simp
  generalize ((w.alloc (.cells #[.bool s, .slice p n nc] 30)).alloc (.cells #[.bool false, .slice none 0 0] 38)) = W at *
  have HS : Hid (W.heap.size = w.heap.size + 1 + 1) := hsz
  clear hsz
  have hAW := hA.below hbw
  go_loopw [3, 4] (fun dv iv wr => ∃ (k : Nat), k ≤ n ∧ iv = .int .i64 k ∧ Hid (wr.ownsRow W.heap.size 3 1 dv (2 * k) ((spl (xs.take k)).map (Value.int .i64)) ∧ Below W.heap.size W wr)) (fun _ iv _ => n - (intOf iv).toNat)
  case atStart => exact ⟨0, Nat.zero_le _, rfl, World.ownsRow_nil _ _ _ _, Below.refl _ _⟩
  case round =>
    obtain ⟨k, hk, rfl, H⟩ := hrel
    have hBr := H.out.2
    have hb1r := hb1.later hBr
    have hb2r := hb2.later hBr
    have k0 := hb1r.c0
    have k1 := hb1r.c1
    by_cases hlt : k < n
    · obtain ⟨b, off, rfl, hcell⟩ := (hAW.rd.below hBr) (by omega)
      have hck := hcell k (by omega)
      obtain ⟨x0, x1⟩ := hA.u k
      have hltI : (k : Int) < (n : Int) := by omega
      have q1 : (gx xs k).tmod 65536 = gx xs k % 65536 := Int.tmod_eq_emod_of_nonneg x0
      have q2 : (gx xs k).tdiv 65536 = gx xs k / 65536 := Int.tdiv_eq_ediv_of_nonneg x0
      have q3 : IntKind.i64.wrap (gx xs k % 65536) = gx xs k % 65536 := by rw [IntKind.wrap_i64]; omega
      have q4 : IntKind.u32.wrap (gx xs k / 65536) = gx xs k / 65536 := by rw [IntKind.wrap_u32']; omega
      have q5 : IntKind.i64.wrap (gx xs k / 65536) = gx xs k / 65536 := by rw [IntKind.wrap_i64]; omega
      have hbl : b < wr.heap.size := block_lt_of_cell hck
      obtain ⟨b', off', hp', hcellW⟩ := hAW.rd (by omega)
      cases hp'
      have hckW := hcellW k (by omega)
      have hwl : w.heap.size < wr.heap.size := by have h1 := HS.out; have h2 := hBr.size; omega
      clear hcell hcellW
      obtain ⟨hi, hz0, hz1, hz2⟩ := HI.out
      have hown := H.out.1
      have HO : Hid (wr.ownsRow W.heap.size 3 1 u3 (2 * k) ((spl (xs.take k)).map (Value.int .i64))) := hown
      clear hown
      go_wp2
      go_region_held3 (fun w' => w'.cell? ⟨w.heap.size, 1, none⟩ = some (.slice (some ⟨b, off, none⟩) n nc) ∧ w'.cell? ⟨b, off + k, none⟩ = some (.int .u32 (gx xs k))) (first | exact ⟨by assumption, by assumption⟩ | (simp [go_sem, *]; done))
        (first
          | (refine step_append_lies _ rfl _ _ 36 rfl W.heap.size 3 i0 (.int .i64 0) 1 8 Tryz.underlying36 hi hz0 hz1 hz2 rfl (by decide) u3 (2 * k) ((spl (xs.take k)).map (Value.int .i64)) rfl (HO.out.alloc _) ⟨wr.heap.size, 0, none⟩ 2 2 [.int .i64 (gx xs k % 65536), .int .i64 (gx xs k / 65536)] rfl rfl ?_ (fun x hx => by simp at hx; rcases hx with rfl | rfl <;> rfl) (by decide) (by unfold maxLen; omega) (by omega) (by have := hBr.size; simp; omega) _ rfl ?_; exact fun j u hu => (World.cell?_drew ..).trans (cell_two_new wr _ _ _ j u hu); intro g cap w3 hown3 hgrow3 hat3 hlt3; have hB3 : Below W.heap.size W w3 := (bel_alw hBr.drew).grown hgrow3 (by have := hBr.size; simp; omega) (fun q hq => (HO.out.lt q hq).1); have e1 := cell_later hB3 hb1.c1; have e2 := cell_later hB3 hckW))
      go_wp2
      refine ⟨⟨k + 1, by omega, by go_num, ?_, hB3⟩, by simp [intOf]; omega⟩
      rw [spl_snoc xs k (by omega), List.map_append, show 2 * (k + 1) = 2 * k + 2 by omega]
      exact hown3
    · have hkn : k = n := by omega
      subst hkn
      have c0 := hb2r.c0
      have c1 := hb2r.c1
      obtain ⟨hown, _⟩ := H.out
      rw [List.take_of_length_le (by omega)] at hown
      have hform : ∃ q cap, u3 = .slice q (2 * k) cap ∧ 2 * k ≤ cap ∧ cap ≤ maxLen ∧ Rd wr q .i64 (spl xs) ∧ Go.Proofs.YtkbgeggflhfleaaGreatDoor.From W.heap.size q := by
        rcases hown.2 with ⟨h1, h2⟩ | ⟨g, cap, cur, h1, hbg, _, h4, h5, _⟩
        · refine ⟨none, 0, by rw [h1, h2], by omega, Nat.zero_le _, ?_, from_none⟩
          have : spl xs = [] := List.eq_nil_of_length_eq_zero (by rw [length_spl]; omega)
          rw [this]; exact Rd.nil
        · subst h1
          exact ⟨_, cap, rfl, h4, h5, rd_owns hown, from_new hbg⟩
      obtain ⟨q, cap, rfl, hq1, hq2, hq3, hq4⟩ := hform
      clear hown
      go_wp2_with fail
      refine (rtrim_any s q (2 * k) cap (spl xs) _ (by rw [length_spl]; omega) hq1 hq2 hq3).mono ?_
      rintro e w4 ⟨rfl, hb4⟩
      obtain ⟨z0, z1, z2, z3⟩ := resbox hb4 hb2r.c0 hb2r.c1 hb2r.f0 hb2r.f1
      go_wp2
      have htl := tlen_le (spl xs)
      rw [length_spl] at htl
      have hsW := HS.out
      refine bodyPost_ret (v := .agg #[.bool (nsg s (spl xs)), .slice q (tlen (spl xs)) (tlen (spl xs))]) (by simp [results, Tryz.results34, go_sem, z0, z1]) rfl ?_
      refine ⟨_, q, tlen (spl xs), rfl, ⟨length_tr _, ?_, u16_tr (u16_spl hA.u), tlen_tr _, fun h => by rw [nsg, if_pos h], by omega⟩, rfl, fun a ha => by have := hq4 a ha; omega, ?_⟩
      · exact ((hq3.tr.below hb4).set_other _ _ (fun a ha => by have := hq4 a ha; simp; omega)).set_other _ _ (fun a ha => by have := hq4 a ha; simp; omega)
      · exact (((hbw.trans (hBr.mono hbw.size)).trans (hb4.mono (by have := hBr.size; have := hbw.size; omega))).setCell (by simp) _).setCell (by simp) _
theorem From_ansF (s : Bool) (p : Option Addr) (n nc : Nat) (xs : List Int) (w : World) (hA : AI w p n nc xs) :
    Calls Tryz.prog 34 #[.agg #[.bool s, .slice p n nc]] w fun e w' => ∃ s' p' n' ds', e = .returned (.agg #[.bool s', .slice p' n' n']) ∧ RN w' s' p' n' ds' ∧ rval s' ds' = ival s xs ∧ n' ≤ 2 * n ∧ Go.Proofs.YtkbgeggflhfleaaGreatDoor.From w.heap.size p' ∧ Below w.heap.size w w' := by
  refine (From_any s p n nc xs w hA).mono ?_
  rintro e w' ⟨s', q, nq, rfl, hR, rfl, hF, hb⟩
  refine ⟨_, q, nq, _, rfl, hR, by rw [rval_nsg s (u16_spl hA.u), rval_spl], ?_, hF, hb⟩
  have h1 := hR.nrm
  rw [tlen_tr] at h1
  have h2 := tlen_le (spl xs)
  rw [length_spl] at h2
  have := hA.len
  omega
theorem rAbs_rn {w : World} {s : Bool} {p : Option Addr} {n : Nat} {xs : List Int} (h : RN w s p n xs) :
    Calls Tryz.prog 110 #[.agg #[.bool s, .slice p n n]] w fun e w' => e = .returned (.agg #[.bool false, .slice p n n]) ∧ RN w' false p n xs ∧ Below w.heap.size w w' := by
  have HL : Hid (0 < n → ∀ x, p = some x → x.block < w.heap.size) := h.lt
  go_enter Tryz.func110, Tryz.ntmps110
  go_wp2
  refine bodyPost_ret (v := .agg #[.bool false, .slice p n n]) (by simp [results, Tryz.results110, go_sem]) rfl ?_
  have hbw : Below w.heap.size w ((w.alloc (.cells #[.bool s, .slice p n n] 38)).alloc (.cells #[.bool false, .slice none 0 0] 38)) := ((Below.refl _ _).alloc (Nat.le_refl _) _).alloc (by simp) _
  have hR : RN ((w.alloc (.cells #[.bool s, .slice p n n] 38)).alloc (.cells #[.bool false, .slice p n n] 38)) false p n xs := by
    have h2 := (h.alloc (.cells #[.bool s, .slice p n n] 38)).alloc (.cells #[.bool false, .slice p n n] 38)
    exact ⟨h2.len, h2.rd, h2.u, h2.nrm, fun _ => rfl, h2.sml⟩
  have hbw2 : Below w.heap.size w ((w.alloc (.cells #[.bool s, .slice p n n] 38)).alloc (.cells #[.bool false, .slice p n n] 38)) := ((Below.refl _ _).alloc (Nat.le_refl _) _).alloc (by simp) _
  exact ⟨rfl, hR, hbw2⟩
theorem isgn_rval_zero {s : Bool} {xs : List Int} (hU : U16 xs) (h : tlen xs = 0) : isgn (rval s xs) = 0 := by
  have := (tlen_zero_iff16 hU).1 h
  cases s <;> simp [rval, isgn, this]
theorem isgn_rval {s : Bool} {xs : List Int} (hU : U16 xs) (h : tlen xs ≠ 0) : isgn (rval s xs) = if s then -1 else 1 := by
  have h1 : vd xs ≠ 0 := fun e => h ((tlen_zero_iff16 hU).2 e)
  have h2 := vd_nonneg hU
  cases s
  · simp only [rval, isgn, Bool.false_eq_true, if_false]; rw [if_neg h1, if_neg (by omega)]
  · simp only [rval, isgn, if_true]; rw [if_neg (by omega), if_pos (by omega)]
theorem rSign_any (s : Bool) (p : Option Addr) (n nc : Nat) (xs : List Int) (w : World) (hU : U16 xs) (tx : tlen xs = n) :
    Calls Tryz.prog 57 #[.agg #[.bool s, .slice p n nc]] w fun e w' => e = .returned (.int .i64 (isgn (rval s xs))) ∧ Below w.heap.size w w' := by
  by_cases h0 : tlen xs = 0
  · rw [isgn_rval_zero hU h0]
    obtain rfl : n = 0 := by omega
    clear h0 tx
    go_enter Tryz.func57, Tryz.ntmps57
    go_wp2
    go_ret
    exact ⟨rfl, (Below.refl _ _).alloc (Nat.le_refl _) _⟩
  · rw [isgn_rval hU h0]
    have h1 : ((n : Int) == 0) = false := beq_eq_false_iff_ne.2 (by omega)
    clear tx
    cases s
    all_goals
      go_enter Tryz.func57, Tryz.ntmps57
      go_wp2
      go_ret
      exact ⟨rfl, (Below.refl _ _).alloc (Nat.le_refl _) _⟩
theorem s4set {w : World} {b c g : Nat} {u v x y r s : Value} (h : w.cell? ⟨b, 0, none⟩ = some u ∧ w.cell? ⟨b, 1, none⟩ = some v ∧ w.cell? ⟨c, 0, none⟩ = some x ∧ w.cell? ⟨c, 1, none⟩ = some y) (h1 : b ≠ g) (h2 : c ≠ g) :
    ((w.setCell ⟨g, 0, none⟩ r).setCell ⟨g, 1, none⟩ s).cell? ⟨b, 0, none⟩ = some u ∧ ((w.setCell ⟨g, 0, none⟩ r).setCell ⟨g, 1, none⟩ s).cell? ⟨b, 1, none⟩ = some v ∧ ((w.setCell ⟨g, 0, none⟩ r).setCell ⟨g, 1, none⟩ s).cell? ⟨c, 0, none⟩ = some x ∧ ((w.setCell ⟨g, 0, none⟩ r).setCell ⟨g, 1, none⟩ s).cell? ⟨c, 1, none⟩ = some y := by
  obtain ⟨a1, a2, a3, a4⟩ := h
  refine ⟨?_, ?_, ?_, ?_⟩
  · rw [World.cell?_of_block (heap_setCell_other _ _ _ _ h1), World.cell?_of_block (heap_setCell_other _ _ _ _ h1)]; exact a1
  · rw [World.cell?_of_block (heap_setCell_other _ _ _ _ h1), World.cell?_of_block (heap_setCell_other _ _ _ _ h1)]; exact a2
  · rw [World.cell?_of_block (heap_setCell_other _ _ _ _ h2), World.cell?_of_block (heap_setCell_other _ _ _ _ h2)]; exact a3
  · rw [World.cell?_of_block (heap_setCell_other _ _ _ _ h2), World.cell?_of_block (heap_setCell_other _ _ _ _ h2)]; exact a4
end Go.Proofs.YtkbgeggflhfleaaGreatDoor
