/-
  ashlarref1.From.
-/
import Derived.Test.YtongkalfdgleaaaDoorRa
import Derived.Test.YtongkalfdgleaaaDoorRe
import Derived.Test.YtongkalfdgleaaaDoorCx
namespace Go.Proofs.YtongkalfdgleaaaDoor
open Go.RowKit
set_option linter.unusedVariables false
set_option linter.unusedSimpArgs false

theorem info_int : (Tryd.prog.info? 3).map (fun i => (i.zero, i.size, i.bytes)) = some (some (.int .i64 0), 1, 8) := by kernel_rfl
theorem spl_snoc (xs : List Int) (k : Nat) (h : k < xs.length) : spl (xs.take (k + 1)) = spl (xs.take k) ++ [gx xs k % 65536, gx xs k / 65536] := by
  rw [take_snoc xs k h, spl_append]; rfl

theorem bel_alw {W x : World} {o : Obj} (h : Below W.heap.size W x) : Below W.heap.size W (x.alloc o) := h.alloc h.size o

/-- What From answers. -/
def FromPost (s : Bool) (xs : List Int) (w : World) (e : Ending) (w' : World) : Prop :=
  ∃ s' p' n', e = .returned (.agg #[.bool s', .slice p' n' n']) ∧ RN w' s' p' n' (tr (spl xs)) ∧ s' = nsg s (spl xs) ∧ Go.Proofs.YtongkalfdgleaaaDoor.From w.heap.size p' ∧ Below w.heap.size w w'

set_option maxRecDepth 100000 in
set_option maxHeartbeats 2000000 in
/-- ashlarref1.From. -/
theorem From_any (s : Bool) (p : Option Addr) (n nc : Nat) (xs : List Int) (w : World) (hA : AI w p n nc xs) :
    Calls Tryd.prog 12 #[.agg #[.bool s, .slice p n nc]] w (FromPost s xs w) := by
  obtain ⟨i0, hi, hzz⟩ := Option.map_eq_some_iff.1 info_int
  simp only [Prod.mk.injEq] at hzz
  obtain ⟨hz0, hz1, hz2⟩ := hzz
  have HI : Hid (Tryd.prog.info? 3 = some i0 ∧ i0.zero = some (.int .i64 0) ∧ i0.size = 1 ∧ i0.bytes = 8) := ⟨hi, hz0, hz1, hz2⟩
  clear hi hz0 hz1 hz2
  have hl := hA.len
  have hs := hA.sml
  go_enter Tryd.func12, Tryd.ntmps12
  go_wp2
  have hb1 : Bx ((w.alloc (.cells #[.bool s, .slice p n nc] 24)).alloc (.cells #[.bool false, .slice none 0 0] 38)) w.heap.size (.bool s) (.slice p n nc) := (Bx.new _ _ _ rfl).alloc _
  have hb2 : Bx ((w.alloc (.cells #[.bool s, .slice p n nc] 24)).alloc (.cells #[.bool false, .slice none 0 0] 38)) (w.heap.size + 1) (.bool false) (.slice none 0 0) := Bx.new _ _ _ (World.size_alloc ..).symm
  have hbw : Below w.heap.size w ((w.alloc (.cells #[.bool s, .slice p n nc] 24)).alloc (.cells #[.bool false, .slice none 0 0] 38)) := ((Below.refl _ _).alloc (Nat.le_refl _) _).alloc (by simp) _
  have hsz : ((w.alloc (.cells #[.bool s, .slice p n nc] 24)).alloc (.cells #[.bool false, .slice none 0 0] 38)).heap.size = w.heap.size + 1 + 1 := by simp
  generalize ((w.alloc (.cells #[.bool s, .slice p n nc] 24)).alloc (.cells #[.bool false, .slice none 0 0] 38)) = W at *
  have HS : Hid (W.heap.size = w.heap.size + 1 + 1) := hsz
  clear hsz
  have hAW := hA.below hbw
  go_loopw [3, 4] (fun dv iv wr => ∃ (k : Nat), k ≤ n ∧ iv = .int .i64 k ∧ Hid (wr.ownsRow W.heap.size 3 1 dv (2 * k) ((spl (xs.take k)).map (Value.int .i64)) ∧ Below W.heap.size W wr)) (fun _ iv _ => n - (intOf iv).toNat)
  case atStart => exact ⟨0, Nat.zero_le _, rfl, World.ownsRow_nil _ _ _ _, Below.refl _ _⟩
  case round =>
    obtain ⟨k, hk, rfl, H⟩ := hrel
    have hBr := H.out.2
    have hb1r := hb1.later hBr
    have hb2r := hb2.later hBr
    have k0 := hb1r.c0
    have k1 := hb1r.c1
    by_cases hlt : k < n
    · obtain ⟨b, off, rfl, hcell⟩ := (hAW.rd.below hBr) (by omega)
      have hck := hcell k (by omega)
      obtain ⟨x0, x1⟩ := hA.u k
      have hltI : (k : Int) < (n : Int) := by omega
      have q1 : (gx xs k).tmod 65536 = gx xs k % 65536 := Int.tmod_eq_emod_of_nonneg x0
      have q2 : (gx xs k).tdiv 65536 = gx xs k / 65536 := Int.tdiv_eq_ediv_of_nonneg x0
      have q3 : IntKind.i64.wrap (gx xs k % 65536) = gx xs k % 65536 := by rw [IntKind.wrap_i64]; omega
      have q4 : IntKind.u32.wrap (gx xs k / 65536) = gx xs k / 65536 := by rw [IntKind.wrap_u32']; omega
      have q5 : IntKind.i64.wrap (gx xs k / 65536) = gx xs k / 65536 := by rw [IntKind.wrap_i64]; omega
      have hbl : b < wr.heap.size := block_lt_of_cell hck
      obtain ⟨b', off', hp', hcellW⟩ := hAW.rd (by omega)
      cases hp'
      have hckW := hcellW k (by omega)
      have hwl : w.heap.size < wr.heap.size := by have h1 := HS.out; have h2 := hBr.size; omega
      clear hcell hcellW
      obtain ⟨hi, hz0, hz1, hz2⟩ := HI.out
      have hown := H.out.1
      have HO : Hid (wr.ownsRow W.heap.size 3 1 u3 (2 * k) ((spl (xs.take k)).map (Value.int .i64))) := hown
      clear hown
      go_wp2
      go_region_held3 (fun w' => w'.cell? ⟨w.heap.size, 1, none⟩ = some (.slice (some ⟨b, off, none⟩) n nc) ∧ w'.cell? ⟨b, off + k, none⟩ = some (.int .u32 (gx xs k))) (first | exact ⟨by assumption, by assumption⟩ | (simp [go_sem, *]; done))
        (first
          | (refine step_append_lies _ rfl _ _ 36 rfl W.heap.size 3 i0 (.int .i64 0) 1 8 Tryd.underlying36 hi hz0 hz1 hz2 rfl (by decide) u3 (2 * k) ((spl (xs.take k)).map (Value.int .i64)) rfl (HO.out.alloc _) ⟨wr.heap.size, 0, none⟩ 2 2 [.int .i64 (gx xs k % 65536), .int .i64 (gx xs k / 65536)] rfl rfl ?_ (fun x hx => by simp at hx; rcases hx with rfl | rfl <;> rfl) (by decide) (by unfold maxLen; omega) (by omega) (by have := hBr.size; simp; omega) _ rfl ?_; exact fun j u hu => (World.cell?_drew ..).trans (cell_two_new wr _ _ _ j u hu); intro g cap w3 hown3 hgrow3 hat3 hlt3; have hB3 : Below W.heap.size W w3 := (bel_alw hBr.drew).grown hgrow3 (by have := hBr.size; simp; omega) (fun q hq => (HO.out.lt q hq).1); have e1 := cell_later hB3 hb1.c1; have e2 := cell_later hB3 hckW))
      go_wp2
      refine ⟨⟨k + 1, by omega, by go_num, ?_, hB3⟩, by simp [intOf]; omega⟩
      rw [spl_snoc xs k (by omega), List.map_append, show 2 * (k + 1) = 2 * k + 2 by omega]
      exact hown3
    · have hkn : k = n := by omega
      subst hkn
      have c0 := hb2r.c0
      have c1 := hb2r.c1
      obtain ⟨hown, _⟩ := H.out
      rw [List.take_of_length_le (by omega)] at hown
      have hform : ∃ q cap, u3 = .slice q (2 * k) cap ∧ 2 * k ≤ cap ∧ cap ≤ maxLen ∧ Rd wr q .i64 (spl xs) ∧ Go.Proofs.YtongkalfdgleaaaDoor.From W.heap.size q := by
        rcases hown.2 with ⟨h1, h2⟩ | ⟨g, cap, cur, h1, hbg, _, h4, h5, _⟩
        · refine ⟨none, 0, by rw [h1, h2], by omega, Nat.zero_le _, ?_, from_none⟩
          have : spl xs = [] := List.eq_nil_of_length_eq_zero (by rw [length_spl]; omega)
          rw [this]; exact Rd.nil
        · subst h1
          exact ⟨_, cap, rfl, h4, h5, rd_owns hown, from_new hbg⟩
      obtain ⟨q, cap, rfl, hq1, hq2, hq3, hq4⟩ := hform
      clear hown
      go_wp2_with fail
      refine (rtrim_any s q (2 * k) cap (spl xs) _ (by rw [length_spl]; omega) hq1 hq2 hq3).mono ?_
      rintro e w4 ⟨rfl, hb4⟩
      obtain ⟨z0, z1, z2, z3⟩ := resbox hb4 hb2r.c0 hb2r.c1 hb2r.f0 hb2r.f1
      go_wp2
      have htl := tlen_le (spl xs)
      rw [length_spl] at htl
      have hsW := HS.out
      refine bodyPost_ret (v := .agg #[.bool (nsg s (spl xs)), .slice q (tlen (spl xs)) (tlen (spl xs))]) (by simp [results, Tryd.results12, go_sem, z0, z1]) rfl ?_
      refine ⟨_, q, tlen (spl xs), rfl, ⟨length_tr _, ?_, u16_tr (u16_spl hA.u), tlen_tr _, fun h => by rw [nsg, if_pos h], by omega⟩, rfl, fun a ha => by have := hq4 a ha; omega, ?_⟩
      · exact ((hq3.tr.below hb4).set_other _ _ (fun a ha => by have := hq4 a ha; simp; omega)).set_other _ _ (fun a ha => by have := hq4 a ha; simp; omega)
      · exact (((hbw.trans (hBr.mono hbw.size)).trans (hb4.mono (by have := hBr.size; have := hbw.size; omega))).setCell (by simp) _).setCell (by simp) _
end Go.Proofs.YtongkalfdgleaaaDoor
/-
  ashlarref1.To.
-/
namespace Go.Proofs.YtongkalfdgleaaaDoor
open Go.RowKit
set_option linter.unusedVariables false
set_option linter.unusedSimpArgs false

set_option maxRecDepth 100000 in
set_option maxHeartbeats 2000000 in
/-- ashlarref1.To. -/
theorem rTo_anyF (s : Bool) (p : Option Addr) (n nc : Nat) (ds : List Int) (w : World) (hl : ds.length = n) (hs : n ≤ 1000) (hX : Rd w p .i64 ds) (hU : U16 ds) :
    Calls Tryd.prog 14 #[.agg #[.bool s, .slice p n nc]] w fun e w' => ∃ p' m cap, e = .returned (.agg #[.bool s, .slice p' m cap]) ∧ AI w' p' m cap (jn ds m) ∧ Hid (m = (n + 1) / 2) ∧ Go.Proofs.YtongkalfdgleaaaDoor.From w.heap.size p' ∧ Below w.heap.size w w' := by
  obtain ⟨i0, hi, hzz⟩ := Option.map_eq_some_iff.1 info_u32
  simp only [Prod.mk.injEq] at hzz
  obtain ⟨hz0, hz1, hz2⟩ := hzz
  have HI : Hid (Tryd.prog.info? 55 = some i0 ∧ i0.zero = some (.int .u32 0) ∧ i0.size = 1 ∧ i0.bytes = 4) := ⟨hi, hz0, hz1, hz2⟩
  clear hi hz0 hz1 hz2
  go_enter Tryd.func14, Tryd.ntmps14
  go_wp2
  have hb1 : Bx ((w.alloc (.cells #[.bool s, .slice p n nc] 38)).alloc (.cells #[.bool false, .slice none 0 0] 24)) w.heap.size (.bool s) (.slice p n nc) := (Bx.new _ _ _ rfl).alloc _
  have hb2 : Bx ((w.alloc (.cells #[.bool s, .slice p n nc] 38)).alloc (.cells #[.bool false, .slice none 0 0] 24)) (w.heap.size + 1) (.bool false) (.slice none 0 0) := Bx.new _ _ _ (World.size_alloc ..).symm
  have hbw : Below w.heap.size w ((w.alloc (.cells #[.bool s, .slice p n nc] 38)).alloc (.cells #[.bool false, .slice none 0 0] 24)) := ((Below.refl _ _).alloc (Nat.le_refl _) _).alloc (by simp) _
  have hsz : ((w.alloc (.cells #[.bool s, .slice p n nc] 38)).alloc (.cells #[.bool false, .slice none 0 0] 24)).heap.size = w.heap.size + 1 + 1 := by simp
  generalize ((w.alloc (.cells #[.bool s, .slice p n nc] 38)).alloc (.cells #[.bool false, .slice none 0 0] 24)) = W at *
  have HS : Hid (W.heap.size = w.heap.size + 1 + 1) := hsz
  clear hsz
  have hXW := hX.below hbw
  go_loopw [3, 4, 5] (fun lv iv nv wr => ∃ (k : Nat), 2 * k ≤ n + 1 ∧ iv = .int .i64 ((2 * k : Nat) : Int) ∧ Hid (wr.ownsRow W.heap.size 55 1 lv k ((jn ds k).map (Value.int .u32)) ∧ Below W.heap.size W wr)) (fun _ iv _ _ => n + 2 - (intOf iv).toNat)
  case atStart => exact ⟨0, by omega, rfl, World.ownsRow_nil _ _ _ _, Below.refl _ _⟩
  case round =>
    obtain ⟨k, hk, rfl, H⟩ := hrel
    have hBr := H.out.2
    have hb1r := hb1.later hBr
    have hb2r := hb2.later hBr
    have k0 := hb1r.c0
    have k1 := hb1r.c1
    by_cases hlt : 2 * k < n
    · obtain ⟨b, off, rfl, hcell⟩ := (hXW.below hBr) (by omega)
      have hck := hcell (2 * k) (by omega)
      have hltI : 2 * (k : Int) < (n : Int) := by omega
      obtain ⟨x0, x1⟩ := hU (2 * k)
      obtain ⟨y0, y1⟩ := hU (2 * k + 1)
      obtain ⟨hi, hz0, hz1, hz2⟩ := HI.out
      have HO : Hid (wr.ownsRow W.heap.size 55 1 u3 k ((jn ds k).map (Value.int .u32))) := H.out.1
      by_cases hlt2 : 2 * k + 1 < n
      · have hck2 := hcell (2 * k + 1) (by omega)
        have hlt2I : 2 * (k : Int) + 1 < (n : Int) := by omega
        clear hcell
        go_wp2_with (refine wpList_append_lies _ rfl _ _ 22 rfl W.heap.size 55 i0 (.int .u32 0) 1 4 Tryd.underlying22 hi hz0 hz1 hz2 rfl (by decide) u3 k ((jn ds k).map (Value.int .u32)) rfl (HO.out.alloc _) ⟨wr.heap.size, 0, none⟩ 1 1 [.int .u32 (gx ds (2 * k) + gx ds (2 * k + 1) * 65536)] rfl rfl ?_ (fun x hx => by simp at hx; subst hx; rfl) (by decide) (by unfold maxLen; omega) (by omega) (by have := hBr.size; simp; omega) _ rfl ?_; exact World.news_of_block (heap_alloc_new wr _); intro g cap w3 hown3 hgrow3 hat3 hlt3; have hB3 : Below W.heap.size W w3 := (bel_alw hBr).grown hgrow3 (by have := hBr.size; simp; omega) (fun q hq => (HO.out.lt q hq).1))
        refine ⟨⟨k + 1, by omega, by go_num, ?_, hB3⟩, by simp [intOf]; omega⟩
        rw [jn_succ, List.map_append, Int.mul_comm 65536]
        exact hown3
      · have hlt2I : ¬ 2 * (k : Int) + 1 < (n : Int) := by omega
        clear hcell
        go_wp2_with (refine wpList_append_lies _ rfl _ _ 22 rfl W.heap.size 55 i0 (.int .u32 0) 1 4 Tryd.underlying22 hi hz0 hz1 hz2 rfl (by decide) u3 k ((jn ds k).map (Value.int .u32)) rfl (HO.out.alloc _) ⟨wr.heap.size, 0, none⟩ 1 1 [.int .u32 (gx ds (2 * k))] rfl rfl ?_ (fun x hx => by simp at hx; subst hx; rfl) (by decide) (by unfold maxLen; omega) (by omega) (by have := hBr.size; simp; omega) _ rfl ?_; exact World.news_of_block (heap_alloc_new wr _); intro g cap w3 hown3 hgrow3 hat3 hlt3; have hB3 : Below W.heap.size W w3 := (bel_alw hBr).grown hgrow3 (by have := hBr.size; simp; omega) (fun q hq => (HO.out.lt q hq).1))
        have hg0 : gx ds (2 * k + 1) = 0 := gx_past ds n (by omega) _ (by omega)
        refine ⟨⟨k + 1, by omega, by go_num, ?_, hB3⟩, by simp [intOf]; omega⟩
        rw [jn_succ, List.map_append, hg0, Int.mul_zero, Int.add_zero]
        exact hown3
    · have hltI : ¬ 2 * (k : Int) < (n : Int) := by omega
      have c0 := hb2r.c0
      have c1 := hb2r.c1
      have f0 := hb2r.f0
      have f1 := hb2r.f1
      have hform : ∃ q cap, u3 = .slice q k cap ∧ k ≤ cap ∧ cap ≤ maxLen ∧ Rd wr q .u32 (jn ds k) ∧ Go.Proofs.YtongkalfdgleaaaDoor.From W.heap.size q := by
        have hown := H.out.1
        rcases hown.2 with ⟨h1, h2⟩ | ⟨g, cap, cur, h1, hbg, _, h4, h5, _⟩
        · refine ⟨none, 0, by rw [h1, h2], by omega, Nat.zero_le _, ?_, from_none⟩
          have : jn ds k = [] := List.eq_nil_of_length_eq_zero (by rw [length_jn]; omega)
          rw [this]; exact Rd.nil
        · subst h1
          exact ⟨_, cap, rfl, h4, h5, rd_owns hown, from_new hbg⟩
      obtain ⟨q, cap, rfl, hq1, hq2, hq3, hq4⟩ := hform
      go_wp2
      have hsW := HS.out
      refine bodyPost_ret (v := .agg #[.bool s, .slice q k cap]) (by simp [results, Tryd.results14, go_sem, c0, c1]) rfl ?_
      refine ⟨q, k, cap, rfl, ⟨length_jn _ _, hq1, hq2, by omega, ?_, u32_jn hU k⟩, show k = (n + 1) / 2 by omega, fun a ha => by have := hq4 a ha; omega, ?_⟩
      · exact (hq3.set_other _ _ (fun a ha => by have := hq4 a ha; simp; omega)).set_other _ _ (fun a ha => by have := hq4 a ha; simp; omega)
      · exact ((hbw.trans (hBr.mono hbw.size)).setCell (by simp) _).setCell (by simp) _

theorem rTo_any (s : Bool) (p : Option Addr) (n nc : Nat) (ds : List Int) (w : World) (hl : ds.length = n) (hs : n ≤ 1000) (hX : Rd w p .i64 ds) (hU : U16 ds) :
    Calls Tryd.prog 14 #[.agg #[.bool s, .slice p n nc]] w fun e w' => ∃ p' m cap, e = .returned (.agg #[.bool s, .slice p' m cap]) ∧ AI w' p' m cap (jn ds m) ∧ Hid (m = (n + 1) / 2) ∧ Below w.heap.size w w' := by
  refine (rTo_anyF s p n nc ds w hl hs hX hU).mono ?_
  rintro e w' ⟨p', m, cap, h1, h2, h3, -, h5⟩
  exact ⟨p', m, cap, h1, h2, h3, h5⟩
/-- ashlarref1.Eq of an answer and of a number in normal form, both of the same number. -/
theorem rEq_nn {B1 : Nat} {w : World} {s t : Bool} {p q : Option Addr} {n m mc : Nat} {xs ys : List Int} {z : Int} (h : NI B1 w s p n xs z) (hA : AI w q m mc ys) (k : NN t ys z) (hn : n ≤ 1000) :
    Calls Tryd.prog 17 #[.agg #[.bool s, .slice p n n], .agg #[.bool t, .slice q m mc]] w fun e w' => e = .returned (.bool true) ∧ Below w.heap.size w w' := by
  obtain ⟨rfl, rfl⟩ := nn_same h.nn k
  obtain rfl : n = m := h.len.symm.trans hA.len
  exact rEq_same s p q n n mc xs w (h.ai (by omega)) hA

end Go.Proofs.YtongkalfdgleaaaDoor
/-
  What functions of the reference answer.
-/
namespace Go.Proofs.YtongkalfdgleaaaDoor
open Go.RowKit
set_option linter.unusedVariables false
set_option linter.unusedSimpArgs false

theorem rval_nsg (neg : Bool) {D : List Int} (h : U16 D) : rval (nsg neg D) (tr D) = rval neg D := by
  rw [rval, rval, vd_tr, nsg]
  split
  · rename_i ht
    have h0 := (tlen_zero_iff16 h).1 ht
    simp [h0]
  · rfl
theorem rval_spl (s : Bool) (xs : List Int) : rval s (spl xs) = ival s xs := by rw [rval, ival, vd_spl]
/-- What a function of the reference answers that gives a number. -/
def RAns (N : Nat) (z : Int) (w : World) (e : Ending) (w' : World) : Prop :=
  ∃ s' p' n' ds', e = .returned (.agg #[.bool s', .slice p' n' n']) ∧ RN w' s' p' n' ds' ∧ rval s' ds' = z ∧ n' ≤ N ∧ Go.Proofs.YtongkalfdgleaaaDoor.From w.heap.size p' ∧ Below w.heap.size w w'
/-- The end of a function that answers trim(neg, d), d a row of its own from block B on. -/
theorem end_rn {w W wr w4 : World} {r N : Nat} {neg : Bool} {q : Option Addr} {D : List Int} {z : Int} {u v : Value} (hbw : Below w.heap.size w W) (hr : w.heap.size ≤ r) (hr' : r < W.heap.size) (hBr : Below W.heap.size W wr) (hb4 : Below wr.heap.size wr w4)
    (hq3 : Rd wr q .i64 D) (hq4 : Go.Proofs.YtongkalfdgleaaaDoor.From W.heap.size q) (hU : U16 D) (hl : tlen D ≤ 1000000000) (hv : rval neg D = z) (hN : tlen D ≤ N) :
    RAns N z w (.returned (.agg #[.bool (nsg neg D), .slice q (tlen D) (tlen D)])) ((w4.setCell ⟨r, 0, none⟩ u).setCell ⟨r, 1, none⟩ v) := by
  have htl := tlen_le D
  refine ⟨_, q, tlen D, tr D, rfl, ⟨length_tr _, ?_, u16_tr hU, tlen_tr _, fun h => by rw [nsg, if_pos h], by omega⟩, by rw [rval_nsg neg hU, hv], hN, fun a ha => Nat.le_trans hbw.size (hq4 a ha), ?_⟩
  · exact ((hq3.tr.below hb4).set_other _ _ (fun a ha => by have := hq4 a ha; simp; omega)).set_other _ _ (fun a ha => by have := hq4 a ha; simp; omega)
  · exact (((hbw.trans (hBr.mono hbw.size)).trans (hb4.mono (by have := hBr.size; have := hbw.size; omega))).setCell (p := ⟨r, 0, none⟩) hr _).setCell (p := ⟨r, 1, none⟩) hr _

/-- The end of a function that answers trim(neg, d), d what a callee has answered. -/
theorem end_rn2 {w W w1 w2 : World} {r N : Nat} {neg : Bool} {q : Option Addr} {D : List Int} {z : Int} {u v : Value} (hbw : Below w.heap.size w W) (hr : w.heap.size ≤ r) (hr' : r < W.heap.size) (hb1 : Below W.heap.size W w1) (hb2 : Below w1.heap.size w1 w2)
    (hq3 : Rd w1 q .i64 D) (hq4 : Go.Proofs.YtongkalfdgleaaaDoor.From W.heap.size q) (hU : U16 D) (hl : D.length ≤ N) (hN : N ≤ 1000000000) (hv : rval neg D = z) :
    RAns N z w (.returned (.agg #[.bool (nsg neg D), .slice q (tlen D) (tlen D)])) ((w2.setCell ⟨r, 0, none⟩ u).setCell ⟨r, 1, none⟩ v) :=
  end_rn hbw hr hr' hb1 hb2 hq3 hq4 hU (by have := tlen_le D; omega) hv (by have := tlen_le D; omega)

theorem rval_not (s : Bool) (xs : List Int) : rval (!s) xs = - rval s xs := by cases s <;> simp [rval]

theorem mk_int (n : Nat) (h : n ≤ 1000000000) (w : World) : (Instr.makeSlice 36 (.int .i64 n) (.int .i64 n)).run Tryd.prog w =
    .ok (.slice (some ⟨w.heap.size, 0, none⟩) n n) (w.alloc (.cells (ca .i64 (zeros n)) 3)) := by
  have hi := info_int
  cases hq : Tryd.prog.info? 3 with
  | none => rw [hq] at hi; cases hi
  | some i =>
    rw [hq] at hi
    simp only [Option.map_some, Option.some.injEq, Prod.mk.injEq] at hi
    obtain ⟨h1, h2, h3⟩ := hi
    have hr := run_make (P := Tryd.prog) w 36 3 i (.int .i64 0) Tryd.underlying36 hq h1 .i64 .i64 n n (by omega) (Int.le_refl _) (by rw [h3]; omega) (by omega)
    rw [Int.toNat_natCast, h2] at hr
    rw [hr]
    exact congrArg (fun c => Result.ok (Value.slice (some ⟨w.heap.size, 0, none⟩) n n) (w.alloc (.cells c 3))) (made_zeros .i64 n)
end Go.Proofs.YtongkalfdgleaaaDoor
/-
  What the walks of the laws share: reference numbers carried on.
-/
namespace Go.Proofs.YtongkalfdgleaaaDoor
open Go.RowKit
set_option linter.unusedVariables false
set_option linter.unusedSimpArgs false

theorem RN.set {w : World} {s : Bool} {p : Option Addr} {n : Nat} {ds : List Int} (h : RN w s p n ds) {a : Addr} (hne : 0 < n → Off a.block p) (v : Value) : RN (w.setCell a v) s p n ds :=
  ⟨h.len, fun hx => (h.rd.set_other a v (hne (by rw [← h.len]; exact hx))) hx, h.u, h.nrm, h.sg, h.sml⟩
theorem RN.alloc {w : World} {s : Bool} {p : Option Addr} {n : Nat} {ds : List Int} (h : RN w s p n ds) (o : Obj) : RN (w.alloc o) s p n ds := ⟨h.len, h.rd.alloc o, h.u, h.nrm, h.sg, h.sml⟩
theorem RN.drew {w : World} {s : Bool} {p : Option Addr} {n : Nat} {ds : List Int} (h : RN w s p n ds) : RN w.drew s p n ds := ⟨h.len, h.rd.drew, h.u, h.nrm, h.sg, h.sml⟩
theorem RN_al {w : World} {s : Bool} {p : Option Addr} {n : Nat} {ds : List Int} {o : Obj} (h : RN w s p n ds) : RN (w.alloc o) s p n ds := h.alloc o
theorem RN_st3 {F : Nat} {w : World} {s : Bool} {p : Option Addr} {n : Nat} {ds : List Int} {a : Addr} {v : Value} (hF : Go.Proofs.YtongkalfdgleaaaDoor.From F p) (ha : a.block < F) (h : RN w s p n ds) : RN (w.setCell a v) s p n ds :=
  h.set (fun _ x hx e => by have := hF x hx; omega) v
theorem RN_st2 {U : Nat} {w : World} {s : Bool} {p : Option Addr} {n : Nat} {ds : List Int} {a : Addr} {v : Value} (hU : 0 < n → ∀ x, p = some x → x.block < U) (ha : U ≤ a.block) (h : RN w s p n ds) : RN (w.setCell a v) s p n ds :=
  h.set (fun hn x hx e => by have := hU hn x hx; omega) v
theorem RN.lt {w : World} {s : Bool} {p : Option Addr} {n : Nat} {ds : List Int} (h : RN w s p n ds) : 0 < n → ∀ x, p = some x → x.block < w.heap.size := fun hn x hx => by
  obtain ⟨b, off, hp, hlt⟩ := h.rd.lt (by rw [h.len]; exact hn)
  rw [hp] at hx
  cases hx
  exact hlt
/-- A reference number with its value. -/
theorem From_ansF (s : Bool) (p : Option Addr) (n nc : Nat) (xs : List Int) (w : World) (hA : AI w p n nc xs) :
    Calls Tryd.prog 12 #[.agg #[.bool s, .slice p n nc]] w fun e w' => ∃ s' p' n' ds', e = .returned (.agg #[.bool s', .slice p' n' n']) ∧ RN w' s' p' n' ds' ∧ rval s' ds' = ival s xs ∧ n' ≤ 2 * n ∧ Go.Proofs.YtongkalfdgleaaaDoor.From w.heap.size p' ∧ Below w.heap.size w w' := by
  refine (From_any s p n nc xs w hA).mono ?_
  rintro e w' ⟨s', q, nq, rfl, hR, rfl, hF, hb⟩
  refine ⟨_, q, nq, _, rfl, hR, by rw [rval_nsg s (u16_spl hA.u), rval_spl], ?_, hF, hb⟩
  have h1 := hR.nrm
  rw [tlen_tr] at h1
  have h2 := tlen_le (spl xs)
  rw [length_spl] at h2
  have := hA.len
  omega
theorem From_ans (s : Bool) (p : Option Addr) (n nc : Nat) (xs : List Int) (w : World) (hA : AI w p n nc xs) :
    Calls Tryd.prog 12 #[.agg #[.bool s, .slice p n nc]] w fun e w' => ∃ s' p' n' ds', e = .returned (.agg #[.bool s', .slice p' n' n']) ∧ RN w' s' p' n' ds' ∧ rval s' ds' = ival s xs ∧ n' ≤ 2 * n ∧ Below w.heap.size w w' := by
  refine (From_ansF s p n nc xs w hA).mono ?_
  rintro e w' ⟨s', p', n', ds', h1, h2, h3, h4, h5, h6⟩
  exact ⟨s', p', n', ds', h1, h2, h3, h4, h6⟩
end Go.Proofs.YtongkalfdgleaaaDoor
/-
  Two numbers behind Cut, as the laws hold them.
-/
namespace Go.Proofs.YtongkalfdgleaaaDoor
open Go.RowKit
set_option linter.unusedVariables false
set_option linter.unusedSimpArgs false

/-- Two numbers in variables of their own, behind Cut. -/
structure C2 (w wc : World) (sa sb : Bool) (pa pb : Option Addr) (na nac nb nbc : Nat) (xa xb : List Int) : Prop where
  a : Vr wc w.heap.size sa pa na nac (w.heap.size + 1 + 1) xa
  b : Vr wc (w.heap.size + 1) sb pb nb nbc (w.heap.size + 1 + 1) xb
  la : na ≤ 24
  lb : nb ≤ 24
  bel : Below w.heap.size w wc
theorem C2.later {w wc w' : World} {sa sb : Bool} {pa pb : Option Addr} {na nac nb nbc : Nat} {xa xb : List Int} (h : C2 w wc sa sb pa pb na nac nb nbc xa xb) (hb : Below wc.heap.size wc w') : C2 w w' sa sb pa pb na nac nb nbc xa xb :=
  ⟨h.a.later hb, h.b.later hb, h.la, h.lb, bnext h.bel (Nat.le_refl _) hb⟩


theorem keepc8 {w1 w2 : World} {a b c d e f g h : Addr} {u v x y z t r s : Value} (k : w1.cell? a = some u ∧ w1.cell? b = some v ∧ w1.cell? c = some x ∧ w1.cell? d = some y ∧ w1.cell? e = some z ∧ w1.cell? f = some t ∧ w1.cell? g = some r ∧ w1.cell? h = some s) (hb : Below w1.heap.size w1 w2) :
    w2.cell? a = some u ∧ w2.cell? b = some v ∧ w2.cell? c = some x ∧ w2.cell? d = some y ∧ w2.cell? e = some z ∧ w2.cell? f = some t ∧ w2.cell? g = some r ∧ w2.cell? h = some s :=
  ⟨cell_later hb k.1, cell_later hb k.2.1, cell_later hb k.2.2.1, cell_later hb k.2.2.2.1, cell_later hb k.2.2.2.2.1, cell_later hb k.2.2.2.2.2.1, cell_later hb k.2.2.2.2.2.2.1, cell_later hb k.2.2.2.2.2.2.2⟩
theorem unfr {W : World} {p : Option Addr} (h : Go.Proofs.YtongkalfdgleaaaDoor.From W.drew.heap.size p) : Go.Proofs.YtongkalfdgleaaaDoor.From W.heap.size p := h
theorem s4set {w : World} {b c g : Nat} {u v x y r s : Value} (h : w.cell? ⟨b, 0, none⟩ = some u ∧ w.cell? ⟨b, 1, none⟩ = some v ∧ w.cell? ⟨c, 0, none⟩ = some x ∧ w.cell? ⟨c, 1, none⟩ = some y) (h1 : b ≠ g) (h2 : c ≠ g) :
    ((w.setCell ⟨g, 0, none⟩ r).setCell ⟨g, 1, none⟩ s).cell? ⟨b, 0, none⟩ = some u ∧ ((w.setCell ⟨g, 0, none⟩ r).setCell ⟨g, 1, none⟩ s).cell? ⟨b, 1, none⟩ = some v ∧ ((w.setCell ⟨g, 0, none⟩ r).setCell ⟨g, 1, none⟩ s).cell? ⟨c, 0, none⟩ = some x ∧ ((w.setCell ⟨g, 0, none⟩ r).setCell ⟨g, 1, none⟩ s).cell? ⟨c, 1, none⟩ = some y := by
  obtain ⟨a1, a2, a3, a4⟩ := h
  refine ⟨?_, ?_, ?_, ?_⟩
  · rw [World.cell?_of_block (heap_setCell_other _ _ _ _ h1), World.cell?_of_block (heap_setCell_other _ _ _ _ h1)]; exact a1
  · rw [World.cell?_of_block (heap_setCell_other _ _ _ _ h1), World.cell?_of_block (heap_setCell_other _ _ _ _ h1)]; exact a2
  · rw [World.cell?_of_block (heap_setCell_other _ _ _ _ h2), World.cell?_of_block (heap_setCell_other _ _ _ _ h2)]; exact a3
  · rw [World.cell?_of_block (heap_setCell_other _ _ _ _ h2), World.cell?_of_block (heap_setCell_other _ _ _ _ h2)]; exact a4
/-- A reference number in a variable of its own, with its value. -/
structure Vx (w : World) (g : Nat) (s : Bool) (p : Option Addr) (n : Nat) (ds : List Int) (z : Int) : Prop where
  b : Bx w g (.bool s) (.slice p n n)
  r : RN w s p n ds
  v : rval s ds = z
  l : n ≤ 48
theorem Vx.later {w w' : World} {g : Nat} {s : Bool} {p : Option Addr} {n : Nat} {ds : List Int} {z : Int} (h : Vx w g s p n ds z) (hb : Below w.heap.size w w') : Vx w' g s p n ds z := ⟨h.b.later hb, h.r.below hb, h.v, h.l⟩
end Go.Proofs.YtongkalfdgleaaaDoor
/-
  What holds behind each part of a region 'x, y, z := From(a), From(b), From(c)', in whatever order its operations come up.
-/
namespace Go.Proofs.YtongkalfdgleaaaDoor
open Go.RowKit
set_option linter.unusedVariables false
set_option linter.unusedSimpArgs false

/-- One number is answered. -/
def RR (B : Nat) (w : World) (V : Int) (r : Value) (s : Bool) (p : Option Addr) (n : Nat) (d : List Int) : Prop :=
  r = .agg #[.bool s, .slice p n n] ∧ RN w s p n d ∧ rval s d = V ∧ n ≤ 48 ∧ Go.Proofs.YtongkalfdgleaaaDoor.From B p
theorem RR.later {B : Nat} {w w' : World} {V : Int} {r : Value} {s : Bool} {p : Option Addr} {n : Nat} {d : List Int} (h : RR B w V r s p n d) (hb : Below w.heap.size w w') : RR B w' V r s p n d := ⟨h.1, h.2.1.below hb, h.2.2⟩
theorem RR.store {B : Nat} {w : World} {V : Int} {r : Value} {s : Bool} {p : Option Addr} {n : Nat} {d : List Int} (h : RR B w V r s p n d) {g : Nat} (hg : 0 < n → ∀ q, p = some q → q.block ≠ g) (u v : Value) : RR B ((w.setCell ⟨g, 0, none⟩ u).setCell ⟨g, 1, none⟩ v) V r s p n d :=
  ⟨h.1, (h.2.1.set (a := ⟨g, 0, none⟩) (fun h0 q hq => hg h0 q hq) _).set (a := ⟨g, 1, none⟩) (fun h0 q hq => hg h0 q hq) _, h.2.2⟩
/-- One variable is there. -/
def XX (B : Nat) (w : World) (x : Value) (g : Nat) (done : Bool) (r : Value) : Prop :=
  x = .pointer (some ⟨g, 0, none⟩) ∧ B ≤ g ∧ ∃ u v, Bx w g u v ∧ (done = true → r = .agg #[u, v])
theorem XX.later {B : Nat} {w w' : World} {x : Value} {g : Nat} {done : Bool} {r : Value} (h : XX B w x g done r) (hb : Below w.heap.size w w') : XX B w' x g done r := by
  obtain ⟨h1, h2, u, v, h3, h4⟩ := h
  exact ⟨h1, h2, u, v, h3.later hb, h4⟩
theorem XX.lt {B : Nat} {w : World} {x : Value} {g : Nat} {done : Bool} {r : Value} (h : XX B w x g done r) : g < w.heap.size := by
  obtain ⟨h1, h2, u, v, h3, h4⟩ := h
  exact block_lt_of_cell h3.c0
theorem XX.res {B : Nat} {w : World} {x : Value} {g : Nat} {done : Bool} {r r' : Value} (h : XX B w x g done r) (hd : ¬ done = true) : XX B w x g done r' := by
  obtain ⟨h1, h2, u, v, h3, h4⟩ := h
  exact ⟨h1, h2, u, v, h3, fun e => absurd e hd⟩
theorem XX.other {B : Nat} {w : World} {x : Value} {g k : Nat} {done : Bool} {r : Value} (h : XX B w x g done r) (hk : g ≠ k) (u v : Value) : XX B ((w.setCell ⟨k, 0, none⟩ u).setCell ⟨k, 1, none⟩ v) x g done r := by
  obtain ⟨h1, h2, u', v', h3, h4⟩ := h
  exact ⟨h1, h2, u', v', Bx_oth h3 hk, h4⟩
theorem XX.own {B : Nat} {w : World} {x : Value} {g : Nat} {done : Bool} {r : Value} (h : XX B w x g done r) (u v : Value) : XX B ((w.setCell ⟨g, 0, none⟩ u).setCell ⟨g, 1, none⟩ v) x g true (.agg #[u, v]) := by
  obtain ⟨h1, h2, u', v', h3, h4⟩ := h
  exact ⟨h1, h2, u, v, Bx_set h3, fun _ => rfl⟩

/-- Behind each part of the region. -/
structure G3 (wc w : World) (V1 V2 V3 : Int) (c1 c2 c3 a1 a2 a3 s1 s2 s3 : Bool) (r1 r2 r3 x1 x2 x3 : Value) (t1 : Bool) (p1 : Option Addr) (n1 : Nat) (d1 : List Int) (t2 : Bool) (p2 : Option Addr) (n2 : Nat) (d2 : List Int) (t3 : Bool) (p3 : Option Addr) (n3 : Nat) (d3 : List Int) (g1 g2 g3 : Nat) : Prop where
  bel : Below wc.heap.size wc w
  R1 : c1 = true → RR wc.heap.size w V1 r1 t1 p1 n1 d1
  R2 : c2 = true → RR wc.heap.size w V2 r2 t2 p2 n2 d2
  R3 : c3 = true → RR wc.heap.size w V3 r3 t3 p3 n3 d3
  X1 : a1 = true → XX wc.heap.size w x1 g1 s1 r1
  X2 : a2 = true → XX wc.heap.size w x2 g2 s2 r2
  X3 : a3 = true → XX wc.heap.size w x3 g3 s3 r3
  d11 : c1 = true → a1 = true → 0 < n1 → ∀ q, p1 = some q → q.block ≠ g1
  d12 : c1 = true → a2 = true → 0 < n1 → ∀ q, p1 = some q → q.block ≠ g2
  d13 : c1 = true → a3 = true → 0 < n1 → ∀ q, p1 = some q → q.block ≠ g3
  d21 : c2 = true → a1 = true → 0 < n2 → ∀ q, p2 = some q → q.block ≠ g1
  d22 : c2 = true → a2 = true → 0 < n2 → ∀ q, p2 = some q → q.block ≠ g2
  d23 : c2 = true → a3 = true → 0 < n2 → ∀ q, p2 = some q → q.block ≠ g3
  d31 : c3 = true → a1 = true → 0 < n3 → ∀ q, p3 = some q → q.block ≠ g1
  d32 : c3 = true → a2 = true → 0 < n3 → ∀ q, p3 = some q → q.block ≠ g2
  d33 : c3 = true → a3 = true → 0 < n3 → ∀ q, p3 = some q → q.block ≠ g3
  e12 : a1 = true → a2 = true → g1 ≠ g2
  e13 : a1 = true → a3 = true → g1 ≠ g3
  e23 : a2 = true → a3 = true → g2 ≠ g3
  o1 : s1 = true → c1 = true
  o2 : s2 = true → c2 = true
  o3 : s3 = true → c3 = true
  q1 : s1 = true → a1 = true
  q2 : s2 = true → a2 = true
  q3 : s3 = true → a3 = true
theorem G3.call1 {wc w w1 : World} {V1 V2 V3 : Int} {c1 c2 c3 a1 a2 a3 s1 s2 s3 : Bool} {r1 r2 r3 x1 x2 x3 : Value} {t1 : Bool} {p1 : Option Addr} {n1 : Nat} {d1 : List Int} {t2 : Bool} {p2 : Option Addr} {n2 : Nat} {d2 : List Int} {t3 : Bool} {p3 : Option Addr} {n3 : Nat} {d3 : List Int} {g1 g2 g3 : Nat} (h : G3 wc w V1 V2 V3 c1 c2 c3 a1 a2 a3 s1 s2 s3 r1 r2 r3 x1 x2 x3 t1 p1 n1 d1 t2 p2 n2 d2 t3 p3 n3 d3 g1 g2 g3) (hc : ¬ c1 = true) {t : Bool} {p : Option Addr} {n : Nat} {d : List Int} (hb : Below w.heap.size w w1) (hr : RN w1 t p n d) (hv : rval t d = V1) (hn : n ≤ 48) (hf : Go.Proofs.YtongkalfdgleaaaDoor.From w.heap.size p) :
    G3 wc w1 V1 V2 V3 (true) c2 c3 a1 a2 a3 s1 s2 s3 (.agg #[.bool t, .slice p n n]) r2 r3 x1 x2 x3 (t) (p) (n) (d) t2 p2 n2 d2 t3 p3 n3 d3 g1 g2 g3 :=
  ⟨h.bel.trans (hb.mono h.bel.size), fun _ => ⟨rfl, hr, hv, hn, fun a ha => Nat.le_trans h.bel.size (hf a ha)⟩, fun k => (h.R2 k).later hb, fun k => (h.R3 k).later hb, fun k => ((h.X1 k).later hb).res (fun e => hc (h.o1 e)), fun k => (h.X2 k).later hb, fun k => (h.X3 k).later hb, fun _ k h0 q hq e => by have h1 := (h.X1 k).lt; have h2 := hf q hq; omega, fun _ k h0 q hq e => by have h1 := (h.X2 k).lt; have h2 := hf q hq; omega, fun _ k h0 q hq e => by have h1 := (h.X3 k).lt; have h2 := hf q hq; omega, h.d21, h.d22, h.d23, h.d31, h.d32, h.d33, h.e12, h.e13, h.e23, fun _ => rfl, h.o2, h.o3, h.q1, h.q2, h.q3⟩
theorem G3.call2 {wc w w1 : World} {V1 V2 V3 : Int} {c1 c2 c3 a1 a2 a3 s1 s2 s3 : Bool} {r1 r2 r3 x1 x2 x3 : Value} {t1 : Bool} {p1 : Option Addr} {n1 : Nat} {d1 : List Int} {t2 : Bool} {p2 : Option Addr} {n2 : Nat} {d2 : List Int} {t3 : Bool} {p3 : Option Addr} {n3 : Nat} {d3 : List Int} {g1 g2 g3 : Nat} (h : G3 wc w V1 V2 V3 c1 c2 c3 a1 a2 a3 s1 s2 s3 r1 r2 r3 x1 x2 x3 t1 p1 n1 d1 t2 p2 n2 d2 t3 p3 n3 d3 g1 g2 g3) (hc : ¬ c2 = true) {t : Bool} {p : Option Addr} {n : Nat} {d : List Int} (hb : Below w.heap.size w w1) (hr : RN w1 t p n d) (hv : rval t d = V2) (hn : n ≤ 48) (hf : Go.Proofs.YtongkalfdgleaaaDoor.From w.heap.size p) :
    G3 wc w1 V1 V2 V3 c1 (true) c3 a1 a2 a3 s1 s2 s3 r1 (.agg #[.bool t, .slice p n n]) r3 x1 x2 x3 t1 p1 n1 d1 (t) (p) (n) (d) t3 p3 n3 d3 g1 g2 g3 :=
  ⟨h.bel.trans (hb.mono h.bel.size), fun k => (h.R1 k).later hb, fun _ => ⟨rfl, hr, hv, hn, fun a ha => Nat.le_trans h.bel.size (hf a ha)⟩, fun k => (h.R3 k).later hb, fun k => (h.X1 k).later hb, fun k => ((h.X2 k).later hb).res (fun e => hc (h.o2 e)), fun k => (h.X3 k).later hb, h.d11, h.d12, h.d13, fun _ k h0 q hq e => by have h1 := (h.X1 k).lt; have h2 := hf q hq; omega, fun _ k h0 q hq e => by have h1 := (h.X2 k).lt; have h2 := hf q hq; omega, fun _ k h0 q hq e => by have h1 := (h.X3 k).lt; have h2 := hf q hq; omega, h.d31, h.d32, h.d33, h.e12, h.e13, h.e23, h.o1, fun _ => rfl, h.o3, h.q1, h.q2, h.q3⟩
theorem G3.call3 {wc w w1 : World} {V1 V2 V3 : Int} {c1 c2 c3 a1 a2 a3 s1 s2 s3 : Bool} {r1 r2 r3 x1 x2 x3 : Value} {t1 : Bool} {p1 : Option Addr} {n1 : Nat} {d1 : List Int} {t2 : Bool} {p2 : Option Addr} {n2 : Nat} {d2 : List Int} {t3 : Bool} {p3 : Option Addr} {n3 : Nat} {d3 : List Int} {g1 g2 g3 : Nat} (h : G3 wc w V1 V2 V3 c1 c2 c3 a1 a2 a3 s1 s2 s3 r1 r2 r3 x1 x2 x3 t1 p1 n1 d1 t2 p2 n2 d2 t3 p3 n3 d3 g1 g2 g3) (hc : ¬ c3 = true) {t : Bool} {p : Option Addr} {n : Nat} {d : List Int} (hb : Below w.heap.size w w1) (hr : RN w1 t p n d) (hv : rval t d = V3) (hn : n ≤ 48) (hf : Go.Proofs.YtongkalfdgleaaaDoor.From w.heap.size p) :
    G3 wc w1 V1 V2 V3 c1 c2 (true) a1 a2 a3 s1 s2 s3 r1 r2 (.agg #[.bool t, .slice p n n]) x1 x2 x3 t1 p1 n1 d1 t2 p2 n2 d2 (t) (p) (n) (d) g1 g2 g3 :=
  ⟨h.bel.trans (hb.mono h.bel.size), fun k => (h.R1 k).later hb, fun k => (h.R2 k).later hb, fun _ => ⟨rfl, hr, hv, hn, fun a ha => Nat.le_trans h.bel.size (hf a ha)⟩, fun k => (h.X1 k).later hb, fun k => (h.X2 k).later hb, fun k => ((h.X3 k).later hb).res (fun e => hc (h.o3 e)), h.d11, h.d12, h.d13, h.d21, h.d22, h.d23, fun _ k h0 q hq e => by have h1 := (h.X1 k).lt; have h2 := hf q hq; omega, fun _ k h0 q hq e => by have h1 := (h.X2 k).lt; have h2 := hf q hq; omega, fun _ k h0 q hq e => by have h1 := (h.X3 k).lt; have h2 := hf q hq; omega, h.e12, h.e13, h.e23, h.o1, h.o2, fun _ => rfl, h.q1, h.q2, h.q3⟩
theorem G3.alloc1 {wc w : World} {V1 V2 V3 : Int} {c1 c2 c3 a1 a2 a3 s1 s2 s3 : Bool} {r1 r2 r3 x1 x2 x3 : Value} {t1 : Bool} {p1 : Option Addr} {n1 : Nat} {d1 : List Int} {t2 : Bool} {p2 : Option Addr} {n2 : Nat} {d2 : List Int} {t3 : Bool} {p3 : Option Addr} {n3 : Nat} {d3 : List Int} {g1 g2 g3 : Nat} (h : G3 wc w V1 V2 V3 c1 c2 c3 a1 a2 a3 s1 s2 s3 r1 r2 r3 x1 x2 x3 t1 p1 n1 d1 t2 p2 n2 d2 t3 p3 n3 d3 g1 g2 g3) (hs : ¬ a1 = true) (u v : Value) (ty : Nat) :
    G3 wc (w.alloc (.cells #[u, v] ty)) V1 V2 V3 c1 c2 c3 (true) a2 a3 s1 s2 s3 r1 r2 r3 (.pointer (some ⟨w.heap.size, 0, none⟩)) x2 x3 t1 p1 n1 d1 t2 p2 n2 d2 t3 p3 n3 d3 (w.heap.size) g2 g3 :=
  ⟨h.bel.alloc h.bel.size _, fun k => (h.R1 k).later (bel_al (Below.refl _ _)), fun k => (h.R2 k).later (bel_al (Below.refl _ _)), fun k => (h.R3 k).later (bel_al (Below.refl _ _)), fun _ => ⟨rfl, h.bel.size, u, v, Bx.new _ _ _ rfl, fun e => absurd (h.q1 e) hs⟩, fun k => (h.X2 k).later (bel_al (Below.refl _ _)), fun k => (h.X3 k).later (bel_al (Below.refl _ _)), fun k _ h0 q hq => Nat.ne_of_lt ((h.R1 k).2.1.lt h0 q hq), h.d12, h.d13, fun k _ h0 q hq => Nat.ne_of_lt ((h.R2 k).2.1.lt h0 q hq), h.d22, h.d23, fun k _ h0 q hq => Nat.ne_of_lt ((h.R3 k).2.1.lt h0 q hq), h.d32, h.d33, fun _ k => Ne.symm (Nat.ne_of_lt (h.X2 k).lt), fun _ k => Ne.symm (Nat.ne_of_lt (h.X3 k).lt), h.e23, h.o1, h.o2, h.o3, fun _ => rfl, h.q2, h.q3⟩
theorem G3.alloc2 {wc w : World} {V1 V2 V3 : Int} {c1 c2 c3 a1 a2 a3 s1 s2 s3 : Bool} {r1 r2 r3 x1 x2 x3 : Value} {t1 : Bool} {p1 : Option Addr} {n1 : Nat} {d1 : List Int} {t2 : Bool} {p2 : Option Addr} {n2 : Nat} {d2 : List Int} {t3 : Bool} {p3 : Option Addr} {n3 : Nat} {d3 : List Int} {g1 g2 g3 : Nat} (h : G3 wc w V1 V2 V3 c1 c2 c3 a1 a2 a3 s1 s2 s3 r1 r2 r3 x1 x2 x3 t1 p1 n1 d1 t2 p2 n2 d2 t3 p3 n3 d3 g1 g2 g3) (hs : ¬ a2 = true) (u v : Value) (ty : Nat) :
    G3 wc (w.alloc (.cells #[u, v] ty)) V1 V2 V3 c1 c2 c3 a1 (true) a3 s1 s2 s3 r1 r2 r3 x1 (.pointer (some ⟨w.heap.size, 0, none⟩)) x3 t1 p1 n1 d1 t2 p2 n2 d2 t3 p3 n3 d3 g1 (w.heap.size) g3 :=
  ⟨h.bel.alloc h.bel.size _, fun k => (h.R1 k).later (bel_al (Below.refl _ _)), fun k => (h.R2 k).later (bel_al (Below.refl _ _)), fun k => (h.R3 k).later (bel_al (Below.refl _ _)), fun k => (h.X1 k).later (bel_al (Below.refl _ _)), fun _ => ⟨rfl, h.bel.size, u, v, Bx.new _ _ _ rfl, fun e => absurd (h.q2 e) hs⟩, fun k => (h.X3 k).later (bel_al (Below.refl _ _)), h.d11, fun k _ h0 q hq => Nat.ne_of_lt ((h.R1 k).2.1.lt h0 q hq), h.d13, h.d21, fun k _ h0 q hq => Nat.ne_of_lt ((h.R2 k).2.1.lt h0 q hq), h.d23, h.d31, fun k _ h0 q hq => Nat.ne_of_lt ((h.R3 k).2.1.lt h0 q hq), h.d33, fun k _ => Nat.ne_of_lt (h.X1 k).lt, h.e13, fun _ k => Ne.symm (Nat.ne_of_lt (h.X3 k).lt), h.o1, h.o2, h.o3, h.q1, fun _ => rfl, h.q3⟩
theorem G3.alloc3 {wc w : World} {V1 V2 V3 : Int} {c1 c2 c3 a1 a2 a3 s1 s2 s3 : Bool} {r1 r2 r3 x1 x2 x3 : Value} {t1 : Bool} {p1 : Option Addr} {n1 : Nat} {d1 : List Int} {t2 : Bool} {p2 : Option Addr} {n2 : Nat} {d2 : List Int} {t3 : Bool} {p3 : Option Addr} {n3 : Nat} {d3 : List Int} {g1 g2 g3 : Nat} (h : G3 wc w V1 V2 V3 c1 c2 c3 a1 a2 a3 s1 s2 s3 r1 r2 r3 x1 x2 x3 t1 p1 n1 d1 t2 p2 n2 d2 t3 p3 n3 d3 g1 g2 g3) (hs : ¬ a3 = true) (u v : Value) (ty : Nat) :
    G3 wc (w.alloc (.cells #[u, v] ty)) V1 V2 V3 c1 c2 c3 a1 a2 (true) s1 s2 s3 r1 r2 r3 x1 x2 (.pointer (some ⟨w.heap.size, 0, none⟩)) t1 p1 n1 d1 t2 p2 n2 d2 t3 p3 n3 d3 g1 g2 (w.heap.size) :=
  ⟨h.bel.alloc h.bel.size _, fun k => (h.R1 k).later (bel_al (Below.refl _ _)), fun k => (h.R2 k).later (bel_al (Below.refl _ _)), fun k => (h.R3 k).later (bel_al (Below.refl _ _)), fun k => (h.X1 k).later (bel_al (Below.refl _ _)), fun k => (h.X2 k).later (bel_al (Below.refl _ _)), fun _ => ⟨rfl, h.bel.size, u, v, Bx.new _ _ _ rfl, fun e => absurd (h.q3 e) hs⟩, h.d11, h.d12, fun k _ h0 q hq => Nat.ne_of_lt ((h.R1 k).2.1.lt h0 q hq), h.d21, h.d22, fun k _ h0 q hq => Nat.ne_of_lt ((h.R2 k).2.1.lt h0 q hq), h.d31, h.d32, fun k _ h0 q hq => Nat.ne_of_lt ((h.R3 k).2.1.lt h0 q hq), h.e12, fun k _ => Nat.ne_of_lt (h.X1 k).lt, fun k _ => Nat.ne_of_lt (h.X2 k).lt, h.o1, h.o2, h.o3, h.q1, h.q2, fun _ => rfl⟩
theorem G3.store1 {wc w : World} {V1 V2 V3 : Int} {c1 c2 c3 a1 a2 a3 s1 s2 s3 : Bool} {r1 r2 r3 x1 x2 x3 : Value} {t1 : Bool} {p1 : Option Addr} {n1 : Nat} {d1 : List Int} {t2 : Bool} {p2 : Option Addr} {n2 : Nat} {d2 : List Int} {t3 : Bool} {p3 : Option Addr} {n3 : Nat} {d3 : List Int} {g1 g2 g3 : Nat} (h : G3 wc w V1 V2 V3 c1 c2 c3 a1 a2 a3 s1 s2 s3 r1 r2 r3 x1 x2 x3 t1 p1 n1 d1 t2 p2 n2 d2 t3 p3 n3 d3 g1 g2 g3) (ha : a1 = true) (hc : c1 = true) :
    G3 wc ((w.setCell ⟨g1, 0, none⟩ (.bool t1)).setCell ⟨g1, 1, none⟩ (.slice p1 n1 n1)) V1 V2 V3 c1 c2 c3 a1 a2 a3 (true) s2 s3 r1 r2 r3 x1 x2 x3 t1 p1 n1 d1 t2 p2 n2 d2 t3 p3 n3 d3 g1 g2 g3 :=
  ⟨bset2 h.bel (h.X1 ha).2.1 _ _, fun k => (h.R1 k).store (h.d11 k ha) _ _, fun k => (h.R2 k).store (h.d21 k ha) _ _, fun k => (h.R3 k).store (h.d31 k ha) _ _, fun k => by have h1 := (h.X1 k).own (.bool t1) (.slice p1 n1 n1); rw [(h.R1 hc).1]; exact h1, fun k => (h.X2 k).other (Ne.symm (h.e12 ha k)) _ _, fun k => (h.X3 k).other (Ne.symm (h.e13 ha k)) _ _, h.d11, h.d12, h.d13, h.d21, h.d22, h.d23, h.d31, h.d32, h.d33, h.e12, h.e13, h.e23, fun _ => hc, h.o2, h.o3, fun _ => ha, h.q2, h.q3⟩
theorem G3.store2 {wc w : World} {V1 V2 V3 : Int} {c1 c2 c3 a1 a2 a3 s1 s2 s3 : Bool} {r1 r2 r3 x1 x2 x3 : Value} {t1 : Bool} {p1 : Option Addr} {n1 : Nat} {d1 : List Int} {t2 : Bool} {p2 : Option Addr} {n2 : Nat} {d2 : List Int} {t3 : Bool} {p3 : Option Addr} {n3 : Nat} {d3 : List Int} {g1 g2 g3 : Nat} (h : G3 wc w V1 V2 V3 c1 c2 c3 a1 a2 a3 s1 s2 s3 r1 r2 r3 x1 x2 x3 t1 p1 n1 d1 t2 p2 n2 d2 t3 p3 n3 d3 g1 g2 g3) (ha : a2 = true) (hc : c2 = true) :
    G3 wc ((w.setCell ⟨g2, 0, none⟩ (.bool t2)).setCell ⟨g2, 1, none⟩ (.slice p2 n2 n2)) V1 V2 V3 c1 c2 c3 a1 a2 a3 s1 (true) s3 r1 r2 r3 x1 x2 x3 t1 p1 n1 d1 t2 p2 n2 d2 t3 p3 n3 d3 g1 g2 g3 :=
  ⟨bset2 h.bel (h.X2 ha).2.1 _ _, fun k => (h.R1 k).store (h.d12 k ha) _ _, fun k => (h.R2 k).store (h.d22 k ha) _ _, fun k => (h.R3 k).store (h.d32 k ha) _ _, fun k => (h.X1 k).other (h.e12 k ha) _ _, fun k => by have h1 := (h.X2 k).own (.bool t2) (.slice p2 n2 n2); rw [(h.R2 hc).1]; exact h1, fun k => (h.X3 k).other (Ne.symm (h.e23 ha k)) _ _, h.d11, h.d12, h.d13, h.d21, h.d22, h.d23, h.d31, h.d32, h.d33, h.e12, h.e13, h.e23, h.o1, fun _ => hc, h.o3, h.q1, fun _ => ha, h.q3⟩
theorem G3.store3 {wc w : World} {V1 V2 V3 : Int} {c1 c2 c3 a1 a2 a3 s1 s2 s3 : Bool} {r1 r2 r3 x1 x2 x3 : Value} {t1 : Bool} {p1 : Option Addr} {n1 : Nat} {d1 : List Int} {t2 : Bool} {p2 : Option Addr} {n2 : Nat} {d2 : List Int} {t3 : Bool} {p3 : Option Addr} {n3 : Nat} {d3 : List Int} {g1 g2 g3 : Nat} (h : G3 wc w V1 V2 V3 c1 c2 c3 a1 a2 a3 s1 s2 s3 r1 r2 r3 x1 x2 x3 t1 p1 n1 d1 t2 p2 n2 d2 t3 p3 n3 d3 g1 g2 g3) (ha : a3 = true) (hc : c3 = true) :
    G3 wc ((w.setCell ⟨g3, 0, none⟩ (.bool t3)).setCell ⟨g3, 1, none⟩ (.slice p3 n3 n3)) V1 V2 V3 c1 c2 c3 a1 a2 a3 s1 s2 (true) r1 r2 r3 x1 x2 x3 t1 p1 n1 d1 t2 p2 n2 d2 t3 p3 n3 d3 g1 g2 g3 :=
  ⟨bset2 h.bel (h.X3 ha).2.1 _ _, fun k => (h.R1 k).store (h.d13 k ha) _ _, fun k => (h.R2 k).store (h.d23 k ha) _ _, fun k => (h.R3 k).store (h.d33 k ha) _ _, fun k => (h.X1 k).other (h.e13 k ha) _ _, fun k => (h.X2 k).other (h.e23 k ha) _ _, fun k => by have h1 := (h.X3 k).own (.bool t3) (.slice p3 n3 n3); rw [(h.R3 hc).1]; exact h1, h.d11, h.d12, h.d13, h.d21, h.d22, h.d23, h.d31, h.d32, h.d33, h.e12, h.e13, h.e23, h.o1, h.o2, fun _ => hc, h.q1, h.q2, fun _ => ha⟩
end Go.Proofs.YtongkalfdgleaaaDoor
/-
  What holds behind each part of a region 'v := f(g(a, b), h(c, d))', three calls that answer numbers and a variable, in whatever order its operations come up.
-/
namespace Go.Proofs.YtongkalfdgleaaaDoor
open Go.RowKit
set_option linter.unusedVariables false
set_option linter.unusedSimpArgs false

theorem NI.ltn {B : Nat} {w : World} {s : Bool} {p : Option Addr} {n : Nat} {xs : List Int} {z : Int} (h : NI B w s p n xs z) : 0 < n → ∀ x, p = some x → x.block < w.heap.size := fun hn x hx => by
  obtain ⟨b, off, hp, hlt⟩ := h.rd.lt (by rw [h.len]; exact hn)
  rw [hp] at hx
  cases hx
  exact hlt
theorem NI.setOff {B : Nat} {w : World} {s : Bool} {p : Option Addr} {n : Nat} {xs : List Int} {z : Int} (h : NI B w s p n xs z) {a : Addr} (hne : 0 < n → Off a.block p) (v : Value) : NI B (w.setCell a v) s p n xs z := by
  refine ⟨h.len, ?_, h.u, h.nrm, h.sg, h.pn, h.v, h.fr⟩
  intro hx
  exact h.rd.set_other a v (hne (by rw [← h.len]; exact hx)) hx
/-- One number is answered. -/
def AN (B : Nat) (w : World) (N : Nat) (V : Int) (r : Value) (s : Bool) (p : Option Addr) (n : Nat) (z : List Int) : Prop :=
  r = .agg #[.bool s, .slice p n n] ∧ NI B w s p n z V ∧ n ≤ N
theorem AN.later {B N : Nat} {w w' : World} {V : Int} {r : Value} {s : Bool} {p : Option Addr} {n : Nat} {z : List Int} (h : AN B w N V r s p n z) (hb : Below w.heap.size w w') : AN B w' N V r s p n z := ⟨h.1, h.2.1.below hb, h.2.2⟩
theorem AN.store {B N : Nat} {w : World} {V : Int} {r : Value} {s : Bool} {p : Option Addr} {n : Nat} {z : List Int} (h : AN B w N V r s p n z) {g : Nat} (hg : 0 < n → ∀ q, p = some q → q.block ≠ g) (u v : Value) : AN B ((w.setCell ⟨g, 0, none⟩ u).setCell ⟨g, 1, none⟩ v) N V r s p n z :=
  ⟨h.1, (h.2.1.setOff (a := ⟨g, 0, none⟩) (fun h0 q hq => hg h0 q hq) _).setOff (a := ⟨g, 1, none⟩) (fun h0 q hq => hg h0 q hq) _, h.2.2⟩
/-- Behind each part of the region. -/
structure G7 (wc w : World) (V1 V2 V3 : Int) (N1 N2 N3 : Nat) (c1 c2 c3 a s : Bool) (r1 r2 r3 x : Value) (t1 : Bool) (p1 : Option Addr) (n1 : Nat) (z1 : List Int) (t2 : Bool) (p2 : Option Addr) (n2 : Nat) (z2 : List Int) (t3 : Bool) (p3 : Option Addr) (n3 : Nat) (z3 : List Int) (g : Nat) : Prop where
  bel : Below wc.heap.size wc w
  M1 : c1 = true → s = false → AN wc.heap.size w N1 V1 r1 t1 p1 n1 z1
  M2 : c2 = true → s = false → AN wc.heap.size w N2 V2 r2 t2 p2 n2 z2
  M3 : c3 = true → AN wc.heap.size w N3 V3 r3 t3 p3 n3 z3
  X : a = true → XX wc.heap.size w x g s r3
  d : c3 = true → a = true → 0 < n3 → ∀ q, p3 = some q → q.block ≠ g
  o : s = true → c3 = true
  q : s = true → a = true
section
variable {wc w w1 : World} {V1 V2 V3 : Int} {N1 N2 N3 : Nat} {c1 c2 c3 a s : Bool} {r1 r2 r3 x : Value} {t1 : Bool} {p1 : Option Addr} {n1 : Nat} {z1 : List Int} {t2 : Bool} {p2 : Option Addr} {n2 : Nat} {z2 : List Int} {t3 : Bool} {p3 : Option Addr} {n3 : Nat} {z3 : List Int} {g : Nat}
theorem G7.call1 (h : G7 wc w V1 V2 V3 N1 N2 N3 c1 c2 c3 a s r1 r2 r3 x t1 p1 n1 z1 t2 p2 n2 z2 t3 p3 n3 z3 g) {t : Bool} {p : Option Addr} {n : Nat} {z : List Int} (hb : Below w.heap.size w w1) (hr : NI w.heap.size w1 t p n z V1) (hn : n ≤ N1) :
    G7 wc w1 V1 V2 V3 N1 N2 N3 true c2 c3 a s (.agg #[.bool t, .slice p n n]) r2 r3 x t p n z t2 p2 n2 z2 t3 p3 n3 z3 g :=
  ⟨h.bel.trans (hb.mono h.bel.size), fun _ _ => ⟨rfl, hr.mono h.bel.size, hn⟩, fun k l => (h.M2 k l).later hb, fun k => (h.M3 k).later hb, fun k => (h.X k).later hb, h.d, h.o, h.q⟩
theorem G7.call2 (h : G7 wc w V1 V2 V3 N1 N2 N3 c1 c2 c3 a s r1 r2 r3 x t1 p1 n1 z1 t2 p2 n2 z2 t3 p3 n3 z3 g) {t : Bool} {p : Option Addr} {n : Nat} {z : List Int} (hb : Below w.heap.size w w1) (hr : NI w.heap.size w1 t p n z V2) (hn : n ≤ N2) :
    G7 wc w1 V1 V2 V3 N1 N2 N3 c1 true c3 a s r1 (.agg #[.bool t, .slice p n n]) r3 x t1 p1 n1 z1 t p n z t3 p3 n3 z3 g :=
  ⟨h.bel.trans (hb.mono h.bel.size), fun k l => (h.M1 k l).later hb, fun _ _ => ⟨rfl, hr.mono h.bel.size, hn⟩, fun k => (h.M3 k).later hb, fun k => (h.X k).later hb, h.d, h.o, h.q⟩
theorem G7.call3 (h : G7 wc w V1 V2 V3 N1 N2 N3 c1 c2 c3 a s r1 r2 r3 x t1 p1 n1 z1 t2 p2 n2 z2 t3 p3 n3 z3 g) (hc : ¬ c3 = true) {t : Bool} {p : Option Addr} {n : Nat} {z : List Int} (hb : Below w.heap.size w w1) (hr : NI w.heap.size w1 t p n z V3) (hn : n ≤ N3) :
    G7 wc w1 V1 V2 V3 N1 N2 N3 c1 c2 true a s r1 r2 (.agg #[.bool t, .slice p n n]) x t1 p1 n1 z1 t2 p2 n2 z2 t p n z g :=
  ⟨h.bel.trans (hb.mono h.bel.size), fun k l => (h.M1 k l).later hb, fun k l => (h.M2 k l).later hb, fun _ => ⟨rfl, hr.mono h.bel.size, hn⟩, fun k => ((h.X k).later hb).res (fun e => hc (h.o e)), fun _ k h0 q hq e => by have h1 := (h.X k).lt; have h2 := hr.fr q hq; omega, fun _ => rfl, h.q⟩
theorem G7.alloc (h : G7 wc w V1 V2 V3 N1 N2 N3 c1 c2 c3 a s r1 r2 r3 x t1 p1 n1 z1 t2 p2 n2 z2 t3 p3 n3 z3 g) (hs : ¬ a = true) (u v : Value) (ty : Nat) :
    G7 wc (w.alloc (.cells #[u, v] ty)) V1 V2 V3 N1 N2 N3 c1 c2 c3 true s r1 r2 r3 (.pointer (some ⟨w.heap.size, 0, none⟩)) t1 p1 n1 z1 t2 p2 n2 z2 t3 p3 n3 z3 w.heap.size :=
  ⟨h.bel.alloc h.bel.size _, fun k l => (h.M1 k l).later (bel_al (Below.refl _ _)), fun k l => (h.M2 k l).later (bel_al (Below.refl _ _)), fun k => (h.M3 k).later (bel_al (Below.refl _ _)), fun _ => ⟨rfl, h.bel.size, u, v, Bx.new _ _ _ rfl, fun e => absurd (h.q e) hs⟩, fun k _ h0 q hq => Nat.ne_of_lt ((h.M3 k).2.1.ltn h0 q hq), h.o, fun _ => rfl⟩
theorem G7.store (h : G7 wc w V1 V2 V3 N1 N2 N3 c1 c2 c3 a s r1 r2 r3 x t1 p1 n1 z1 t2 p2 n2 z2 t3 p3 n3 z3 g) (ha : a = true) (hc : c3 = true) :
    G7 wc ((w.setCell ⟨g, 0, none⟩ (.bool t3)).setCell ⟨g, 1, none⟩ (.slice p3 n3 n3)) V1 V2 V3 N1 N2 N3 c1 c2 c3 a true r1 r2 r3 x t1 p1 n1 z1 t2 p2 n2 z2 t3 p3 n3 z3 g :=
  ⟨bset2 h.bel (h.X ha).2.1 _ _, nofun, nofun, fun k => (h.M3 k).store (h.d k ha) _ _, fun k => by have h1 := (h.X k).own (.bool t3) (.slice p3 n3 n3); rw [(h.M3 hc).1]; exact h1, h.d, fun _ => hc, fun _ => ha⟩
end
end Go.Proofs.YtongkalfdgleaaaDoor
