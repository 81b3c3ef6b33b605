/-
  ashlarlaw1.Cut: the lowest 24 limbs, in memory of their own.
-/
import Derived.Test.YtejnhpjejcpekaaGreatDoorUbUcUdOwRaWmBe
import Derived.Test.YtejnhpjejcpekaaGreatDoorWhPnWkWlBxBbCvNj
import Derived.Test.YtejnhpjejcpekaaGreatDoorMmWa
import Derived.Test.YtejnhpjejcpekaaGreatDoorProg
import Derived.ProofKit
import Derived.OpenShut
import Derived.Lib.SmallJoins
import Derived.Lay
import Derived.LaidOnce
import Derived.SevenTiedAt
import Derived.Test.YtejnhpjejcpekaaGreatDoorNiUa
import Derived.Deep.SlicePairs
import Derived.Test.YtejnhpjejcpekaaGreatDoorDfVlVsVtVvVnVr
import Derived.Test.YtejnhpjejcpekaaGreatDoorVqDcUmUoDmDv
import Derived.Test.YtejnhpjejcpekaaGreatDoorUgUjBsLeUkUiWiWjUlDdReRx
import Derived.Test.YtejnhpjejcpekaaGreatDoorVaVgRo
import Derived.Test.YtejnhpjejcpekaaGreatDoorUyInU0TaTbTc
import Derived.Test.YtejnhpjejcpekaaGreatDoorYq
import Derived.Deep.DeepFit
namespace Go.Proofs.YtejnhpjejcpekaaGreatDoor
open Go.RowKit
set_option linter.unusedVariables false
set_option linter.unusedSimpArgs false
set_option maxHeartbeats 8000000
def CutPost (s : Bool) (xs : List Int) (w : World) (e : Ending) (w' : World) : Prop :=
  ∃ p' n' nc', e = .returned (.agg #[.bool s, .slice p' n' nc']) ∧ AI w' p' n' nc' (xs.take 24) ∧ n' ≤ 24 ∧ From w.heap.size p' ∧ Below w.heap.size w w'
set_option maxRecDepth 100000 in
theorem Cut_some (s : Bool) (b off n nc k : Nat) (xs : List Int) (w : World) (hl : xs.length = n) (hnc : n ≤ nc) (hb : nc ≤ maxLen) (hX : Rd w (some ⟨b, off, none⟩) .u32 xs) (hU : U32 xs) (hk : k = min n 24) (hk0 : 0 < k) :
    Calls Tryz.prog 43 #[.agg #[.bool s, .slice (some ⟨b, off, none⟩) n nc]] w (CutPost s xs w) := by
  have hb' := hb
  unfold maxLen at hb'
  obtain ⟨i0, hi, hzz⟩ := Option.map_eq_some_iff.1 info_u32
  simp only [Prod.mk.injEq] at hzz
  obtain ⟨hz0, hz1, hz2⟩ := hzz
  have HI : Hid (Tryz.prog.info? 88 = some i0 ∧ i0.zero = some (.int .u32 0) ∧ i0.size = 1 ∧ i0.bytes = 4) := ⟨hi, hz0, hz1, hz2⟩
  clear hi hz0 hz1 hz2
  have HX : Hid (k = min n 24) := hk
  clear hk
  by_cases hn : 24 < n
  · have hn' : 24 < (n : Int) := by omega
    have h24 : (24 : Int) ≤ (nc : Int) := by omega
    have h24n : 24 ≤ nc := by omega
    have h24m : (24 : Int) ≤ (n : Int) := by omega
    obtain rfl : k = 24 := by have := HX.out; omega
    go_enter Tryz.func43, Tryz.ntmps43
    go_wp2
    have hb1 : Bx ((w.alloc (.cells #[.bool s, .slice (some ⟨b, off, none⟩) n nc] 26)).alloc (.cells #[.bool false, .slice none 0 0] 26)) w.heap.size (.bool s) (.slice (some ⟨b, off, none⟩) n nc) := (Bx.new _ _ _ rfl).alloc _
    have hb2 : Bx ((w.alloc (.cells #[.bool s, .slice (some ⟨b, off, none⟩) n nc] 26)).alloc (.cells #[.bool false, .slice none 0 0] 26)) (w.heap.size + 1) (.bool false) (.slice none 0 0) := Bx.new _ _ _ (World.size_alloc ..).symm
    have hbw : Below w.heap.size w ((w.alloc (.cells #[.bool s, .slice (some ⟨b, off, none⟩) n nc] 26)).alloc (.cells #[.bool false, .slice none 0 0] 26)) := ((Below.refl _ _).alloc (Nat.le_refl _) _).alloc (by simp) _
    have hsz : ((w.alloc (.cells #[.bool s, .slice (some ⟨b, off, none⟩) n nc] 26)).alloc (.cells #[.bool false, .slice none 0 0] 26)).heap.size = w.heap.size + 1 + 1 := by simp
    generalize ((w.alloc (.cells #[.bool s, .slice (some ⟨b, off, none⟩) n nc] 26)).alloc (.cells #[.bool false, .slice none 0 0] 26)) = W at *
    have HS : Hid (W.heap.size = w.heap.size + 1 + 1) := hsz
    clear hsz
    have k0 := hb1.c0
    have k1 := hb1.c1
    obtain ⟨hi, hz0, hz1, hz2⟩ := HI.out
    have hsrc : ∀ j v, ((xs.take 24).map (Value.int .u32))[j]? = some v → W.drew.cell? ((⟨b, off, none⟩ : Addr).add j) = some v := by
      obtain ⟨b', off', hp, hc⟩ := ((hX.below hbw).take 24).drew (by simp; omega)
      cases hp
      exact Rd.src hc
    go_region_held3 (fun w' => w'.cell? ⟨w.heap.size, 0, none⟩ = some (.bool s) ∧ w'.cell? ⟨w.heap.size, 1, none⟩ = some (.slice (some ⟨b, off, none⟩) n nc)) (first | (simp [go_sem, *]; done) | exact keepc2 (by assumption) (by assumption))
      (first
        | (refine step_append_lies _ rfl _ _ 24 rfl w.heap.size 88 i0 (.int .u32 0) 1 4 Tryz.underlying24 hi hz0 hz1 hz2 rfl (by decide) (.slice none 0 0) 0 [] rfl (World.ownsRow_nil _ _ _ _) ⟨b, off, none⟩ 24 nc ((xs.take 24).map (Value.int .u32)) rfl (by simp; omega) ?_ (oneCell_ca _ _) (by decide) (by unfold maxLen; decide) (by decide) hbw.size _ rfl ?_; exact hsrc; intro g cap w3 hown3 hgrow3 hat3 hlt3; have hb3 := below_of_grown (w := W.drew) hgrow3; obtain ⟨c0, c1, f0, f1⟩ := resbox (undrew hb3) hb2.c0 hb2.c1 hb2.f0 hb2.f1))
    go_wp2
    obtain rfl : g = W.heap.size := by rcases hat3 with h | h; cases h; exact h
    have hr3 : Rd w3 (some ⟨W.heap.size, 0, none⟩) .u32 (xs.take 24) := rd_owns (by simpa using hown3)
    have hs3 := HS.out
    have hcp : 24 ≤ cap ∧ cap ≤ maxLen := by
      rcases hown3.2 with ⟨h, _⟩ | ⟨g', cap', cur, h, _, _, h4, h5, _⟩
      · cases h
      · cases h; exact ⟨by omega, h5⟩
    refine bodyPost_ret (v := .agg #[.bool s, .slice (some ⟨W.heap.size, 0, none⟩) 24 cap]) (by simp [results, Tryz.results43, go_sem, c0, c1]) rfl ?_
    refine ⟨_, 24, cap, rfl, ⟨by simp; omega, hcp.1, hcp.2, by omega, ?_, u32_take hU 24⟩, by omega, from_new hbw.size, ?_⟩
    · skip
      exact (hr3.set_other _ _ (fun a ha => by cases ha; simp; omega)).set_other _ _ (fun a ha => by cases ha; simp; omega)
    · exact (((hbw.trans ((undrew hb3).mono hbw.size)).setCell (by simp) _).setCell (by simp) _)
  · have hn' : ¬ 24 < (n : Int) := by omega
    obtain rfl : k = n := by have := HX.out; omega
    have hkc : (k : Int) ≤ (nc : Int) := by omega
    have hk24 : k ≤ 24 := by omega
    go_enter Tryz.func43, Tryz.ntmps43
    go_wp2
    have hb1 : Bx ((w.alloc (.cells #[.bool s, .slice (some ⟨b, off, none⟩) k nc] 26)).alloc (.cells #[.bool false, .slice none 0 0] 26)) w.heap.size (.bool s) (.slice (some ⟨b, off, none⟩) k nc) := (Bx.new _ _ _ rfl).alloc _
    have hb2 : Bx ((w.alloc (.cells #[.bool s, .slice (some ⟨b, off, none⟩) k nc] 26)).alloc (.cells #[.bool false, .slice none 0 0] 26)) (w.heap.size + 1) (.bool false) (.slice none 0 0) := Bx.new _ _ _ (World.size_alloc ..).symm
    have hbw : Below w.heap.size w ((w.alloc (.cells #[.bool s, .slice (some ⟨b, off, none⟩) k nc] 26)).alloc (.cells #[.bool false, .slice none 0 0] 26)) := ((Below.refl _ _).alloc (Nat.le_refl _) _).alloc (by simp) _
    have hsz : ((w.alloc (.cells #[.bool s, .slice (some ⟨b, off, none⟩) k nc] 26)).alloc (.cells #[.bool false, .slice none 0 0] 26)).heap.size = w.heap.size + 1 + 1 := by simp
    generalize ((w.alloc (.cells #[.bool s, .slice (some ⟨b, off, none⟩) k nc] 26)).alloc (.cells #[.bool false, .slice none 0 0] 26)) = W at *
    have HS : Hid (W.heap.size = w.heap.size + 1 + 1) := hsz
    clear hsz
    have k0 := hb1.c0
    have k1 := hb1.c1
    obtain ⟨hi, hz0, hz1, hz2⟩ := HI.out
    have hsrc : ∀ j v, ((xs.take k).map (Value.int .u32))[j]? = some v → W.drew.cell? ((⟨b, off, none⟩ : Addr).add j) = some v := by
      obtain ⟨b', off', hp, hc⟩ := ((hX.below hbw).take k).drew (by simp; omega)
      cases hp
      exact Rd.src hc
    go_region_held3 (fun w' => w'.cell? ⟨w.heap.size, 0, none⟩ = some (.bool s) ∧ w'.cell? ⟨w.heap.size, 1, none⟩ = some (.slice (some ⟨b, off, none⟩) k nc)) (first | (simp [go_sem, *]; done) | exact keepc2 (by assumption) (by assumption))
      (first
        | (refine step_append_lies _ rfl _ _ 24 rfl w.heap.size 88 i0 (.int .u32 0) 1 4 Tryz.underlying24 hi hz0 hz1 hz2 rfl (by decide) (.slice none 0 0) 0 [] rfl (World.ownsRow_nil _ _ _ _) ⟨b, off, none⟩ k nc ((xs.take k).map (Value.int .u32)) rfl (by simp; omega) ?_ (oneCell_ca _ _) hk0 (by unfold maxLen; omega) (by omega) hbw.size _ rfl ?_; exact hsrc; intro g cap w3 hown3 hgrow3 hat3 hlt3; have hb3 := below_of_grown (w := W.drew) hgrow3; obtain ⟨c0, c1, f0, f1⟩ := resbox (undrew hb3) hb2.c0 hb2.c1 hb2.f0 hb2.f1))
    go_wp2
    obtain rfl : g = W.heap.size := by rcases hat3 with h | h; cases h; exact h
    have hr3 : Rd w3 (some ⟨W.heap.size, 0, none⟩) .u32 (xs.take k) := rd_owns (by simpa using hown3)
    have hs3 := HS.out
    have hcp : k ≤ cap ∧ cap ≤ maxLen := by
      rcases hown3.2 with ⟨h, _⟩ | ⟨g', cap', cur, h, _, _, h4, h5, _⟩
      · cases h
      · cases h; exact ⟨by omega, h5⟩
    refine bodyPost_ret (v := .agg #[.bool s, .slice (some ⟨W.heap.size, 0, none⟩) k cap]) (by simp [results, Tryz.results43, go_sem, c0, c1]) rfl ?_
    refine ⟨_, k, cap, rfl, ⟨by simp; omega, hcp.1, hcp.2, by omega, ?_, u32_take hU 24⟩, by omega, from_new hbw.size, ?_⟩
    · rw [List.take_of_length_le (l := xs) (i := k) (by omega)] at hr3
      rw [List.take_of_length_le (l := xs) (i := 24) (by omega)]
      exact (hr3.set_other _ _ (fun a ha => by cases ha; simp; omega)).set_other _ _ (fun a ha => by cases ha; simp; omega)
    · exact (((hbw.trans ((undrew hb3).mono hbw.size)).setCell (by simp) _).setCell (by simp) _)
theorem app_none (ty : TypeId) (q : Option Addr) (c : Nat) (w : World) : (Builtin.append_ #[24, 24] ty #[.slice none 0 0, .slice q 0 c]).run Tryz.prog w = .ok (.slice none 0 0) w := by
  obtain ⟨i0, hi, hzz⟩ := Option.map_eq_some_iff.1 info_u32
  cases q <;> simp [Builtin.append_, run_underlying Tryz.underlying24, sizeOf, typeInfo, hi, Builtin.lenOf, Builtin.firstCells, loadCells, loadCellsFrom]
set_option maxRecDepth 100000 in
theorem Cut_none1 (s : Bool)  (w : World) :
    Calls Tryz.prog 43 #[.agg #[.bool s, .slice none 0 0]] w (CutPost s [] w) := by
  have ha := fun ty w => app_none ty none 0 w
  go_enter Tryz.func43, Tryz.ntmps43
  go_wp2
  have hb1 : Bx ((w.alloc (.cells #[.bool s, .slice none 0 0] 26)).alloc (.cells #[.bool false, .slice none 0 0] 26)) w.heap.size (.bool s) (.slice none 0 0) := (Bx.new _ _ _ rfl).alloc _
  have hb2 : Bx ((w.alloc (.cells #[.bool s, .slice none 0 0] 26)).alloc (.cells #[.bool false, .slice none 0 0] 26)) (w.heap.size + 1) (.bool false) (.slice none 0 0) := Bx.new _ _ _ (World.size_alloc ..).symm
  have hbw : Below w.heap.size w ((w.alloc (.cells #[.bool s, .slice none 0 0] 26)).alloc (.cells #[.bool false, .slice none 0 0] 26)) := ((Below.refl _ _).alloc (Nat.le_refl _) _).alloc (by simp) _
  generalize ((w.alloc (.cells #[.bool s, .slice none 0 0] 26)).alloc (.cells #[.bool false, .slice none 0 0] 26)) = W at *
  have k0 := hb1.c0
  have k1 := hb1.c1
  have c0 := hb2.c0
  have c1 := hb2.c1
  have f0 := hb2.f0
  have f1 := hb2.f1
  go_region_held3 (fun w' => w'.cell? ⟨w.heap.size, 0, none⟩ = some (.bool s) ∧ w'.cell? ⟨w.heap.size, 1, none⟩ = some (.slice none 0 0)) (first | (simp [go_sem, *]; done) | exact keepc2 (by assumption) (by assumption)) (fail)
  go_wp2
  refine bodyPost_ret (v := .agg #[.bool s, .slice none 0 0]) (by simp [results, Tryz.results43, go_sem, c0, c1]) rfl ?_
  exact ⟨none, 0, 0, rfl, ⟨rfl, Nat.le_refl _, by unfold maxLen; decide, by decide, Rd.nil, u32_nil⟩, by decide, from_none, (hbw.drew.setCell (by simp) _).setCell (by simp) _⟩
set_option maxRecDepth 100000 in
theorem Cut_none2 (s : Bool) (a : Addr) (nc : Nat) (w : World) (hb : nc ≤ maxLen) :
    Calls Tryz.prog 43 #[.agg #[.bool s, .slice (some a) 0 nc]] w (CutPost s [] w) := by
  have hb' := hb
  unfold maxLen at hb'
  have ha := fun ty w => app_none ty (some a) nc w
  have hnc0 : (0 : Int) ≤ (nc : Int) := by omega
  go_enter Tryz.func43, Tryz.ntmps43
  go_wp2
  have hb1 : Bx ((w.alloc (.cells #[.bool s, .slice (some a) 0 nc] 26)).alloc (.cells #[.bool false, .slice none 0 0] 26)) w.heap.size (.bool s) (.slice (some a) 0 nc) := (Bx.new _ _ _ rfl).alloc _
  have hb2 : Bx ((w.alloc (.cells #[.bool s, .slice (some a) 0 nc] 26)).alloc (.cells #[.bool false, .slice none 0 0] 26)) (w.heap.size + 1) (.bool false) (.slice none 0 0) := Bx.new _ _ _ (World.size_alloc ..).symm
  have hbw : Below w.heap.size w ((w.alloc (.cells #[.bool s, .slice (some a) 0 nc] 26)).alloc (.cells #[.bool false, .slice none 0 0] 26)) := ((Below.refl _ _).alloc (Nat.le_refl _) _).alloc (by simp) _
  generalize ((w.alloc (.cells #[.bool s, .slice (some a) 0 nc] 26)).alloc (.cells #[.bool false, .slice none 0 0] 26)) = W at *
  have k0 := hb1.c0
  have k1 := hb1.c1
  have c0 := hb2.c0
  have c1 := hb2.c1
  have f0 := hb2.f0
  have f1 := hb2.f1
  go_region_held3 (fun w' => w'.cell? ⟨w.heap.size, 0, none⟩ = some (.bool s) ∧ w'.cell? ⟨w.heap.size, 1, none⟩ = some (.slice (some a) 0 nc)) (first | (simp [go_sem, *]; done) | exact keepc2 (by assumption) (by assumption)) (fail)
  go_wp2
  refine bodyPost_ret (v := .agg #[.bool s, .slice none 0 0]) (by simp [results, Tryz.results43, go_sem, c0, c1]) rfl ?_
  exact ⟨none, 0, 0, rfl, ⟨rfl, Nat.le_refl _, by unfold maxLen; decide, by decide, Rd.nil, u32_nil⟩, by decide, from_none, (hbw.drew.setCell (by simp) _).setCell (by simp) _⟩
theorem Cut_any (s : Bool) (p : Option Addr) (n nc : Nat) (xs : List Int) (w : World) (hl : xs.length = n) (hnc : n ≤ nc) (hb : nc ≤ maxLen) (hX : Rd w p .u32 xs) (hU : U32 xs) (hp : p = none → nc = 0) :
    Calls Tryz.prog 43 #[.agg #[.bool s, .slice p n nc]] w (CutPost s xs w) := by
  rcases Nat.eq_zero_or_pos n with h | h
  · subst h
    obtain rfl : xs = [] := List.eq_nil_of_length_eq_zero hl
    cases p with
    | none => rw [hp rfl]; exact Cut_none1 s w
    | some a => exact Cut_none2 s a nc w hb
  · obtain ⟨b, off, rfl, _⟩ := hX (by omega)
    exact Cut_some s b off n nc (min n 24) xs w hl hnc hb hX hU rfl (by omega)
open Go.ChangeShapes Go.WideShapes Go.ChangeAt Go.RowKit Go.Joins
theorem own : ownKnob Tryz.prog.godebug = none := by kernel_rfl
theorem laidOut : laidOutB Tryz.prog = true := by kernel_rfl
def RawE (w : World) (e : Ent) : Prop := ∃ xs, xs.length = e.n ∧ e.n ≤ e.c ∧ e.c ≤ maxLen ∧ Rd w e.p .u32 xs ∧ U32 xs ∧ (e.p = none → e.c = 0)
structure PZ (w : World) (p : Option Addr) (n nc : Nat) (es : List Ent) : Prop where
  el : es.length = n
  cap : n ≤ nc
  bnd : nc ≤ maxLen
  pn : p = none → nc = 0
  pl : PL w p es
  ev : ∀ j, j < n → RawE w (ge es j)
theorem RawE.below {w w' : World} {e : Ent} (h : RawE w e) (hb : Below w.heap.size w w') : RawE w' e := by
  obtain ⟨xs, h1, h2, h3, h4, h5, h6⟩ := h
  exact ⟨xs, h1, h2, h3, h4.below hb, h5, h6⟩
theorem PZ.below {w w' : World} {p : Option Addr} {n nc : Nat} {es : List Ent} (h : PZ w p n nc es) (hb : Below w.heap.size w w') : PZ w' p n nc es :=
  ⟨h.el, h.cap, h.bnd, h.pn, h.pl.below hb, fun j hj => (h.ev j hj).below hb⟩
theorem cellsI2 : Tryz.prog.cellsOf 26 = 2 := by kernel_rfl
theorem cellsU : Tryz.prog.cellsOf 88 = 1 := by kernel_rfl
theorem cellsUs : Tryz.prog.cellsOf 24 = 1 := by kernel_rfl
theorem cellsB : Tryz.prog.cellsOf 4 = 1 := by kernel_rfl
def entOf : Value → Value → Ent
  | .bool s, .slice p n c => ⟨s, p, n, c⟩
  | _, _ => ez
set_option maxRecDepth 100000 in
theorem rawCells {H : Type} {enc : TypeId × Value → H} {W : World} {fuel : Nat} {v0 v1 : Value} {y0 y1 : DataW H × List MemPlace}
    (hy0 : DataW.trod enc Tryz.prog W 0 (fun _ => true) true fuel 4 [v0] = some y0) (hy1 : DataW.trod enc Tryz.prog W 0 (fun _ => true) true fuel 24 [v1] = some y1) :
    v0 = .bool (entOf v0 v1).s ∧ v1 = .slice (entOf v0 v1).p (entOf v0 v1).n (entOf v0 v1).c ∧ RawE W (entOf v0 v1) := by
  obtain ⟨s, e0, -⟩ := DataW.trod_bool Tryz.underlying4 hy0
  simp only [List.cons.injEq, and_true] at e0
  subst e0
  rcases open_ints Tryz.underlying24 Tryz.underlying88 cellsU hy1 with ⟨hcs, -⟩ | ⟨a, len, cap, zs, hcs, -, hl, hm, hz, -, hcell, hwz⟩
  · simp only [List.cons.injEq, and_true] at hcs
    subst hcs
    exact ⟨rfl, rfl, [], rfl, Nat.le_refl _, Nat.zero_le _, Rd.nil, u32_nil, fun _ => rfl⟩
  · simp only [List.cons.injEq, and_true] at hcs
    subst hcs
    simp only [if_true] at hz
    refine ⟨rfl, rfl, zs.take len, by show (zs.take len).length = len; simp; omega, hl, hm, ?_, ?_, fun h => by cases h⟩
    · intro hp
      have hp' : 0 < zs.length := by simp at hp; omega
      obtain ⟨b, off, rfl, hc⟩ := ints_at hcell hp'
      refine ⟨b, off, rfl, fun j hj => ?_⟩
      have hj' : j < len ∧ j < zs.length := by simp at hj; omega
      rw [gx_take _ _ _ hj'.1]
      exact hc j hj'.2
    · refine u32_take (fun j => ?_) len
      by_cases hj : j < zs.length
      · have := hwz zs[j] (List.getElem_mem hj)
        rw [gx_mem zs j hj]
        have h4 : 0 ≤ zs[j] ∧ zs[j] ≤ 4294967295 := by
          simpa [Lit.wf, IntKind.min, IntKind.max, IntKind.signed, IntKind.bits] using this
        exact ⟨h4.1, by omega⟩
      · rw [gx_past zs _ (Nat.le_refl _) j (by omega)]; decide
set_option maxRecDepth 100000 in
theorem openPoly {H : Type} {enc : TypeId × Value → H} {W : World} {base : Nat} {v0 : Value} {d0 : DataW H} {p0 : List MemPlace} (hv : Value.okWide Tryz.prog W .any base 23 v0)
    (h0 : DataW.Trod enc Tryz.prog W 0 (fun _ => true) true 23 v0 d0 p0) : ∃ (p : Option Addr) (n nc : Nat) (es : List Ent), v0 = .slice p n nc ∧ PZ W p n nc es := by
  obtain ⟨a0, len, cap, rfl⟩ := okWide_slice Tryz.underlying23 hv
  obtain ⟨fuel, hf⟩ := h0
  rcases Go.Deep.open_slice_pairs Tryz.underlying23 Tryz.underlying26 cellsI2 rfl rfl cellsB cellsUs hf with ⟨hcs, -⟩ | ⟨a, len', cap', m, k, V0, V1, D0, D1, P0, P1, hcs, -, hl, hm, hmm, -, hcell⟩
  · simp [Value.cells] at hcs
    obtain ⟨rfl, rfl, rfl⟩ := hcs
    exact ⟨none, 0, 0, [], rfl, ⟨rfl, Nat.le_refl _, Nat.zero_le _, fun _ => rfl, PL.nil, fun j hj => absurd hj (by omega)⟩⟩
  · simp [Value.cells] at hcs
    obtain ⟨rfl, rfl, rfl⟩ := hcs
    simp only [if_true] at hmm
    have hr : ∀ i, i < len → V0 i = .bool (entOf (V0 i) (V1 i)).s ∧ V1 i = .slice (entOf (V0 i) (V1 i)).p (entOf (V0 i) (V1 i)).n (entOf (V0 i) (V1 i)).c ∧ RawE W (entOf (V0 i) (V1 i)) := fun i hi => by
      obtain ⟨-, -, g0, g1⟩ := hcell i (by omega)
      exact rawCells g0 g1
    have hge : ∀ i, i < len → ge ((List.range len).map fun i => entOf (V0 i) (V1 i)) i = entOf (V0 i) (V1 i) := fun i hi => by simp [ge, hi]
    refine ⟨some a, len, cap, (List.range len).map fun i => entOf (V0 i) (V1 i), rfl, ⟨by simp, hl, hm, nofun, ?_, fun j hj => by rw [hge j hj]; exact (hr j hj).2.2⟩⟩
    intro hp
    have hp' : 0 < len := by simpa using hp
    obtain ⟨b, off, spot⟩ := a
    have hspot : spot = none := by simpa [Addr.add] using World.cell?_spot (hcell 0 (by omega)).1
    subst hspot
    refine ⟨b, off, rfl, fun j hj => ?_⟩
    have hj' : j < len := by simpa using hj
    obtain ⟨c0, c1, -, -⟩ := hcell j (by omega)
    obtain ⟨e0, e1, -⟩ := hr j hj'
    rw [hge j hj', ← e0, ← e1]
    rw [add_plain] at c0 c1
    exact ⟨c0, c1⟩
set_option maxRecDepth 100000 in
theorem rpAt_neg {w : World} (p : Option Addr) (n nc : Nat) :
    Calls Tryz.prog 194 #[.slice p n nc, .int .i64 (-1)] w fun r w' => ∃ u : Ent, r = .returned (.agg #[.bool u.s, .slice u.p u.n u.c]) ∧ RE w' 4 0 u ∧ Go.Proofs.YtejnhpjejcpekaaGreatDoor.From (w.heap.size + 1) u.p ∧ Below w.heap.size w w' := by
  have hal := bel_al (o := .cells #[.bool false, .slice none 0 0] 34) (Below.refl w.heap.size w)
  have hX : Bx (w.alloc (.cells #[.bool false, .slice none 0 0] 34)) w.heap.size (.bool false) (.slice none 0 0) := Bx.new _ _ _ rfl
  go_enter Tryz.func194, Tryz.ntmps194
  go_upto_region 1 with fail
  generalize w.alloc (.cells #[.bool false, .slice none 0 0] 34) = W at *
  go_wp2_with fail
  refine (rOf_e 0 _ (by decide) (by decide)).mono ?_
  rintro e w1 ⟨u, rfl, hO, hF, hb1⟩
  obtain ⟨r0, r1, f0, f1⟩ := hX.later hb1
  have hlt : w.heap.size < W.heap.size := block_lt_of_cell hX.c0
  have hB := bnext' hal hb1
  go_wp2
  refine bodyPost_ret (v := .agg #[.bool u.s, .slice u.p u.n u.c]) (by simp [results, Tryz.results194, go_sem, r0, r1]) rfl ⟨u, rfl, ?_, fun a ha => Nat.le_trans hlt (hF a ha), bset2 hB (Nat.le_refl _) _ _⟩
  exact hO.set2 (fun _ a ha => by have := hF a ha; omega)
set_option maxRecDepth 100000 in
theorem rpLead_none {w : World} (p : Option Addr) (nc : Nat) :
    Calls Tryz.prog 110 #[.slice p 0 nc] w fun r w' => ∃ u : Ent, r = .returned (.agg #[.bool u.s, .slice u.p u.n u.c]) ∧ RE w' 4 0 u ∧ Below w.heap.size w w' := by
  have hal := bel_al (o := .cells #[.bool false, .slice none 0 0] 34) (Below.refl w.heap.size w)
  have hX : Bx (w.alloc (.cells #[.bool false, .slice none 0 0] 34)) w.heap.size (.bool false) (.slice none 0 0) := Bx.new _ _ _ rfl
  have ha := rpAt_neg (w := w.alloc (.cells #[.bool false, .slice none 0 0] 34)) p 0 nc
  go_enter Tryz.func110, Tryz.ntmps110
  go_upto_region 1 with fail
  generalize w.alloc (.cells #[.bool false, .slice none 0 0] 34) = W at *
  go_wp2_with fail
  refine ha.mono ?_
  rintro r w1 ⟨u, rfl, hO, hF, hb1⟩
  obtain ⟨r0, r1, f0, f1⟩ := hX.later hb1
  have hlt : w.heap.size < W.heap.size := block_lt_of_cell hX.c0
  clear ha
  go_wp2
  refine bodyPost_ret (v := .agg #[.bool u.s, .slice u.p u.n u.c]) (by simp [results, Tryz.results110, go_sem, r0, r1]) rfl ⟨u, rfl, ?_, bset2 (bnext' hal hb1) (Nat.le_refl _) _ _⟩
  exact hO.set2 (fun _ a ha => by have := hF a ha; omega)
theorem rpLead_any {w : World} {N : Nat} {p : Option Addr} {n nc : Nat} {es : List Ent} {zs : List Int} (h : PR w N p n nc es zs) (hn : n ≤ 1000000) (hN : 4 ≤ N) :
    Calls Tryz.prog 110 #[.slice p n nc] w fun r w' => ∃ u : Ent, r = .returned (.agg #[.bool u.s, .slice u.p u.n u.c]) ∧ RE w' N (gx zs (n - 1)) u ∧ Below w.heap.size w w' := by
  rcases Nat.eq_zero_or_pos n with h0 | h0
  · subst h0
    refine (rpLead_none p nc).mono ?_
    rintro r w1 ⟨u, rfl, hu, hb⟩
    rw [gx_past zs 0 (by rw [h.zl]; exact Nat.le_refl _) _ (Nat.zero_le _)]
    exact ⟨u, rfl, hu.wide hN, hb⟩
  · refine (rpLead_in h h0 hn).mono ?_
    rintro r w1 ⟨rfl, hb⟩
    exact ⟨_, rfl, (h.ev _ (by omega)).below hb, hb⟩
theorem PR.gset {w : World} {N : Nat} {p : Option Addr} {n nc : Nat} {es : List Ent} {zs : List Int} {g o : Nat} {u v : Value} (h : PR w N p n nc es zs) (hp : 0 < n → Off g p) (hq : ∀ j, j < n → 0 < (ge es j).n → Off g (ge es j).p) : PR ((w.setCell ⟨g, o, none⟩ u).setCell ⟨g, o + 1, none⟩ v) N p n nc es zs := by
  refine ⟨h.el, h.zl, h.cap, h.bnd, ?_, fun j hj => (h.ev j hj).set2 (hq j hj)⟩
  intro hx
  have h0 := hp (by rw [← h.el]; exact hx)
  exact ((h.pl.set_other ⟨g, o, none⟩ u h0).set_other ⟨g, o + 1, none⟩ v h0) hx
theorem PA.lt {w : World} {K : Nat} {p : Option Addr} {n nc : Nat} {es : List Ent} {zs : List Int} (h : PA w K p n nc es zs) (i : Nat) : ((gx zs i).natAbs : Int) < pw K := by
  rcases Nat.lt_or_ge i n with hi | hi
  · obtain ⟨xs, h1, h2, h3⟩ := h.ev i hi
    rw [← h2]
    exact Int.lt_of_lt_of_le (h1.lt _) (pw_mono h3)
  · rw [gx_past zs n (by rw [h.zl]; exact Nat.le_refl _) i hi]
    exact pw_pos K
set_option maxRecDepth 100000 in
theorem rpDeg_any (p : Option Addr) (n nc : Nat) (w : World) (hn : n ≤ 1000000) :
    Calls Tryz.prog 50 #[.slice p n nc] w fun r w' => r = .returned (.int .i64 ((n : Int) - 1)) ∧ Below w.heap.size w w' := by
  have v1 : IntKind.i64.wrap ((n : Int) - 1) = (n : Int) - 1 := by rw [IntKind.wrap_i64]; omega
  go_enter Tryz.func50, Tryz.ntmps50
  go_wp2
  go_ret
  exact ⟨rfl, Below.refl _ _⟩
theorem RE.fit' {w : World} {N M : Nat} {z : Int} {e : Ent} (h : RE w N z e) (hz : (z.natAbs : Int) < pw M) : RE w (2 * M) z e := by
  obtain ⟨⟨ds, h1, h2, h3⟩, h4⟩ := h
  subst h2
  exact ⟨⟨ds, h1, rfl, h1.fit (by rw [pd_two]; exact hz)⟩, h4⟩
theorem PR.fit {w : World} {N M : Nat} {p : Option Addr} {n nc : Nat} {es : List Ent} {zs : List Int} (h : PR w N p n nc es zs) (hz : ∀ t, ((gx zs t).natAbs : Int) < pw M) : PR w (2 * M) p n nc es zs :=
  ⟨h.el, h.zl, h.cap, h.bnd, h.pl, fun j hj => (h.ev j hj).fit' (hz j)⟩
theorem rQuo_goes {w : World} {N M : Nat} {x y : Int} {e f : Ent} (h : RE w N x e) (k : RE w M y f) (hy : y ≠ 0) (hd : y ∣ x) (hN : N ≤ 1000) (hM : M ≤ 1000) :
    Calls Tryz.prog 109 #[.agg #[.bool e.s, .slice e.p e.n e.c], .agg #[.bool f.s, .slice f.p f.n f.c]] w fun r w' => ∃ (u : Ent) (p2 : Option Addr), r = .returned (.tuple #[.agg #[.bool u.s, .slice u.p u.n u.c], .agg #[.bool false, .slice p2 0 0]]) ∧ RE w' N (x / y) u ∧ Go.Proofs.YtejnhpjejcpekaaGreatDoor.From w.heap.size u.p ∧ Below w.heap.size w w' := by
  have hb := h.1.bd
  obtain ⟨⟨ds, h1, rfl, h3⟩, h4⟩ := h
  obtain ⟨⟨es, k1, rfl, k3⟩, k4⟩ := k
  rw [h4, k4]
  have hx : ∃ c, vd ds = c * vd es := by
    obtain ⟨c, hc⟩ := hd
    rw [rval_abs e.s h1.u, rval_abs f.s k1.u, hc, Int.natAbs_mul]
    exact ⟨(c.natAbs : Int), by push_cast; rw [Int.mul_comm]⟩
  have hm0 : 0 < f.n := by
    rcases Nat.eq_zero_or_pos f.n with h0 | h0
    · exfalso
      apply hy
      have : vd es = 0 := (tlen_zero_iff16 k1.u).1 (by rw [k1.nrm, h0])
      unfold rval
      split <;> omega
    · exact h0
  refine (rQuo_s e.s f.s e.p f.p e.n f.n ds es w h1 k1 (by omega) (by omega) hm0 hx).mono ?_
  rintro r w' ⟨s1, p1, n1, d1, p2, g1, g2, g3, g4, g5⟩
  have g6 : rval e.s ds / rval f.s es = rval s1 d1 := by rw [← g3, Int.mul_ediv_cancel _ hy]
  have hle : n1 ≤ N := g2.fit (by
    rw [← g6]
    have := Int.natAbs_ediv_le_natAbs (rval e.s ds) (rval f.s es)
    omega)
  rw [g6]
  exact ⟨⟨s1, p1, n1, n1⟩, p2, g1, ⟨⟨d1, g2, rfl, hle⟩, rfl⟩, g4, g5⟩
theorem re_none (w : World) (p : Option Addr) : RE w 0 0 ⟨false, p, 0, 0⟩ := ⟨⟨[], ⟨rfl, Rd.nil, fun j => by simp [gx], rfl, fun _ => rfl, Nat.zero_le _⟩, rfl, Nat.zero_le _⟩, rfl⟩
def slLen : Value → Nat
  | .slice _ n _ => n
  | _ => 0
structure RX (w wr : World) (xs ys : List Int) (n m k j : Nat) (pq pr : Option Addr) (nq nr : Nat) (eq er : List Ent) (qz rz : List Int) : Prop where
  q : PR wr 100 pq nq nq eq qz
  r : PR wr 100 pr nr nr er rz
  qn : tlen qz = nq
  rn : tlen rz = nr
  e : ∀ t, gx xs t = gx (mulp qz ys) t + gx rz t
  qb : ∀ t, ((gx qz t).natAbs : Int) < pw (4 + 5 * j)
  rb : ∀ t, ((gx rz t).natAbs : Int) < pw (4 + 5 * j)
  le : nr + j ≤ n
  ql : nq ≤ k
  bw : Below w.heap.size w wr
theorem RX.later {w wr w' : World} {xs ys : List Int} {n m k j : Nat} {pq pr : Option Addr} {nq nr : Nat} {eq er : List Ent} {qz rz : List Int} (h : RX w wr xs ys n m k j pq pr nq nr eq er qz rz) (hb : Below wr.heap.size wr w') : RX w w' xs ys n m k j pq pr nq nr eq er qz rz :=
  ⟨h.q.below hb, h.r.below hb, h.qn, h.rn, h.e, h.qb, h.rb, h.le, h.ql, bnext' h.bw hb⟩
theorem PR.lt' {w : World} {N : Nat} {p : Option Addr} {n nc : Nat} {es : List Ent} {zs : List Int} (h : PR w N p n nc es zs) {g : Nat} (hg : w.heap.size ≤ g) : (0 < n → Off g p) ∧ ∀ j, j < n → 0 < (ge es j).n → Off g (ge es j).p := by
  refine ⟨fun h0 a ha e => ?_, fun j hj h0 a ha e => ?_⟩
  · obtain ⟨b, o, hp, hlt⟩ := h.pl.lt (by rw [h.el]; exact h0)
    rw [hp] at ha
    cases ha
    dsimp only at e
    omega
  · have := (lasts_RE N).lt (h.ev j hj) h0 a ha
    omega
def mono (d : Nat) (c : Int) : List Int := zeros d ++ [c]
theorem length_mono (d : Nat) (c : Int) : (mono d c).length = d + 1 := by simp [mono, zeros]
theorem gx_mono (d : Nat) (c : Int) (t : Nat) : gx (mono d c) t = if t = d then c else 0 := by
  have hl : (zeros d).length = d := length_zeros d
  rw [mono]
  rcases Nat.lt_or_ge t d with h | h
  · rw [gx_append_left _ _ _ (by omega), gx_zeros, if_neg (by omega)]
  · rw [gx_append_right _ _ _ (by omega), hl]
    by_cases h1 : t = d
    · subst h1; rw [Nat.sub_self, if_pos rfl]; rfl
    · rw [if_neg h1]
      exact gx_past [c] 1 (Nat.le_refl _) _ (by omega)
theorem mono_nrm {d : Nat} {c : Int} (h : c ≠ 0) : tlen (mono d c) = d + 1 := tlen_eq _ _ (fun j hj => gx_past _ (d + 1) (by rw [length_mono]; exact Nat.le_refl _) j hj) (.inr (by rw [Nat.add_sub_cancel, gx_mono, if_pos rfl]; exact h))
def RxP (xs ys : List Int) (w : World) (r : Ending) (w' : World) : Prop :=
  ((∃ (p : Option Addr) (n : Nat) (es : List Ent) (qz : List Int), r = .returned (.tuple #[.slice p n n, .bool true]) ∧ PR w' 100 p n n es qz ∧ tlen qz = n ∧ n ≤ 9 ∧ ∀ t, gx xs t = gx (mulp qz ys) t) ∨ (∃ (p : Option Addr) (n c : Nat), r = .returned (.tuple #[.slice p n c, .bool false]) ∧ ¬ Dvd xs ys)) ∧ Below w.heap.size w w'
end Go.Proofs.YtejnhpjejcpekaaGreatDoor
