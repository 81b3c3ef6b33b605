/-
  ashlarlaw1.Cut: the lowest 24 limbs, in memory of their own.
-/
import Derived.Test.YtifebbacnlhggaaGreatDoorWhPnWkWlBxBbCvNjUbUcUdOw
import Derived.Test.YtifebbacnlhggaaGreatDoorPlMmNaWa
import Derived.Test.YtifebbacnlhggaaGreatDoorProg
import Derived.ProofKit
import Derived.OpenShut
import Derived.Lib.SmallJoins
import Derived.Lay
import Derived.LaidOnce
import Derived.SevenTiedAt
import Derived.Test.YtifebbacnlhggaaGreatDoorNiUa
import Derived.Deep.SlicePairs
import Derived.Test.YtifebbacnlhggaaGreatDoorQcQdQgQhGfGgUnWfUuByDqUxUtUvUwUyUzUrUsHaHbHcWvUhHeVv
import Derived.Test.YtifebbacnlhggaaGreatDoorRkVq
import Derived.Test.YtifebbacnlhggaaGreatDoorFyUjBsLeUk
import Derived.Test.YtifebbacnlhggaaGreatDoorUlDdReRxRfRhCqRrRw
import Derived.Test.YtifebbacnlhggaaGreatDoorVbDaCxRbCyViVuWxUpUqRm
namespace Go.Proofs.YtifebbacnlhggaaGreatDoor
open Go.RowKit
set_option linter.unusedVariables false
set_option linter.unusedSimpArgs false

/-- What Cut answers. -/
def CutPost (s : Bool) (xs : List Int) (w : World) (e : Ending) (w' : World) : Prop :=
  ∃ p' n' nc', e = .returned (.agg #[.bool s, .slice p' n' nc']) ∧ AI w' p' n' nc' (xs.take 24) ∧ n' ≤ 24 ∧ From w.heap.size p' ∧ Below w.heap.size w w'

set_option maxHeartbeats 1000000 in
set_option maxRecDepth 100000 in
theorem Cut_some (s : Bool) (b off n nc k : Nat) (xs : List Int) (w : World) (hl : xs.length = n) (hnc : n ≤ nc) (hb : nc ≤ maxLen) (hX : Rd w (some ⟨b, off, none⟩) .u32 xs) (hU : U32 xs) (hk : k = min n 24) (hk0 : 0 < k) :
    Calls Tryz.prog 44 #[.agg #[.bool s, .slice (some ⟨b, off, none⟩) n nc]] w (CutPost s xs w) := by
  have hb' := hb
  unfold maxLen at hb'
  obtain ⟨i0, hi, hzz⟩ := Option.map_eq_some_iff.1 info_u32
  simp only [Prod.mk.injEq] at hzz
  obtain ⟨hz0, hz1, hz2⟩ := hzz
  have HI : Hid (Tryz.prog.info? 81 = some i0 ∧ i0.zero = some (.int .u32 0) ∧ i0.size = 1 ∧ i0.bytes = 4) := ⟨hi, hz0, hz1, hz2⟩
  clear hi hz0 hz1 hz2
  have HX : Hid (k = min n 24) := hk
  clear hk
  by_cases hn : 24 < n
  · have hn' : 24 < (n : Int) := by omega
    have h24 : (24 : Int) ≤ (nc : Int) := by omega
    have h24n : 24 ≤ nc := by omega
    have h24m : (24 : Int) ≤ (n : Int) := by omega
    obtain rfl : k = 24 := by have := HX.out; omega
    go_enter Tryz.func44, Tryz.ntmps44
    go_wp2
    have hb1 : Bx ((w.alloc (.cells #[.bool s, .slice (some ⟨b, off, none⟩) n nc] 24)).alloc (.cells #[.bool false, .slice none 0 0] 24)) w.heap.size (.bool s) (.slice (some ⟨b, off, none⟩) n nc) := (Bx.new _ _ _ rfl).alloc _
    have hb2 : Bx ((w.alloc (.cells #[.bool s, .slice (some ⟨b, off, none⟩) n nc] 24)).alloc (.cells #[.bool false, .slice none 0 0] 24)) (w.heap.size + 1) (.bool false) (.slice none 0 0) := Bx.new _ _ _ (World.size_alloc ..).symm
    have hbw : Below w.heap.size w ((w.alloc (.cells #[.bool s, .slice (some ⟨b, off, none⟩) n nc] 24)).alloc (.cells #[.bool false, .slice none 0 0] 24)) := ((Below.refl _ _).alloc (Nat.le_refl _) _).alloc (by simp) _
    have hsz : ((w.alloc (.cells #[.bool s, .slice (some ⟨b, off, none⟩) n nc] 24)).alloc (.cells #[.bool false, .slice none 0 0] 24)).heap.size = w.heap.size + 1 + 1 := by simp
    generalize ((w.alloc (.cells #[.bool s, .slice (some ⟨b, off, none⟩) n nc] 24)).alloc (.cells #[.bool false, .slice none 0 0] 24)) = W at *
    have HS : Hid (W.heap.size = w.heap.size + 1 + 1) := hsz
    clear hsz
    have k0 := hb1.c0
    have k1 := hb1.c1
    obtain ⟨hi, hz0, hz1, hz2⟩ := HI.out
    have hsrc : ∀ j v, ((xs.take 24).map (Value.int .u32))[j]? = some v → W.drew.cell? ((⟨b, off, none⟩ : Addr).add j) = some v := by
      obtain ⟨b', off', hp, hc⟩ := ((hX.below hbw).take 24).drew (by simp; omega)
      cases hp
      exact Rd.src hc
    go_region_held3 (fun w' => w'.cell? ⟨w.heap.size, 0, none⟩ = some (.bool s) ∧ w'.cell? ⟨w.heap.size, 1, none⟩ = some (.slice (some ⟨b, off, none⟩) n nc)) (first | (simp [go_sem, *]; done) | exact keepc2 (by assumption) (by assumption))
      (first
        | (refine step_append_lies _ rfl _ _ 22 rfl w.heap.size 81 i0 (.int .u32 0) 1 4 Tryz.underlying22 hi hz0 hz1 hz2 rfl (by decide) (.slice none 0 0) 0 [] rfl (World.ownsRow_nil _ _ _ _) ⟨b, off, none⟩ 24 nc ((xs.take 24).map (Value.int .u32)) rfl (by simp; omega) ?_ (oneCell_ca _ _) (by decide) (by unfold maxLen; decide) (by decide) hbw.size _ rfl ?_; exact hsrc; intro g cap w3 hown3 hgrow3 hat3 hlt3; have hb3 := below_of_grown (w := W.drew) hgrow3; obtain ⟨c0, c1, f0, f1⟩ := resbox (undrew hb3) hb2.c0 hb2.c1 hb2.f0 hb2.f1))
    go_wp2
    obtain rfl : g = W.heap.size := by rcases hat3 with h | h; cases h; exact h
    have hr3 : Rd w3 (some ⟨W.heap.size, 0, none⟩) .u32 (xs.take 24) := rd_owns (by simpa using hown3)
    have hs3 := HS.out
    have hcp : 24 ≤ cap ∧ cap ≤ maxLen := by
      rcases hown3.2 with ⟨h, _⟩ | ⟨g', cap', cur, h, _, _, h4, h5, _⟩
      · cases h
      · cases h; exact ⟨by omega, h5⟩
    refine bodyPost_ret (v := .agg #[.bool s, .slice (some ⟨W.heap.size, 0, none⟩) 24 cap]) (by simp [results, Tryz.results44, go_sem, c0, c1]) rfl ?_
    refine ⟨_, 24, cap, rfl, ⟨by simp; omega, hcp.1, hcp.2, by omega, ?_, u32_take hU 24⟩, by omega, from_new hbw.size, ?_⟩
    · skip
      exact (hr3.set_other _ _ (fun a ha => by cases ha; simp; omega)).set_other _ _ (fun a ha => by cases ha; simp; omega)
    · exact (((hbw.trans ((undrew hb3).mono hbw.size)).setCell (by simp) _).setCell (by simp) _)
  · have hn' : ¬ 24 < (n : Int) := by omega
    obtain rfl : k = n := by have := HX.out; omega
    have hkc : (k : Int) ≤ (nc : Int) := by omega
    have hk24 : k ≤ 24 := by omega
    go_enter Tryz.func44, Tryz.ntmps44
    go_wp2
    have hb1 : Bx ((w.alloc (.cells #[.bool s, .slice (some ⟨b, off, none⟩) k nc] 24)).alloc (.cells #[.bool false, .slice none 0 0] 24)) w.heap.size (.bool s) (.slice (some ⟨b, off, none⟩) k nc) := (Bx.new _ _ _ rfl).alloc _
    have hb2 : Bx ((w.alloc (.cells #[.bool s, .slice (some ⟨b, off, none⟩) k nc] 24)).alloc (.cells #[.bool false, .slice none 0 0] 24)) (w.heap.size + 1) (.bool false) (.slice none 0 0) := Bx.new _ _ _ (World.size_alloc ..).symm
    have hbw : Below w.heap.size w ((w.alloc (.cells #[.bool s, .slice (some ⟨b, off, none⟩) k nc] 24)).alloc (.cells #[.bool false, .slice none 0 0] 24)) := ((Below.refl _ _).alloc (Nat.le_refl _) _).alloc (by simp) _
    have hsz : ((w.alloc (.cells #[.bool s, .slice (some ⟨b, off, none⟩) k nc] 24)).alloc (.cells #[.bool false, .slice none 0 0] 24)).heap.size = w.heap.size + 1 + 1 := by simp
    generalize ((w.alloc (.cells #[.bool s, .slice (some ⟨b, off, none⟩) k nc] 24)).alloc (.cells #[.bool false, .slice none 0 0] 24)) = W at *
    have HS : Hid (W.heap.size = w.heap.size + 1 + 1) := hsz
    clear hsz
    have k0 := hb1.c0
    have k1 := hb1.c1
    obtain ⟨hi, hz0, hz1, hz2⟩ := HI.out
    have hsrc : ∀ j v, ((xs.take k).map (Value.int .u32))[j]? = some v → W.drew.cell? ((⟨b, off, none⟩ : Addr).add j) = some v := by
      obtain ⟨b', off', hp, hc⟩ := ((hX.below hbw).take k).drew (by simp; omega)
      cases hp
      exact Rd.src hc
    go_region_held3 (fun w' => w'.cell? ⟨w.heap.size, 0, none⟩ = some (.bool s) ∧ w'.cell? ⟨w.heap.size, 1, none⟩ = some (.slice (some ⟨b, off, none⟩) k nc)) (first | (simp [go_sem, *]; done) | exact keepc2 (by assumption) (by assumption))
      (first
        | (refine step_append_lies _ rfl _ _ 22 rfl w.heap.size 81 i0 (.int .u32 0) 1 4 Tryz.underlying22 hi hz0 hz1 hz2 rfl (by decide) (.slice none 0 0) 0 [] rfl (World.ownsRow_nil _ _ _ _) ⟨b, off, none⟩ k nc ((xs.take k).map (Value.int .u32)) rfl (by simp; omega) ?_ (oneCell_ca _ _) hk0 (by unfold maxLen; omega) (by omega) hbw.size _ rfl ?_; exact hsrc; intro g cap w3 hown3 hgrow3 hat3 hlt3; have hb3 := below_of_grown (w := W.drew) hgrow3; obtain ⟨c0, c1, f0, f1⟩ := resbox (undrew hb3) hb2.c0 hb2.c1 hb2.f0 hb2.f1))
    go_wp2
    obtain rfl : g = W.heap.size := by rcases hat3 with h | h; cases h; exact h
    have hr3 : Rd w3 (some ⟨W.heap.size, 0, none⟩) .u32 (xs.take k) := rd_owns (by simpa using hown3)
    have hs3 := HS.out
    have hcp : k ≤ cap ∧ cap ≤ maxLen := by
      rcases hown3.2 with ⟨h, _⟩ | ⟨g', cap', cur, h, _, _, h4, h5, _⟩
      · cases h
      · cases h; exact ⟨by omega, h5⟩
    refine bodyPost_ret (v := .agg #[.bool s, .slice (some ⟨W.heap.size, 0, none⟩) k cap]) (by simp [results, Tryz.results44, go_sem, c0, c1]) rfl ?_
    refine ⟨_, k, cap, rfl, ⟨by simp; omega, hcp.1, hcp.2, by omega, ?_, u32_take hU 24⟩, by omega, from_new hbw.size, ?_⟩
    · rw [List.take_of_length_le (l := xs) (i := k) (by omega)] at hr3
      rw [List.take_of_length_le (l := xs) (i := 24) (by omega)]
      exact (hr3.set_other _ _ (fun a ha => by cases ha; simp; omega)).set_other _ _ (fun a ha => by cases ha; simp; omega)
    · exact (((hbw.trans ((undrew hb3).mono hbw.size)).setCell (by simp) _).setCell (by simp) _)

theorem app_none (ty : TypeId) (q : Option Addr) (c : Nat) (w : World) : (Builtin.append_ #[22, 22] ty #[.slice none 0 0, .slice q 0 c]).run Tryz.prog w = .ok (.slice none 0 0) w := by
  obtain ⟨i0, hi, hzz⟩ := Option.map_eq_some_iff.1 info_u32
  cases q <;> simp [Builtin.append_, run_underlying Tryz.underlying22, sizeOf, typeInfo, hi, Builtin.lenOf, Builtin.firstCells, loadCells, loadCellsFrom]

set_option maxRecDepth 100000 in
set_option maxHeartbeats 1000000 in
theorem Cut_none1 (s : Bool)  (w : World) :
    Calls Tryz.prog 44 #[.agg #[.bool s, .slice none 0 0]] w (CutPost s [] w) := by
  have ha := fun ty w => app_none ty none 0 w
  go_enter Tryz.func44, Tryz.ntmps44
  go_wp2
  have hb1 : Bx ((w.alloc (.cells #[.bool s, .slice none 0 0] 24)).alloc (.cells #[.bool false, .slice none 0 0] 24)) w.heap.size (.bool s) (.slice none 0 0) := (Bx.new _ _ _ rfl).alloc _
  have hb2 : Bx ((w.alloc (.cells #[.bool s, .slice none 0 0] 24)).alloc (.cells #[.bool false, .slice none 0 0] 24)) (w.heap.size + 1) (.bool false) (.slice none 0 0) := Bx.new _ _ _ (World.size_alloc ..).symm
  have hbw : Below w.heap.size w ((w.alloc (.cells #[.bool s, .slice none 0 0] 24)).alloc (.cells #[.bool false, .slice none 0 0] 24)) := ((Below.refl _ _).alloc (Nat.le_refl _) _).alloc (by simp) _
  generalize ((w.alloc (.cells #[.bool s, .slice none 0 0] 24)).alloc (.cells #[.bool false, .slice none 0 0] 24)) = W at *
  have k0 := hb1.c0
  have k1 := hb1.c1
  have c0 := hb2.c0
  have c1 := hb2.c1
  have f0 := hb2.f0
  have f1 := hb2.f1
  go_region_held3 (fun w' => w'.cell? ⟨w.heap.size, 0, none⟩ = some (.bool s) ∧ w'.cell? ⟨w.heap.size, 1, none⟩ = some (.slice none 0 0)) (first | (simp [go_sem, *]; done) | exact keepc2 (by assumption) (by assumption)) (fail)
  go_wp2
  refine bodyPost_ret (v := .agg #[.bool s, .slice none 0 0]) (by simp [results, Tryz.results44, go_sem, c0, c1]) rfl ?_
  exact ⟨none, 0, 0, rfl, ⟨rfl, Nat.le_refl _, by unfold maxLen; decide, by decide, Rd.nil, u32_nil⟩, by decide, from_none, (hbw.drew.setCell (by simp) _).setCell (by simp) _⟩

set_option maxRecDepth 100000 in
set_option maxHeartbeats 1000000 in
theorem Cut_none2 (s : Bool) (a : Addr) (nc : Nat) (w : World) (hb : nc ≤ maxLen) :
    Calls Tryz.prog 44 #[.agg #[.bool s, .slice (some a) 0 nc]] w (CutPost s [] w) := by
  have hb' := hb
  unfold maxLen at hb'
  have ha := fun ty w => app_none ty (some a) nc w
  have hnc0 : (0 : Int) ≤ (nc : Int) := by omega
  go_enter Tryz.func44, Tryz.ntmps44
  go_wp2
  have hb1 : Bx ((w.alloc (.cells #[.bool s, .slice (some a) 0 nc] 24)).alloc (.cells #[.bool false, .slice none 0 0] 24)) w.heap.size (.bool s) (.slice (some a) 0 nc) := (Bx.new _ _ _ rfl).alloc _
  have hb2 : Bx ((w.alloc (.cells #[.bool s, .slice (some a) 0 nc] 24)).alloc (.cells #[.bool false, .slice none 0 0] 24)) (w.heap.size + 1) (.bool false) (.slice none 0 0) := Bx.new _ _ _ (World.size_alloc ..).symm
  have hbw : Below w.heap.size w ((w.alloc (.cells #[.bool s, .slice (some a) 0 nc] 24)).alloc (.cells #[.bool false, .slice none 0 0] 24)) := ((Below.refl _ _).alloc (Nat.le_refl _) _).alloc (by simp) _
  generalize ((w.alloc (.cells #[.bool s, .slice (some a) 0 nc] 24)).alloc (.cells #[.bool false, .slice none 0 0] 24)) = W at *
  have k0 := hb1.c0
  have k1 := hb1.c1
  have c0 := hb2.c0
  have c1 := hb2.c1
  have f0 := hb2.f0
  have f1 := hb2.f1
  go_region_held3 (fun w' => w'.cell? ⟨w.heap.size, 0, none⟩ = some (.bool s) ∧ w'.cell? ⟨w.heap.size, 1, none⟩ = some (.slice (some a) 0 nc)) (first | (simp [go_sem, *]; done) | exact keepc2 (by assumption) (by assumption)) (fail)
  go_wp2
  refine bodyPost_ret (v := .agg #[.bool s, .slice none 0 0]) (by simp [results, Tryz.results44, go_sem, c0, c1]) rfl ?_
  exact ⟨none, 0, 0, rfl, ⟨rfl, Nat.le_refl _, by unfold maxLen; decide, by decide, Rd.nil, u32_nil⟩, by decide, from_none, (hbw.drew.setCell (by simp) _).setCell (by simp) _⟩

/-- ashlarlaw1.Cut. -/
theorem Cut_any (s : Bool) (p : Option Addr) (n nc : Nat) (xs : List Int) (w : World) (hl : xs.length = n) (hnc : n ≤ nc) (hb : nc ≤ maxLen) (hX : Rd w p .u32 xs) (hU : U32 xs) (hp : p = none → nc = 0) :
    Calls Tryz.prog 44 #[.agg #[.bool s, .slice p n nc]] w (CutPost s xs w) := by
  rcases Nat.eq_zero_or_pos n with h | h
  · subst h
    obtain rfl : xs = [] := List.eq_nil_of_length_eq_zero hl
    cases p with
    | none => rw [hp rfl]; exact Cut_none1 s w
    | some a => exact Cut_none2 s a nc w hb
  · obtain ⟨b, off, rfl, _⟩ := hX (by omega)
    exact Cut_some s b off n nc (min n 24) xs w hl hnc hb hX hU rfl (by omega)
end Go.Proofs.YtifebbacnlhggaaGreatDoor
/-
  Arguments, read as data: what every card wants.
-/
namespace Go.Proofs.YtifebbacnlhggaaGreatDoor
open Go.ChangeShapes Go.WideShapes Go.ChangeAt Go.RowKit Go.Joins
set_option linter.unusedVariables false
set_option linter.unusedSimpArgs false

theorem own : ownKnob Tryz.prog.godebug = none := by kernel_rfl
theorem laidOut : laidOutB Tryz.prog = true := by kernel_rfl
end Go.Proofs.YtifebbacnlhggaaGreatDoor
/-
  What an argument of type api.Poly is, read as data.
-/
namespace Go.Proofs.YtifebbacnlhggaaGreatDoor
open Go.ChangeShapes Go.WideShapes Go.ChangeAt Go.RowKit Go.Joins
set_option linter.unusedVariables false
set_option linter.unusedSimpArgs false

/-- An element as it may be handed in. -/
def RawE (w : World) (e : Ent) : Prop := ∃ xs, xs.length = e.n ∧ e.n ≤ e.c ∧ e.c ≤ maxLen ∧ Rd w e.p .u32 xs ∧ U32 xs ∧ (e.p = none → e.c = 0)
/-- A polynomial as it may be handed in. -/
structure PZ (w : World) (p : Option Addr) (n nc : Nat) (es : List Ent) : Prop where
  el : es.length = n
  cap : n ≤ nc
  bnd : nc ≤ maxLen
  pn : p = none → nc = 0
  pl : PL w p es
  ev : ∀ j, j < n → RawE w (ge es j)
theorem RawE.below {w w' : World} {e : Ent} (h : RawE w e) (hb : Below w.heap.size w w') : RawE w' e := by
  obtain ⟨xs, h1, h2, h3, h4, h5, h6⟩ := h
  exact ⟨xs, h1, h2, h3, h4.below hb, h5, h6⟩
theorem PZ.below {w w' : World} {p : Option Addr} {n nc : Nat} {es : List Ent} (h : PZ w p n nc es) (hb : Below w.heap.size w w') : PZ w' p n nc es :=
  ⟨h.el, h.cap, h.bnd, h.pn, h.pl.below hb, fun j hj => (h.ev j hj).below hb⟩
theorem cellsI2 : Tryz.prog.cellsOf 24 = 2 := by kernel_rfl
theorem cellsU : Tryz.prog.cellsOf 81 = 1 := by kernel_rfl
theorem cellsUs : Tryz.prog.cellsOf 22 = 1 := by kernel_rfl
theorem cellsB : Tryz.prog.cellsOf 4 = 1 := by kernel_rfl
/-- The element of two cells. -/
def entOf : Value → Value → Ent
  | .bool s, .slice p n c => ⟨s, p, n, c⟩
  | _, _ => ez
set_option maxRecDepth 100000 in
theorem rawCells {H : Type} {enc : TypeId × Value → H} {W : World} {fuel : Nat} {v0 v1 : Value} {y0 y1 : DataW H × List MemPlace}
    (hy0 : DataW.trod enc Tryz.prog W 0 (fun _ => true) true fuel 4 [v0] = some y0) (hy1 : DataW.trod enc Tryz.prog W 0 (fun _ => true) true fuel 22 [v1] = some y1) :
    v0 = .bool (entOf v0 v1).s ∧ v1 = .slice (entOf v0 v1).p (entOf v0 v1).n (entOf v0 v1).c ∧ RawE W (entOf v0 v1) := by
  obtain ⟨s, e0, -⟩ := DataW.trod_bool Tryz.underlying4 hy0
  simp only [List.cons.injEq, and_true] at e0
  subst e0
  rcases open_ints Tryz.underlying22 Tryz.underlying81 cellsU hy1 with ⟨hcs, -⟩ | ⟨a, len, cap, zs, hcs, -, hl, hm, hz, -, hcell, hwz⟩
  · simp only [List.cons.injEq, and_true] at hcs
    subst hcs
    exact ⟨rfl, rfl, [], rfl, Nat.le_refl _, Nat.zero_le _, Rd.nil, u32_nil, fun _ => rfl⟩
  · simp only [List.cons.injEq, and_true] at hcs
    subst hcs
    simp only [if_true] at hz
    refine ⟨rfl, rfl, zs.take len, by show (zs.take len).length = len; simp; omega, hl, hm, ?_, ?_, fun h => by cases h⟩
    · intro hp
      have hp' : 0 < zs.length := by simp at hp; omega
      obtain ⟨b, off, rfl, hc⟩ := ints_at hcell hp'
      refine ⟨b, off, rfl, fun j hj => ?_⟩
      have hj' : j < len ∧ j < zs.length := by simp at hj; omega
      rw [gx_take _ _ _ hj'.1]
      exact hc j hj'.2
    · refine u32_take (fun j => ?_) len
      by_cases hj : j < zs.length
      · have := hwz zs[j] (List.getElem_mem hj)
        rw [gx_mem zs j hj]
        have h4 : 0 ≤ zs[j] ∧ zs[j] ≤ 4294967295 := by
          simpa [Lit.wf, IntKind.min, IntKind.max, IntKind.signed, IntKind.bits] using this
        exact ⟨h4.1, by omega⟩
      · rw [gx_past zs _ (Nat.le_refl _) j (by omega)]; decide
set_option maxRecDepth 100000 in
theorem openPoly {H : Type} {enc : TypeId × Value → H} {W : World} {base : Nat} {v0 : Value} {d0 : DataW H} {p0 : List MemPlace} (hv : Value.okWide Tryz.prog W .any base 26 v0)
    (h0 : DataW.Trod enc Tryz.prog W 0 (fun _ => true) true 26 v0 d0 p0) : ∃ (p : Option Addr) (n nc : Nat) (es : List Ent), v0 = .slice p n nc ∧ PZ W p n nc es := by
  obtain ⟨a0, len, cap, rfl⟩ := okWide_slice Tryz.underlying26 hv
  obtain ⟨fuel, hf⟩ := h0
  rcases Go.Deep.open_slice_pairs Tryz.underlying26 Tryz.underlying24 cellsI2 rfl rfl cellsB cellsUs hf with ⟨hcs, -⟩ | ⟨a, len', cap', m, k, V0, V1, D0, D1, P0, P1, hcs, -, hl, hm, hmm, -, hcell⟩
  · simp [Value.cells] at hcs
    obtain ⟨rfl, rfl, rfl⟩ := hcs
    exact ⟨none, 0, 0, [], rfl, ⟨rfl, Nat.le_refl _, Nat.zero_le _, fun _ => rfl, PL.nil, fun j hj => absurd hj (by omega)⟩⟩
  · simp [Value.cells] at hcs
    obtain ⟨rfl, rfl, rfl⟩ := hcs
    simp only [if_true] at hmm
    have hr : ∀ i, i < len → V0 i = .bool (entOf (V0 i) (V1 i)).s ∧ V1 i = .slice (entOf (V0 i) (V1 i)).p (entOf (V0 i) (V1 i)).n (entOf (V0 i) (V1 i)).c ∧ RawE W (entOf (V0 i) (V1 i)) := fun i hi => by
      obtain ⟨-, -, g0, g1⟩ := hcell i (by omega)
      exact rawCells g0 g1
    have hge : ∀ i, i < len → ge ((List.range len).map fun i => entOf (V0 i) (V1 i)) i = entOf (V0 i) (V1 i) := fun i hi => by simp [ge, hi]
    refine ⟨some a, len, cap, (List.range len).map fun i => entOf (V0 i) (V1 i), rfl, ⟨by simp, hl, hm, nofun, ?_, fun j hj => by rw [hge j hj]; exact (hr j hj).2.2⟩⟩
    intro hp
    have hp' : 0 < len := by simpa using hp
    obtain ⟨b, off, spot⟩ := a
    have hspot : spot = none := by simpa [Addr.add] using World.cell?_spot (hcell 0 (by omega)).1
    subst hspot
    refine ⟨b, off, rfl, fun j hj => ?_⟩
    have hj' : j < len := by simpa using hj
    obtain ⟨c0, c1, -, -⟩ := hcell j (by omega)
    obtain ⟨e0, e1, -⟩ := hr j hj'
    rw [hge j hj', ← e0, ← e1]
    rw [add_plain] at c0 c1
    exact ⟨c0, c1⟩
end Go.Proofs.YtifebbacnlhggaaGreatDoor
/-
  What PolySums' walk wants besides: sizes of normal lists, Lead of any, Cut of a number.
-/
namespace Go.Proofs.YtifebbacnlhggaaGreatDoor
open Go.RowKit
set_option linter.unusedVariables false
set_option linter.unusedSimpArgs false

theorem no_int {w : World} {g : Nat} {s : Bool} {q : Option Addr} {n c : Nat} {ty : TypeId} (hg : w.heap[g]? = some (.cells #[.bool s, .slice q n c] ty)) (o : Nat) (k : IntKind) (z : Int) : w.cell? ⟨g, o, none⟩ ≠ some (.int k z) := by
  intro h
  match o, h with
  | 0, h => simp [World.cell?, hg, go_sem] at h
  | 1, h => simp [World.cell?, hg, go_sem] at h
  | (o + 2), h => simp [World.cell?, hg, go_sem] at h
theorem PA.lt {w : World} {K : Nat} {p : Option Addr} {n nc : Nat} {es : List Ent} {zs : List Int} (h : PA w K p n nc es zs) (i : Nat) : ((gx zs i).natAbs : Int) < pw K := by
  rcases Nat.lt_or_ge i n with hi | hi
  · obtain ⟨xs, h1, h2, h3⟩ := h.ev i hi
    rw [← h2]
    exact Int.lt_of_lt_of_le (h1.lt _) (pw_mono h3)
  · rw [gx_past zs n (by rw [h.zl]; exact Nat.le_refl _) i hi]
    exact pw_pos K
end Go.Proofs.YtifebbacnlhggaaGreatDoor
/-
  ashlarref1.Is.
-/
namespace Go.Proofs.YtifebbacnlhggaaGreatDoor
open Go.RowKit
set_option linter.unusedVariables false
set_option linter.unusedSimpArgs false

set_option maxRecDepth 100000 in
set_option maxHeartbeats 1000000 in
/-- ashlarref1.Is: an answer is this number. -/
theorem rIs_any {B : Nat} {w : World} {s t : Bool} {p q : Option Addr} {n m mc : Nat} {xs ds : List Int} {z : Int} (h : NI B w s p n xs z) (hn : n ≤ 1000) (hl : ds.length = m) (hm : m ≤ 1000) (hX : Rd w q .i64 ds) (hU : U16 ds) (hnr : tlen ds = m) (hs : m = 0 → t = false) (hv : rval t ds = z) :
    Calls Tryz.prog 22 #[.agg #[.bool s, .slice p n n], .agg #[.bool t, .slice q m mc]] w fun e w' => e = .returned (.bool true) ∧ Below w.heap.size w w' := by
  go_enter Tryz.func22, Tryz.ntmps22
  go_wp2_with fail
  have hX2 := boxes2 w (.bool s) (.slice p n n) (.bool t) (.slice q m mc) 24 30
  generalize ((w.alloc (Obj.cells #[Value.bool s, Value.slice p n n] 24)).alloc (Obj.cells #[Value.bool t, Value.slice q m mc] 30)) = W at *
  have k0 := hX2.ca0
  have k1 := hX2.ca1
  have k2 := hX2.cb0
  have k3 := hX2.cb1
  go_region_held3 (fun w' => w'.cell? ⟨w.heap.size, 0, none⟩ = some (.bool s) ∧ w'.cell? ⟨w.heap.size, 1, none⟩ = some (.slice p n n) ∧ w'.cell? ⟨w.heap.size + 1, 0, none⟩ = some (.bool t) ∧ w'.cell? ⟨w.heap.size + 1, 1, none⟩ = some (.slice q m mc)) (first | exact ⟨by assumption, by assumption, by assumption, by assumption⟩ | exact keepc4 (by assumption) (by assumption))
    (first
      | (go_at_call 13; refine (rTo_any t q m mc ds _ hl hm (hX.below hX2.below).drew hU).mono ?_; rintro e w1 ⟨p', m', cap, rfl, hA1, hm', hb1⟩)
      | (go_at_call 57; have h1 := h.below (bnext' hX2.below (undrew hb1)); have h2 : NN t (jn ds m') z := nn_jn hU (by omega) (fun e => hs (by omega)) hv (by have := hm'.out; omega); refine (rEq_nn h1 hA1 h2 hn).mono ?_; rintro e w2 ⟨rfl, hb2⟩))
  go_wp2
  go_ret
  exact ⟨rfl, bnext' (bnext' hX2.below (undrew hb1)) hb2⟩
end Go.Proofs.YtifebbacnlhggaaGreatDoor
/-
  ashlarref1.Is of what is known.
-/
namespace Go.Proofs.YtifebbacnlhggaaGreatDoor
open Go.RowKit
set_option linter.unusedVariables false
set_option linter.unusedSimpArgs false

end Go.Proofs.YtifebbacnlhggaaGreatDoor
