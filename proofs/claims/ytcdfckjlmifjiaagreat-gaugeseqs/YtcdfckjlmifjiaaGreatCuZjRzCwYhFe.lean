/-
  ashlarlaw1.Cut: the lowest 24 limbs, in memory of their own.
-/
import Derived.Test.YtcdfckjlmifjiaaGreatUaOwPn
import Derived.Test.YtcdfckjlmifjiaaGreatWkWlBxRaWhWmBe
import Derived.Test.YtcdfckjlmifjiaaGreatZcZdYb
import Derived.Test.YtcdfckjlmifjiaaGreatRdReRxBbCvRfRhCqRr
import Derived.Test.YtcdfckjlmifjiaaGreatCxRbCyRvCzTeZa
import Derived.Test.YtcdfckjlmifjiaaGreatYcZsRmRpYd
import Derived.Test.YtcdfckjlmifjiaaGreatFaOfFd
import Derived.Deep.DeepFit
namespace Go.Proofs.YtcdfckjlmifjiaaGreat
open Go.RowKit
set_option linter.unusedVariables false
set_option linter.unusedSimpArgs false

/-- What Cut answers. -/
def CutPost (s : Bool) (xs : List Int) (w : World) (e : Ending) (w' : World) : Prop :=
  ∃ p' n' nc', e = .returned (.agg #[.bool s, .slice p' n' nc']) ∧ AI w' p' n' nc' (xs.take 24) ∧ n' ≤ 24 ∧ From w.heap.size p' ∧ Below w.heap.size w w'

set_option maxHeartbeats 1000000 in
set_option maxRecDepth 100000 in
theorem Cut_some (s : Bool) (b off n nc k : Nat) (xs : List Int) (w : World) (hl : xs.length = n) (hnc : n ≤ nc) (hb : nc ≤ maxLen) (hX : Rd w (some ⟨b, off, none⟩) .u32 xs) (hU : U32 xs) (hk : k = min n 24) (hk0 : 0 < k) :
    Calls Tryz.prog 50 #[.agg #[.bool s, .slice (some ⟨b, off, none⟩) n nc]] w (CutPost s xs w) := by
  have hb' := hb
  unfold maxLen at hb'
  obtain ⟨i0, hi, hzz⟩ := Option.map_eq_some_iff.1 info_u32
  simp only [Prod.mk.injEq] at hzz
  obtain ⟨hz0, hz1, hz2⟩ := hzz
  have HI : Hid (Tryz.prog.info? 100 = some i0 ∧ i0.zero = some (.int .u32 0) ∧ i0.size = 1 ∧ i0.bytes = 4) := ⟨hi, hz0, hz1, hz2⟩
  clear hi hz0 hz1 hz2
  have HX : Hid (k = min n 24) := hk
  clear hk
  by_cases hn : 24 < n
  · have hn' : 24 < (n : Int) := by omega
    have h24 : (24 : Int) ≤ (nc : Int) := by omega
    have h24n : 24 ≤ nc := by omega
    have h24m : (24 : Int) ≤ (n : Int) := by omega
    obtain rfl : k = 24 := by have := HX.out; omega
    go_enter Tryz.func50, Tryz.ntmps50
    go_wp2
    have hb1 : Bx ((w.alloc (.cells #[.bool s, .slice (some ⟨b, off, none⟩) n nc] 50)).alloc (.cells #[.bool false, .slice none 0 0] 50)) w.heap.size (.bool s) (.slice (some ⟨b, off, none⟩) n nc) := (Bx.new _ _ _ rfl).alloc _
    have hb2 : Bx ((w.alloc (.cells #[.bool s, .slice (some ⟨b, off, none⟩) n nc] 50)).alloc (.cells #[.bool false, .slice none 0 0] 50)) (w.heap.size + 1) (.bool false) (.slice none 0 0) := Bx.new _ _ _ (World.size_alloc ..).symm
    have hbw : Below w.heap.size w ((w.alloc (.cells #[.bool s, .slice (some ⟨b, off, none⟩) n nc] 50)).alloc (.cells #[.bool false, .slice none 0 0] 50)) := ((Below.refl _ _).alloc (Nat.le_refl _) _).alloc (by simp) _
    have hsz : ((w.alloc (.cells #[.bool s, .slice (some ⟨b, off, none⟩) n nc] 50)).alloc (.cells #[.bool false, .slice none 0 0] 50)).heap.size = w.heap.size + 1 + 1 := by simp
    generalize ((w.alloc (.cells #[.bool s, .slice (some ⟨b, off, none⟩) n nc] 50)).alloc (.cells #[.bool false, .slice none 0 0] 50)) = W at *
    have HS : Hid (W.heap.size = w.heap.size + 1 + 1) := hsz
    clear hsz
    have k0 := hb1.c0
    have k1 := hb1.c1
    obtain ⟨hi, hz0, hz1, hz2⟩ := HI.out
    have hsrc : ∀ j v, ((xs.take 24).map (Value.int .u32))[j]? = some v → W.drew.cell? ((⟨b, off, none⟩ : Addr).add j) = some v := by
      obtain ⟨b', off', hp, hc⟩ := ((hX.below hbw).take 24).drew (by simp; omega)
      cases hp
      exact Rd.src hc
    go_region_held3 (fun w' => w'.cell? ⟨w.heap.size, 0, none⟩ = some (.bool s) ∧ w'.cell? ⟨w.heap.size, 1, none⟩ = some (.slice (some ⟨b, off, none⟩) n nc)) (first | (simp [go_sem, *]; done) | exact keepc2 (by assumption) (by assumption))
      (first
        | (refine step_append_lies _ rfl _ _ 48 rfl w.heap.size 100 i0 (.int .u32 0) 1 4 Tryz.underlying48 hi hz0 hz1 hz2 rfl (by decide) (.slice none 0 0) 0 [] rfl (World.ownsRow_nil _ _ _ _) ⟨b, off, none⟩ 24 nc ((xs.take 24).map (Value.int .u32)) rfl (by simp; omega) ?_ (oneCell_ca _ _) (by decide) (by unfold maxLen; decide) (by decide) hbw.size _ rfl ?_; exact hsrc; intro g cap w3 hown3 hgrow3 hat3 hlt3; have hb3 := below_of_grown (w := W.drew) hgrow3; obtain ⟨c0, c1, f0, f1⟩ := resbox (undrew hb3) hb2.c0 hb2.c1 hb2.f0 hb2.f1))
    go_wp2
    obtain rfl : g = W.heap.size := by rcases hat3 with h | h; cases h; exact h
    have hr3 : Rd w3 (some ⟨W.heap.size, 0, none⟩) .u32 (xs.take 24) := rd_owns (by simpa using hown3)
    have hs3 := HS.out
    have hcp : 24 ≤ cap ∧ cap ≤ maxLen := by
      rcases hown3.2 with ⟨h, _⟩ | ⟨g', cap', cur, h, _, _, h4, h5, _⟩
      · cases h
      · cases h; exact ⟨by omega, h5⟩
    refine bodyPost_ret (v := .agg #[.bool s, .slice (some ⟨W.heap.size, 0, none⟩) 24 cap]) (by simp [results, Tryz.results50, go_sem, c0, c1]) rfl ?_
    refine ⟨_, 24, cap, rfl, ⟨by simp; omega, hcp.1, hcp.2, by omega, ?_, u32_take hU 24⟩, by omega, from_new hbw.size, ?_⟩
    · skip
      exact (hr3.set_other _ _ (fun a ha => by cases ha; simp; omega)).set_other _ _ (fun a ha => by cases ha; simp; omega)
    · exact (((hbw.trans ((undrew hb3).mono hbw.size)).setCell (by simp) _).setCell (by simp) _)
  · have hn' : ¬ 24 < (n : Int) := by omega
    obtain rfl : k = n := by have := HX.out; omega
    have hkc : (k : Int) ≤ (nc : Int) := by omega
    have hk24 : k ≤ 24 := by omega
    go_enter Tryz.func50, Tryz.ntmps50
    go_wp2
    have hb1 : Bx ((w.alloc (.cells #[.bool s, .slice (some ⟨b, off, none⟩) k nc] 50)).alloc (.cells #[.bool false, .slice none 0 0] 50)) w.heap.size (.bool s) (.slice (some ⟨b, off, none⟩) k nc) := (Bx.new _ _ _ rfl).alloc _
    have hb2 : Bx ((w.alloc (.cells #[.bool s, .slice (some ⟨b, off, none⟩) k nc] 50)).alloc (.cells #[.bool false, .slice none 0 0] 50)) (w.heap.size + 1) (.bool false) (.slice none 0 0) := Bx.new _ _ _ (World.size_alloc ..).symm
    have hbw : Below w.heap.size w ((w.alloc (.cells #[.bool s, .slice (some ⟨b, off, none⟩) k nc] 50)).alloc (.cells #[.bool false, .slice none 0 0] 50)) := ((Below.refl _ _).alloc (Nat.le_refl _) _).alloc (by simp) _
    have hsz : ((w.alloc (.cells #[.bool s, .slice (some ⟨b, off, none⟩) k nc] 50)).alloc (.cells #[.bool false, .slice none 0 0] 50)).heap.size = w.heap.size + 1 + 1 := by simp
    generalize ((w.alloc (.cells #[.bool s, .slice (some ⟨b, off, none⟩) k nc] 50)).alloc (.cells #[.bool false, .slice none 0 0] 50)) = W at *
    have HS : Hid (W.heap.size = w.heap.size + 1 + 1) := hsz
    clear hsz
    have k0 := hb1.c0
    have k1 := hb1.c1
    obtain ⟨hi, hz0, hz1, hz2⟩ := HI.out
    have hsrc : ∀ j v, ((xs.take k).map (Value.int .u32))[j]? = some v → W.drew.cell? ((⟨b, off, none⟩ : Addr).add j) = some v := by
      obtain ⟨b', off', hp, hc⟩ := ((hX.below hbw).take k).drew (by simp; omega)
      cases hp
      exact Rd.src hc
    go_region_held3 (fun w' => w'.cell? ⟨w.heap.size, 0, none⟩ = some (.bool s) ∧ w'.cell? ⟨w.heap.size, 1, none⟩ = some (.slice (some ⟨b, off, none⟩) k nc)) (first | (simp [go_sem, *]; done) | exact keepc2 (by assumption) (by assumption))
      (first
        | (refine step_append_lies _ rfl _ _ 48 rfl w.heap.size 100 i0 (.int .u32 0) 1 4 Tryz.underlying48 hi hz0 hz1 hz2 rfl (by decide) (.slice none 0 0) 0 [] rfl (World.ownsRow_nil _ _ _ _) ⟨b, off, none⟩ k nc ((xs.take k).map (Value.int .u32)) rfl (by simp; omega) ?_ (oneCell_ca _ _) hk0 (by unfold maxLen; omega) (by omega) hbw.size _ rfl ?_; exact hsrc; intro g cap w3 hown3 hgrow3 hat3 hlt3; have hb3 := below_of_grown (w := W.drew) hgrow3; obtain ⟨c0, c1, f0, f1⟩ := resbox (undrew hb3) hb2.c0 hb2.c1 hb2.f0 hb2.f1))
    go_wp2
    obtain rfl : g = W.heap.size := by rcases hat3 with h | h; cases h; exact h
    have hr3 : Rd w3 (some ⟨W.heap.size, 0, none⟩) .u32 (xs.take k) := rd_owns (by simpa using hown3)
    have hs3 := HS.out
    have hcp : k ≤ cap ∧ cap ≤ maxLen := by
      rcases hown3.2 with ⟨h, _⟩ | ⟨g', cap', cur, h, _, _, h4, h5, _⟩
      · cases h
      · cases h; exact ⟨by omega, h5⟩
    refine bodyPost_ret (v := .agg #[.bool s, .slice (some ⟨W.heap.size, 0, none⟩) k cap]) (by simp [results, Tryz.results50, go_sem, c0, c1]) rfl ?_
    refine ⟨_, k, cap, rfl, ⟨by simp; omega, hcp.1, hcp.2, by omega, ?_, u32_take hU 24⟩, by omega, from_new hbw.size, ?_⟩
    · rw [List.take_of_length_le (l := xs) (i := k) (by omega)] at hr3
      rw [List.take_of_length_le (l := xs) (i := 24) (by omega)]
      exact (hr3.set_other _ _ (fun a ha => by cases ha; simp; omega)).set_other _ _ (fun a ha => by cases ha; simp; omega)
    · exact (((hbw.trans ((undrew hb3).mono hbw.size)).setCell (by simp) _).setCell (by simp) _)

theorem app_none (ty : TypeId) (q : Option Addr) (c : Nat) (w : World) : (Builtin.append_ #[48, 48] ty #[.slice none 0 0, .slice q 0 c]).run Tryz.prog w = .ok (.slice none 0 0) w := by
  obtain ⟨i0, hi, hzz⟩ := Option.map_eq_some_iff.1 info_u32
  cases q <;> simp [Builtin.append_, run_underlying Tryz.underlying48, sizeOf, typeInfo, hi, Builtin.lenOf, Builtin.firstCells, loadCells, loadCellsFrom]

set_option maxRecDepth 100000 in
set_option maxHeartbeats 1000000 in
theorem Cut_none1 (s : Bool)  (w : World) :
    Calls Tryz.prog 50 #[.agg #[.bool s, .slice none 0 0]] w (CutPost s [] w) := by
  have ha := fun ty w => app_none ty none 0 w
  go_enter Tryz.func50, Tryz.ntmps50
  go_wp2
  have hb1 : Bx ((w.alloc (.cells #[.bool s, .slice none 0 0] 50)).alloc (.cells #[.bool false, .slice none 0 0] 50)) w.heap.size (.bool s) (.slice none 0 0) := (Bx.new _ _ _ rfl).alloc _
  have hb2 : Bx ((w.alloc (.cells #[.bool s, .slice none 0 0] 50)).alloc (.cells #[.bool false, .slice none 0 0] 50)) (w.heap.size + 1) (.bool false) (.slice none 0 0) := Bx.new _ _ _ (World.size_alloc ..).symm
  have hbw : Below w.heap.size w ((w.alloc (.cells #[.bool s, .slice none 0 0] 50)).alloc (.cells #[.bool false, .slice none 0 0] 50)) := ((Below.refl _ _).alloc (Nat.le_refl _) _).alloc (by simp) _
  generalize ((w.alloc (.cells #[.bool s, .slice none 0 0] 50)).alloc (.cells #[.bool false, .slice none 0 0] 50)) = W at *
  have k0 := hb1.c0
  have k1 := hb1.c1
  have c0 := hb2.c0
  have c1 := hb2.c1
  have f0 := hb2.f0
  have f1 := hb2.f1
  go_region_held3 (fun w' => w'.cell? ⟨w.heap.size, 0, none⟩ = some (.bool s) ∧ w'.cell? ⟨w.heap.size, 1, none⟩ = some (.slice none 0 0)) (first | (simp [go_sem, *]; done) | exact keepc2 (by assumption) (by assumption)) (fail)
  go_wp2
  refine bodyPost_ret (v := .agg #[.bool s, .slice none 0 0]) (by simp [results, Tryz.results50, go_sem, c0, c1]) rfl ?_
  exact ⟨none, 0, 0, rfl, ⟨rfl, Nat.le_refl _, by unfold maxLen; decide, by decide, Rd.nil, u32_nil⟩, by decide, from_none, (hbw.drew.setCell (by simp) _).setCell (by simp) _⟩

set_option maxRecDepth 100000 in
set_option maxHeartbeats 1000000 in
theorem Cut_none2 (s : Bool) (a : Addr) (nc : Nat) (w : World) (hb : nc ≤ maxLen) :
    Calls Tryz.prog 50 #[.agg #[.bool s, .slice (some a) 0 nc]] w (CutPost s [] w) := by
  have hb' := hb
  unfold maxLen at hb'
  have ha := fun ty w => app_none ty (some a) nc w
  have hnc0 : (0 : Int) ≤ (nc : Int) := by omega
  go_enter Tryz.func50, Tryz.ntmps50
  go_wp2
  have hb1 : Bx ((w.alloc (.cells #[.bool s, .slice (some a) 0 nc] 50)).alloc (.cells #[.bool false, .slice none 0 0] 50)) w.heap.size (.bool s) (.slice (some a) 0 nc) := (Bx.new _ _ _ rfl).alloc _
  have hb2 : Bx ((w.alloc (.cells #[.bool s, .slice (some a) 0 nc] 50)).alloc (.cells #[.bool false, .slice none 0 0] 50)) (w.heap.size + 1) (.bool false) (.slice none 0 0) := Bx.new _ _ _ (World.size_alloc ..).symm
  have hbw : Below w.heap.size w ((w.alloc (.cells #[.bool s, .slice (some a) 0 nc] 50)).alloc (.cells #[.bool false, .slice none 0 0] 50)) := ((Below.refl _ _).alloc (Nat.le_refl _) _).alloc (by simp) _
  generalize ((w.alloc (.cells #[.bool s, .slice (some a) 0 nc] 50)).alloc (.cells #[.bool false, .slice none 0 0] 50)) = W at *
  have k0 := hb1.c0
  have k1 := hb1.c1
  have c0 := hb2.c0
  have c1 := hb2.c1
  have f0 := hb2.f0
  have f1 := hb2.f1
  go_region_held3 (fun w' => w'.cell? ⟨w.heap.size, 0, none⟩ = some (.bool s) ∧ w'.cell? ⟨w.heap.size, 1, none⟩ = some (.slice (some a) 0 nc)) (first | (simp [go_sem, *]; done) | exact keepc2 (by assumption) (by assumption)) (fail)
  go_wp2
  refine bodyPost_ret (v := .agg #[.bool s, .slice none 0 0]) (by simp [results, Tryz.results50, go_sem, c0, c1]) rfl ?_
  exact ⟨none, 0, 0, rfl, ⟨rfl, Nat.le_refl _, by unfold maxLen; decide, by decide, Rd.nil, u32_nil⟩, by decide, from_none, (hbw.drew.setCell (by simp) _).setCell (by simp) _⟩

/-- ashlarlaw1.Cut. -/
theorem Cut_any (s : Bool) (p : Option Addr) (n nc : Nat) (xs : List Int) (w : World) (hl : xs.length = n) (hnc : n ≤ nc) (hb : nc ≤ maxLen) (hX : Rd w p .u32 xs) (hU : U32 xs) (hp : p = none → nc = 0) :
    Calls Tryz.prog 50 #[.agg #[.bool s, .slice p n nc]] w (CutPost s xs w) := by
  rcases Nat.eq_zero_or_pos n with h | h
  · subst h
    obtain rfl : xs = [] := List.eq_nil_of_length_eq_zero hl
    cases p with
    | none => rw [hp rfl]; exact Cut_none1 s w
    | some a => exact Cut_none2 s a nc w hb
  · obtain ⟨b, off, rfl, _⟩ := hX (by omega)
    exact Cut_some s b off n nc (min n 24) xs w hl hnc hb hX hU rfl (by omega)
end Go.Proofs.YtcdfckjlmifjiaaGreat
/-
  ashlarlaw2.Cut.
-/
namespace Go.Proofs.YtcdfckjlmifjiaaGreat
open Go.RowKit
set_option linter.unusedVariables false
set_option linter.unusedSimpArgs false

/-- What Cut answers. -/
def QCut (s t : Bool) (xs ys : List Int) (w : World) (e : Ending) (w' : World) : Prop :=
  ∃ p n nc q m mc, e = .returned (.agg #[.bool s, .slice p n nc, .bool t, .slice q m mc]) ∧ AI w' p n nc (xs.take 24) ∧ AI w' q m mc (ys.take 24) ∧ n ≤ 24 ∧ m ≤ 24 ∧ Go.Proofs.YtcdfckjlmifjiaaGreat.From w.heap.size p ∧ Go.Proofs.YtcdfckjlmifjiaaGreat.From w.heap.size q ∧ Below w.heap.size w w'
set_option maxRecDepth 100000 in
set_option maxHeartbeats 2000000 in
/-- ashlarlaw2.Cut. -/
theorem qCut_any (s t : Bool) (p q : Option Addr) (n nc m mc : Nat) (xs ys : List Int) (w : World) (hl : xs.length = n) (hnc : n ≤ nc) (hb : nc ≤ maxLen) (hX : Rd w p .u32 xs) (hU : U32 xs) (hp : p = none → nc = 0) (hl' : ys.length = m) (hnc' : m ≤ mc) (hb' : mc ≤ maxLen) (hX' : Rd w q .u32 ys) (hU' : U32 ys) (hp' : q = none → mc = 0) :
    Calls Tryz.prog 23 #[.agg #[.bool s, .slice p n nc, .bool t, .slice q m mc]] w (QCut s t xs ys w) := by
  go_enter Tryz.func23, Tryz.ntmps23
  go_wp2_with fail
  have hA0 : Bq ((w.alloc (.cells #[.bool s, .slice p n nc, .bool t, .slice q m mc] 56)).alloc (.cells #[.bool false, .slice none 0 0, .bool false, .slice none 0 0] 56)) w.heap.size (.bool s) (.slice p n nc) (.bool t) (.slice q m mc) := (Bq.new _ _ _ _ _ rfl).alloc _
  have hR : Bq ((w.alloc (.cells #[.bool s, .slice p n nc, .bool t, .slice q m mc] 56)).alloc (.cells #[.bool false, .slice none 0 0, .bool false, .slice none 0 0] 56)) (w.heap.size + 1) (.bool false) (.slice none 0 0) (.bool false) (.slice none 0 0) := Bq.new _ _ _ _ _ (by simp)
  have hW : Below w.heap.size w ((w.alloc (.cells #[.bool s, .slice p n nc, .bool t, .slice q m mc] 56)).alloc (.cells #[.bool false, .slice none 0 0, .bool false, .slice none 0 0] 56)) := ((Below.refl _ _).alloc (Nat.le_refl _) _).alloc (by simp) _
  generalize (w.alloc (.cells #[.bool s, .slice p n nc, .bool t, .slice q m mc] 56)).alloc (.cells #[.bool false, .slice none 0 0, .bool false, .slice none 0 0] 56) = W at *
  obtain ⟨a0, a1, a2, a3, -, -, -, -⟩ := hA0
  go_region_held3 (fun w' => w'.cell? ⟨w.heap.size, 0, none⟩ = some (.bool s) ∧ w'.cell? ⟨w.heap.size, 1, none⟩ = some (.slice p n nc) ∧ w'.cell? ⟨w.heap.size, 2, none⟩ = some (.bool t) ∧ w'.cell? ⟨w.heap.size, 3, none⟩ = some (.slice q m mc)) (first | with_reducible exact ⟨a0, a1, a2, a3⟩ | with_reducible exact keepc4 ⟨a0, a1, a2, a3⟩ hV1 | with_reducible exact keepc4 ⟨a0, a1, a2, a3⟩ hV2 | (simp [go_sem, *]; done))
    (first
      | (go_at_call_of 50 (Value.agg #[.bool s, .slice p n nc]); refine (Cut_any s p n nc xs _ hl hnc hb (hX.below hW).drew hU hp).mono ?_; rintro e v1 ⟨p1, n1, nc1, rfl, hA1, hn1, hF1, hv1⟩; have hV1 := undrew hv1)
      | (go_at_call_of 50 (Value.agg #[.bool t, .slice q m mc]); refine (Cut_any t q m mc ys _ hl' hnc' hb' ((hX'.below hW).below hV1) hU' hp').mono ?_; rintro e v2 ⟨p2, n2, nc2, rfl, hA2, hn2, hF2, hv2⟩; have hV2 := bnext' hV1 hv2; have hR2 := hR.later hV2; obtain ⟨r0, r1, r2, r3, f0, f1, f2, f3⟩ := hR2))
  clear a0 a1 a2 a3
  go_wp2
  have sR := hR.lt
  have sV := hV1.size
  refine bodyPost_ret (v := .agg #[.bool s, .slice p1 n1 nc1, .bool t, .slice p2 n2 nc2]) (by simp [results, Tryz.results23, go_sem, r0, r1, r2, r3]) rfl ⟨_, _, _, _, _, _, rfl, ?_, ?_, hn1, hn2, ?_, ?_, ?_⟩
  · exact (hA1.below hv2).set4 (fun _ => off_from hF1 sR) _ _ _ _
  · exact hA2.set4 (fun _ => off_from hF2 (by omega)) _ _ _ _
  · exact fun a ha => Nat.le_trans hW.size (hF1 a ha)
  · exact fun a ha => Nat.le_trans (Nat.le_trans hW.size sV) (hF2 a ha)
  · exact bset4 (bnext' hW hV2) (by omega) _ _ _ _
end Go.Proofs.YtcdfckjlmifjiaaGreat
/-
  ashlarref1.Is.
-/
namespace Go.Proofs.YtcdfckjlmifjiaaGreat
open Go.RowKit
set_option linter.unusedVariables false
set_option linter.unusedSimpArgs false

end Go.Proofs.YtcdfckjlmifjiaaGreat
/-
  ashlarref1.Is of what is known.
-/
namespace Go.Proofs.YtcdfckjlmifjiaaGreat
open Go.RowKit
set_option linter.unusedVariables false
set_option linter.unusedSimpArgs false

end Go.Proofs.YtcdfckjlmifjiaaGreat
/-
  ashlarref2.From, Is.
-/
namespace Go.Proofs.YtcdfckjlmifjiaaGreat
open Go.RowKit
set_option linter.unusedVariables false
set_option linter.unusedSimpArgs false

theorem rFrom_v {w : World} {K : Nat} {s : Bool} {p : Option Addr} {n nc : Nat} {xs : List Int} (h : AI w p n nc xs) (hn : n ≤ K) :
    Calls Tryz.prog 51 #[.agg #[.bool s, .slice p n nc]] w (RVP (2 * K) (ival s xs) w) := by
  refine (From_ansF s p n nc xs w h).mono ?_
  rintro e w' ⟨s', p', n', ds', g1, g2, g3, g4, g5, g6⟩
  exact ⟨s', p', n', g1, ⟨ds', g2, g3, by omega⟩, g5, g6⟩
set_option maxRecDepth 100000 in
set_option maxHeartbeats 4000000 in
/-- ashlarref2.From. -/
theorem rFrom_q {w : World} {K : Nat} {s t : Bool} {p q : Option Addr} {n nc m mc : Nat} {r : Rat} (h : AQ w K s p n nc t q m mc r) (hK : 1 ≤ K) (hK' : K ≤ 400) :
    Calls Tryz.prog 26 #[.agg #[.bool s, .slice p n nc, .bool t, .slice q m mc]] w (MP r K w) := by
  have hs : Hid (Sz r K) := h.sz hK
  obtain ⟨xs, ys, h1, h2, h3, h4, hr⟩ := h
  have hval : Hid (Rat.divInt (ival s xs) (ival t ys) = r) := hr
  clear hr
  go_enter Tryz.func26, Tryz.ntmps26
  go_wp2_with fail
  have hA0 : Bq ((w.alloc (.cells #[.bool s, .slice p n nc, .bool t, .slice q m mc] 56)).alloc (.cells #[.bool false, .slice none 0 0, .bool false, .slice none 0 0] 64)) w.heap.size (.bool s) (.slice p n nc) (.bool t) (.slice q m mc) := (Bq.new _ _ _ _ _ rfl).alloc _
  have hR0 : Bq ((w.alloc (.cells #[.bool s, .slice p n nc, .bool t, .slice q m mc] 56)).alloc (.cells #[.bool false, .slice none 0 0, .bool false, .slice none 0 0] 64)) (w.heap.size + 1) (.bool false) (.slice none 0 0) (.bool false) (.slice none 0 0) := Bq.new _ _ _ _ _ (by simp)
  have hW : Below w.heap.size w ((w.alloc (.cells #[.bool s, .slice p n nc, .bool t, .slice q m mc] 56)).alloc (.cells #[.bool false, .slice none 0 0, .bool false, .slice none 0 0] 64)) := ((Below.refl _ _).alloc (Nat.le_refl _) _).alloc (by simp) _
  generalize (w.alloc (.cells #[.bool s, .slice p n nc, .bool t, .slice q m mc] 56)).alloc (.cells #[.bool false, .slice none 0 0, .bool false, .slice none 0 0] 64) = W at *
  have k1 := h1.below hW
  have k2 := h2.below hW
  have nA : Hid (w.heap.size ≠ w.heap.size + 1) := (by omega : w.heap.size ≠ w.heap.size + 1)
  obtain ⟨a0, a1, a2, a3, -, -, -, -⟩ := hA0
  go_region_held3 (fun w' => w'.cell? ⟨w.heap.size, 0, none⟩ = some (.bool s) ∧ w'.cell? ⟨w.heap.size, 1, none⟩ = some (.slice p n nc) ∧ w'.cell? ⟨w.heap.size, 2, none⟩ = some (.bool t) ∧ w'.cell? ⟨w.heap.size, 3, none⟩ = some (.slice q m mc)) (first | with_reducible exact ⟨a0, a1, a2, a3⟩ | with_reducible exact keepc4 ⟨a0, a1, a2, a3⟩ hV1 | with_reducible exact keepc4 ⟨a0, a1, a2, a3⟩ hV2 | with_reducible exact keepc4 ⟨a0, a1, a2, a3⟩ hV3 | with_reducible exact keep4s ⟨a0, a1, a2, a3⟩ hV3 nA | (simp [go_sem, *]; done))
    (first
      | (go_at_call_of 51 (Value.agg #[.bool s, .slice p n nc]); refine (rFrom_v (K := K) k1.drew h3).mono ?_; rintro e v1 ⟨s1, p1, n1, rfl, hr1, hF1, hv1⟩; have hV1 := undrew hv1)
      | (go_at_call_of 51 (Value.agg #[.bool t, .slice q m mc]); refine (rFrom_v (K := K) (k2.below hV1) h4).mono ?_; rintro e v2 ⟨s2, p2, n2, rfl, hr2, hF2, hv2⟩; have hV2 := bnext' hV1 hv2)
      | (go_at_call 52; refine (Make_v (K := K) (hr1.below hv2) hr2 (by omega) (by omega) (by rw [hval.out]; exact hs.out)).mono ?_; rintro e v3 ⟨s3, p3, n3, t3, q3, m3, rfl, hm, hF3, hF3', hv3⟩; have hV3 := bnext' hV2 hv3; rw [hval.out] at hm; obtain ⟨r0, r1, r2, r3, f0, f1, f2, f3⟩ := hR0.later hV3))
  clear a0 a1 a2 a3
  go_wp2
  refine bodyPost_ret (v := .agg #[.bool s3, .slice p3 n3 n3, .bool t3, .slice q3 m3 m3]) (by simp [results, Tryz.results26, go_sem, r0, r1, r2, r3]) rfl ?_
  have sV := hV2.size
  exact end_mp hW (by omega) hR0.lt hV3 hm (fun a ha => Nat.le_trans sV (hF3 a ha)) (fun a ha => Nat.le_trans sV (hF3' a ha))
end Go.Proofs.YtcdfckjlmifjiaaGreat
/-
  Windows: ashlarlaw9.window (cut), ashlarref11.Window (the reference's).
-/
namespace Go.Proofs.YtcdfckjlmifjiaaGreat
open Go.RowKit
set_option linter.unusedVariables false
set_option linter.unusedSimpArgs false

theorem info_rat4 : (Tryz.prog.info? 56).map (fun i => (i.zero, i.size, i.bytes)) = some (some (.agg #[.bool false, .slice none 0 0, .bool false, .slice none 0 0]), 4, 64) := by kernel_rfl
theorem info_rat2 : (Tryz.prog.info? 64).map (fun i => (i.zero, i.size, i.bytes)) = some (some (.agg #[.bool false, .slice none 0 0, .bool false, .slice none 0 0]), 4, 64) := by kernel_rfl
theorem lw_app {base : Nat} {t : TypeId} {E : World → Rat → Rq → Prop} (L : LastsQ E) {wr w1 w3 : World} {v : Value} {rs : List Rq} {zs : List Rat} {z : Rat} {s s' : Bool} {p p' : Option Addr} {n c n' c' k : Nat} {o : Obj} {g cap : Nat} (hk : rs.length = k) (h : LW base t E wr v rs zs) (hb1 : Below wr.heap.size wr w1) (hE : E w1 z ⟨s, p, n, c, s', p', n', c'⟩) (hF : Go.Proofs.YtcdfckjlmifjiaaGreat.From wr.heap.size p) (hF' : Go.Proofs.YtcdfckjlmifjiaaGreat.From wr.heap.size p')
    (hown : w3.ownsRow base t 4 (.slice (some ⟨g, 0, none⟩) (k + 1) cap) (k + 1) (frl rs ++ [.bool s, .slice p n c, .bool s', .slice p' n' c'])) (hgrow : (w1.alloc o).grownBy w3 v.ownBlock) (hat : v.ownBlock = some g ∨ g = (w1.alloc o).heap.size) :
    LW base t E w3 (.slice (some ⟨g, 0, none⟩) (k + 1) cap) (rs ++ [⟨s, p, n, c, s', p', n', c'⟩]) (zs ++ [z]) :=
  LW.app L hk h hb1 hE ⟨fun _ a ha => .inr (hF a ha), fun _ a ha => .inr (hF' a ha)⟩ hown hgrow hat
/-- What window answers. -/
def CwP (w : World) (e : Ending) (w' : World) : Prop := ∃ q m mc rs zs, e = .returned (.slice q m mc) ∧ WA (EQ 24) w' q m mc rs zs ∧ m ≤ 20 ∧ Below w.heap.size w w'
set_option maxHeartbeats 4000000 in
set_option maxRecDepth 100000 in
/-- ashlarlaw9.window. -/
theorem window9_any {w : World} {p : Option Addr} {n nc : Nat} {rs0 : List Rq} (h : WZ w p n nc rs0) :
    Calls Tryz.prog 6 #[.slice p n nc] w (CwP w) := by
  obtain ⟨i0, hi, hzz⟩ := Option.map_eq_some_iff.1 info_rat4
  simp only [Prod.mk.injEq] at hzz
  obtain ⟨hz0, hz1, hz2⟩ := hzz
  have HI : Hid (Tryz.prog.info? 56 = some i0 ∧ i0.zero = some (.agg #[.bool false, .slice none 0 0, .bool false, .slice none 0 0]) ∧ i0.size = 4 ∧ i0.bytes = 64) := ⟨hi, hz0, hz1, hz2⟩
  have HX : Hid (WZ w p n nc rs0) := h
  have hnm : n ≤ 9223372036854775807 := by have h1 := h.cap; have h2 := h.bnd; unfold maxLen at h2; omega
  clear h hi hz0 hz1 hz2
  go_enter Tryz.func6, Tryz.ntmps6
  go_wp2_with fail
  go_loopw [3, 4] (fun qv iv wr => ∃ (k : Nat) (rs : List Rq) (zs : List Rat), k ≤ min n 20 ∧ iv = .int .i64 k ∧ Hid (rs.length = k ∧ LW w.heap.size 56 (EQ 24) wr qv rs zs ∧ Below w.heap.size w wr)) (fun _ iv _ => min n 20 - (intOf iv).toNat)
  case atStart => exact ⟨0, [], [], Nat.zero_le _, by go_num, rfl, LW.nil _ _ _ _, Below.refl _ _⟩
  case round =>
    obtain ⟨k, rs, zs, hk, rfl, H⟩ := hrel
    rcases Nat.lt_or_ge k (min n 20) with hlt | hge
    · obtain ⟨hel, hLR, hB⟩ := H.out
      have hPA := HX.out.below hB
      obtain ⟨b, o, hp, hc⟩ := hPA.rl (by rw [hPA.el]; omega)
      subst hp
      obtain ⟨c0, c1, c2, c3⟩ := hc k (by rw [hPA.el]; omega)
      obtain ⟨⟨xs, r1, r2, r3, r4, r5, r6⟩, ys, t1, t2, t3, t4, t5, t6⟩ := hPA.ev k (by omega)
      have i1 : (k : Int) < (n : Int) := by omega
      have i2 : (k : Int) < 20 := by omega
      generalize gr rs0 k = e0 at *
      have hcut := qCut_any e0.s e0.t e0.p e0.q e0.n e0.c e0.m e0.d xs ys wr r1 r2 r3 r4 r5 r6 t1 t2 t3 t4 t5 t6
      clear hel hLR hB hc hPA r1 r2 r3 r4 r5 r6 t1 t2 t3 t4 t5 t6
      go_wp2_with fail
      go_fit hcut
      rintro e w1 ⟨p1, n1, nc1, q1, m1, mc1, rfl, hA1, hA2, hn1, hm1, hF1, hF2, hb1⟩
      have HE : Hid (EQ 24 w1 (Rat.divInt (ival e0.s (xs.take 24)) (ival e0.t (ys.take 24))) ⟨e0.s, p1, n1, nc1, e0.t, q1, m1, mc1⟩) := ⟨_, _, hA1, hA2, hn1, hm1, rfl⟩
      generalize e0.s = s1 at *
      generalize e0.t = s2 at *
      obtain ⟨hi, hz0, hz1, hz2⟩ := HI.out
      have hown0 := own_below H.out.2.1.own hb1
      rw [H.out.1] at hown0
      have HO : Hid (w1.ownsRow w.heap.size 56 4 u3 k (frl rs)) := hown0
      have hsz : w.heap.size ≤ w1.heap.size := Nat.le_trans H.out.2.2.size hb1.size
      have HF : Hid (Go.Proofs.YtcdfckjlmifjiaaGreat.From wr.heap.size p1 ∧ Go.Proofs.YtcdfckjlmifjiaaGreat.From wr.heap.size q1) := ⟨hF1, hF2⟩
      clear hown0 hcut c0 c1 c2 c3 hA1 hA2 hF1 hF2
      go_wp2_with (refine wpList_append_lies _ rfl _ _ 24 rfl w.heap.size 56 i0 (.agg #[.bool false, .slice none 0 0, .bool false, .slice none 0 0]) 4 64 Tryz.underlying24 hi hz0 hz1 hz2 rfl (by decide) u3 k (frl rs) rfl (HO.out.alloc _) ⟨w1.heap.size, 0, none⟩ 1 1 [.bool s1, .slice p1 n1 nc1, .bool s2, .slice q1 m1 mc1] rfl rfl ?_ (fun x hx => by simp at hx; rcases hx with rfl | rfl | rfl | rfl <;> rfl) (by decide) (by unfold maxLen; omega) (by omega) (by simp; omega) _ rfl ?_; exact World.news_of_block (heap_alloc_new w1 _); intro g cap w3 hown3 hgrow3 hat3 hlt3; have hB3 : Below w.heap.size w w3 := ((bnext' H.out.2.2 hb1).alloc hsz _).grown hgrow3 (by simp; omega) (fun q hq => (HO.out.lt q hq).1); have HA : Hid (LW w.heap.size 56 (EQ 24) w3 (.slice (some ⟨g, 0, none⟩) (k + 1) cap) (rs ++ [⟨s1, p1, n1, nc1, s2, q1, m1, mc1⟩]) (zs ++ [Rat.divInt (ival s1 (xs.take 24)) (ival s2 (ys.take 24))])) := lw_app (lasts_EQ _) H.out.1 H.out.2.1 hb1 HE.out HF.out.1 HF.out.2 hown3 hgrow3 hat3; clear hown3 hgrow3 hat3)
      refine ⟨⟨k + 1, rs ++ [⟨s1, p1, n1, nc1, s2, q1, m1, mc1⟩], _, by omega, by go_num, by have := H.out.1; simp; omega, HA.out, hB3⟩, by simp [intOf]; omega⟩
    · obtain ⟨hel, hLR, hB⟩ := H.out
      obtain ⟨q, cap, hv, hW⟩ := hLR.wa
      rw [hel] at hv hW
      subst hv
      have HR' : Hid (CwP w (.returned (.slice q k cap)) wr) := ⟨q, k, cap, rs, zs, rfl, hW, by omega, hB⟩
      have hcs : Hid (¬ k < n ∨ (k < n ∧ ¬ k < 20)) := by show _ ∨ _; omega
      clear hLR hB hW H hel
      rcases hcs.out with h1 | ⟨h1, h2⟩
      · have i1 : ¬ (k : Int) < (n : Int) := by omega
        clear h1
        go_wp2
        go_ret
        exact HR'.out
      · have i1 : (k : Int) < (n : Int) := by omega
        have i2 : ¬ (k : Int) < 20 := by omega
        clear h1 h2
        go_wp2
        go_ret
        exact HR'.out
/-- What the reference's Window answers. -/
def RwP (K : Nat) (zs : List Rat) (w : World) (e : Ending) (w' : World) : Prop := ∃ q m mc rs, e = .returned (.slice q m mc) ∧ WA (EM K) w' q m mc rs zs ∧ Below w.heap.size w w'
theorem take_snocq (xs : List Rat) (k : Nat) (h : k < xs.length) : xs.take (k + 1) = xs.take k ++ [gq xs k] := by
  rw [List.take_succ_eq_append_getElem h]
  simp [gq, h]
set_option maxHeartbeats 4000000 in
set_option maxRecDepth 100000 in
/-- ashlarref11.Window. -/
theorem rWindow11_any {w : World} {K : Nat} {p : Option Addr} {n nc : Nat} {rs0 : List Rq} {zs : List Rat} (h : WA (EQ K) w p n nc rs0 zs) (hK : 1 ≤ K) (hK' : K ≤ 400) (hn : n ≤ 1000000) :
    Calls Tryz.prog 8 #[.slice p n nc] w (RwP K zs w) := by
  obtain ⟨i0, hi, hzz⟩ := Option.map_eq_some_iff.1 info_rat2
  simp only [Prod.mk.injEq] at hzz
  obtain ⟨hz0, hz1, hz2⟩ := hzz
  have HI : Hid (Tryz.prog.info? 64 = some i0 ∧ i0.zero = some (.agg #[.bool false, .slice none 0 0, .bool false, .slice none 0 0]) ∧ i0.size = 4 ∧ i0.bytes = 64) := ⟨hi, hz0, hz1, hz2⟩
  have HX : Hid (WA (EQ K) w p n nc rs0 zs) := h
  clear h hi hz0 hz1 hz2
  go_enter Tryz.func8, Tryz.ntmps8
  go_wp2_with fail
  go_loopw [3, 4] (fun qv iv wr => ∃ (k : Nat) (rs : List Rq), k ≤ n ∧ iv = .int .i64 k ∧ Hid (rs.length = k ∧ LW w.heap.size 64 (EM K) wr qv rs (zs.take k) ∧ Below w.heap.size w wr)) (fun _ iv _ => n - (intOf iv).toNat)
  case atStart => exact ⟨0, [], Nat.zero_le _, by go_num, rfl, LW.nil _ _ _ _, Below.refl _ _⟩
  case round =>
    obtain ⟨k, rs, hk, rfl, H⟩ := hrel
    rcases Nat.lt_or_ge k n with hlt | hge
    · obtain ⟨hel, hLR, hB⟩ := H.out
      have hPA := HX.out.below (lasts_EQ K) hB
      obtain ⟨b, o, hp, hc⟩ := hPA.rl (by rw [hPA.el]; omega)
      subst hp
      obtain ⟨c0, c1, c2, c3⟩ := hc k (by rw [hPA.el]; omega)
      have hev := hPA.ev k (by omega)
      have HT : Hid (zs.take (k + 1) = zs.take k ++ [gq zs k]) := take_snocq zs k (by rw [hPA.zl]; omega)
      have i1 : (k : Int) < (n : Int) := by omega
      generalize gr rs0 k = e0 at *
      have hfr := rFrom_q hev hK hK'
      clear hel hLR hB hc hPA hev
      generalize gq zs k = y at *
      go_wp2_with fail
      go_fit hfr
      rintro e w1 ⟨s1, p1, n1, s2, q1, m1, rfl, hM, hF1, hF2, hb1⟩
      have HE : Hid (EM K w1 y ⟨s1, p1, n1, n1, s2, q1, m1, m1⟩) := ⟨hM, rfl, rfl⟩
      obtain ⟨hi, hz0, hz1, hz2⟩ := HI.out
      have hown0 := own_below H.out.2.1.own hb1
      rw [H.out.1] at hown0
      have HO : Hid (w1.ownsRow w.heap.size 64 4 u3 k (frl rs)) := hown0
      have hsz : w.heap.size ≤ w1.heap.size := Nat.le_trans H.out.2.2.size hb1.size
      have HF : Hid (Go.Proofs.YtcdfckjlmifjiaaGreat.From wr.heap.size p1 ∧ Go.Proofs.YtcdfckjlmifjiaaGreat.From wr.heap.size q1) := ⟨hF1, hF2⟩
      clear hown0 hfr c0 c1 c2 c3 hM hF1 hF2
      go_wp2_with (refine wpList_append_lies _ rfl _ _ 31 rfl w.heap.size 64 i0 (.agg #[.bool false, .slice none 0 0, .bool false, .slice none 0 0]) 4 64 Tryz.underlying31 hi hz0 hz1 hz2 rfl (by decide) u3 k (frl rs) rfl (HO.out.alloc _) ⟨w1.heap.size, 0, none⟩ 1 1 [.bool s1, .slice p1 n1 n1, .bool s2, .slice q1 m1 m1] rfl rfl ?_ (fun x hx => by simp at hx; rcases hx with rfl | rfl | rfl | rfl <;> rfl) (by decide) (by unfold maxLen; omega) (by omega) (by simp; omega) _ rfl ?_; exact World.news_of_block (heap_alloc_new w1 _); intro g cap w3 hown3 hgrow3 hat3 hlt3; have hB3 : Below w.heap.size w w3 := ((bnext' H.out.2.2 hb1).alloc hsz _).grown hgrow3 (by simp; omega) (fun q hq => (HO.out.lt q hq).1); have HA : Hid (LW w.heap.size 64 (EM K) w3 (.slice (some ⟨g, 0, none⟩) (k + 1) cap) (rs ++ [⟨s1, p1, n1, n1, s2, q1, m1, m1⟩]) (zs.take k ++ [y])) := lw_app (lasts_EM _) H.out.1 H.out.2.1 hb1 HE.out HF.out.1 HF.out.2 hown3 hgrow3 hat3; clear hown3 hgrow3 hat3)
      refine ⟨⟨k + 1, rs ++ [⟨s1, p1, n1, n1, s2, q1, m1, m1⟩], by omega, by go_num, by have := H.out.1; simp; omega, by rw [HT.out]; exact HA.out, hB3⟩, by simp [intOf]; omega⟩
    · obtain rfl : k = n := by omega
      obtain ⟨hel, hLR, hB⟩ := H.out
      obtain ⟨q, cap, hv, hW⟩ := hLR.wa
      rw [hel] at hv hW
      subst hv
      have HR' : Hid (RwP K zs w (.returned (.slice q k cap)) wr) := ⟨q, k, cap, rs, rfl, by rw [List.take_of_length_le (by rw [HX.out.zl]; exact Nat.le_refl _)] at hW; exact hW, hB⟩
      clear hLR hB hW H hel
      have i1 : ¬ (k : Int) < (k : Int) := by omega
      go_wp2
      go_ret
      exact HR'.out
end Go.Proofs.YtcdfckjlmifjiaaGreat
