/-
  ashlarlaw2.Cut.
-/
import Derived.Test.YtongkalfdgleaaaDoorZd
import Derived.Test.YtongkalfdgleaaaDoorCu
namespace Go.Proofs.YtongkalfdgleaaaDoor
open Go.RowKit
set_option linter.unusedVariables false
set_option linter.unusedSimpArgs false

/-- What Cut answers. -/
def QCut (s t : Bool) (xs ys : List Int) (w : World) (e : Ending) (w' : World) : Prop :=
  ∃ p n nc q m mc, e = .returned (.agg #[.bool s, .slice p n nc, .bool t, .slice q m mc]) ∧ AI w' p n nc (xs.take 24) ∧ AI w' q m mc (ys.take 24) ∧ n ≤ 24 ∧ m ≤ 24 ∧ Go.Proofs.YtongkalfdgleaaaDoor.From w.heap.size p ∧ Go.Proofs.YtongkalfdgleaaaDoor.From w.heap.size q ∧ Below w.heap.size w w'
set_option maxRecDepth 100000 in
set_option maxHeartbeats 2000000 in
/-- ashlarlaw2.Cut. -/
theorem qCut_any (s t : Bool) (p q : Option Addr) (n nc m mc : Nat) (xs ys : List Int) (w : World) (hl : xs.length = n) (hnc : n ≤ nc) (hb : nc ≤ maxLen) (hX : Rd w p .u32 xs) (hU : U32 xs) (hp : p = none → nc = 0) (hl' : ys.length = m) (hnc' : m ≤ mc) (hb' : mc ≤ maxLen) (hX' : Rd w q .u32 ys) (hU' : U32 ys) (hp' : q = none → mc = 0) :
    Calls Tryd.prog 6 #[.agg #[.bool s, .slice p n nc, .bool t, .slice q m mc]] w (QCut s t xs ys w) := by
  go_enter Tryd.func6, Tryd.ntmps6
  go_wp2_with fail
  have hA0 : Bq ((w.alloc (.cells #[.bool s, .slice p n nc, .bool t, .slice q m mc] 26)).alloc (.cells #[.bool false, .slice none 0 0, .bool false, .slice none 0 0] 26)) w.heap.size (.bool s) (.slice p n nc) (.bool t) (.slice q m mc) := (Bq.new _ _ _ _ _ rfl).alloc _
  have hR : Bq ((w.alloc (.cells #[.bool s, .slice p n nc, .bool t, .slice q m mc] 26)).alloc (.cells #[.bool false, .slice none 0 0, .bool false, .slice none 0 0] 26)) (w.heap.size + 1) (.bool false) (.slice none 0 0) (.bool false) (.slice none 0 0) := Bq.new _ _ _ _ _ (by simp)
  have hW : Below w.heap.size w ((w.alloc (.cells #[.bool s, .slice p n nc, .bool t, .slice q m mc] 26)).alloc (.cells #[.bool false, .slice none 0 0, .bool false, .slice none 0 0] 26)) := ((Below.refl _ _).alloc (Nat.le_refl _) _).alloc (by simp) _
  generalize (w.alloc (.cells #[.bool s, .slice p n nc, .bool t, .slice q m mc] 26)).alloc (.cells #[.bool false, .slice none 0 0, .bool false, .slice none 0 0] 26) = W at *
  obtain ⟨a0, a1, a2, a3, -, -, -, -⟩ := hA0
  go_region_held3 (fun w' => w'.cell? ⟨w.heap.size, 0, none⟩ = some (.bool s) ∧ w'.cell? ⟨w.heap.size, 1, none⟩ = some (.slice p n nc) ∧ w'.cell? ⟨w.heap.size, 2, none⟩ = some (.bool t) ∧ w'.cell? ⟨w.heap.size, 3, none⟩ = some (.slice q m mc)) (first | with_reducible exact ⟨a0, a1, a2, a3⟩ | with_reducible exact keepc4 ⟨a0, a1, a2, a3⟩ hV1 | with_reducible exact keepc4 ⟨a0, a1, a2, a3⟩ hV2 | (simp [go_sem, *]; done))
    (first
      | (go_at_call_of 11 (Value.agg #[.bool s, .slice p n nc]); refine (Cut_any s p n nc xs _ hl hnc hb (hX.below hW).drew hU hp).mono ?_; rintro e v1 ⟨p1, n1, nc1, rfl, hA1, hn1, hF1, hv1⟩; have hV1 := undrew hv1)
      | (go_at_call_of 11 (Value.agg #[.bool t, .slice q m mc]); refine (Cut_any t q m mc ys _ hl' hnc' hb' ((hX'.below hW).below hV1) hU' hp').mono ?_; rintro e v2 ⟨p2, n2, nc2, rfl, hA2, hn2, hF2, hv2⟩; have hV2 := bnext' hV1 hv2; have hR2 := hR.later hV2; obtain ⟨r0, r1, r2, r3, f0, f1, f2, f3⟩ := hR2))
  clear a0 a1 a2 a3
  go_wp2
  have sR := hR.lt
  have sV := hV1.size
  refine bodyPost_ret (v := .agg #[.bool s, .slice p1 n1 nc1, .bool t, .slice p2 n2 nc2]) (by simp [results, Tryd.results6, go_sem, r0, r1, r2, r3]) rfl ⟨_, _, _, _, _, _, rfl, ?_, ?_, hn1, hn2, ?_, ?_, ?_⟩
  · exact (hA1.below hv2).set4 (fun _ => off_from hF1 sR) _ _ _ _
  · exact hA2.set4 (fun _ => off_from hF2 (by omega)) _ _ _ _
  · exact fun a ha => Nat.le_trans hW.size (hF1 a ha)
  · exact fun a ha => Nat.le_trans (Nat.le_trans hW.size sV) (hF2 a ha)
  · exact bset4 (bnext' hW hV2) (by omega) _ _ _ _
end Go.Proofs.YtongkalfdgleaaaDoor
