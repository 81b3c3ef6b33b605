/-
  limbs.Read.
-/
import Derived.Test.YtgdbhgpabehcfaaDoorSb
import Derived.Test.YtgdbhgpabehcfaaDoorCx
namespace Go.Proofs.YtgdbhgpabehcfaaDoor
open Go.RowKit
set_option linter.unusedVariables false
set_option linter.unusedSimpArgs false

/-- A text of a number: its sign and its digits. -/
def IsNum (l : List UInt8) (s : Bool) (d : List UInt8) : Prop := numeral d ∧ l = (if s then 45 :: d else d) ∧ l ≠ [45, 48]
/-- What Read answers. -/
def RdPost (l : List UInt8) (w : World) (e : Ending) (w' : World) : Prop :=
  (∃ s d s' p' n' zs, IsNum l s d ∧ e = .returned (.tuple #[.agg #[.bool s', .slice p' n' n'], .int .i64 0]) ∧ NI w.heap.size w' s' p' n' zs (if s then - dv (bz d) else dv (bz d)) ∧ n' ≤ l.length ∧ Below w.heap.size w w') ∨
  ((∀ s d, ¬ IsNum l s d) ∧ e = .returned (.tuple #[.agg #[.bool false, .slice none 0 0], .int .i64 8]) ∧ Below w.heap.size w w')

set_option maxRecDepth 100000 in
set_option maxHeartbeats 2000000 in
/-- limbs.Read: texts that are too long. -/
theorem Read_long (l : List UInt8) (w : World) (hl : l.length ≤ maxLen) (h : 65536 < l.length) :
    Calls Tryd.prog 20 #[.string ⟨l.toArray⟩] w fun e w' => e = .returned (.tuple #[.agg #[.bool false, .slice none 0 0], .int .i64 8]) ∧ Below w.heap.size w w' := by
  have hlm := hl
  unfold maxLen at hlm
  have hI : (65536 : Int) < (l.length : Int) := by omega
  go_enter Tryd.func20, Tryd.ntmps20
  go_wp2_with fail
  refine (CutPrefix_minus l _ hl).mono ?_
  rintro e w' (⟨r, hr, rfl, rfl⟩ | ⟨hr, rfl, rfl⟩)
  · have HN : Hid (l = 45 :: r) := hr
    clear hr
    go_wp2
    refine bodyPost_ret (v := .tuple #[.agg #[.bool false, .slice none 0 0], .int .i64 8]) (by simp [results, Tryd.results20, go_sem]) rfl ⟨rfl, ?_⟩
    exact (Below.refl _ _).alloc (Nat.le_refl _) _
  · have HN : Hid (∀ r, l ≠ 45 :: r) := hr
    clear hr
    go_wp2
    refine bodyPost_ret (v := .tuple #[.agg #[.bool false, .slice none 0 0], .int .i64 8]) (by simp [results, Tryd.results20, go_sem]) rfl ⟨rfl, ?_⟩
    exact (Below.refl _ _).alloc (Nat.le_refl _) _

/-- What stands behind the prefix. -/
def Pre (l : List UInt8) (s : Bool) (r : List UInt8) : Prop := l = (if s then 45 :: r else r) ∧ (s = false → ∀ r, l ≠ 45 :: r)
theorem PrePost.out {l : List UInt8} {w w' : World} {e : Ending} (h : PrePost l w e w') : ∃ s r, e = .returned (.tuple #[.string ⟨r.toArray⟩, .bool s]) ∧ w = w' ∧ r.length ≤ l.length ∧ Pre l s r := by
  rcases h with ⟨r, hr, rfl, rfl⟩ | ⟨hr, rfl, rfl⟩
  · exact ⟨true, r, rfl, rfl, by rw [hr]; simp, hr, fun h => by cases h⟩
  · exact ⟨false, l, rfl, rfl, Nat.le_refl _, rfl, fun _ => hr⟩
theorem numeral_minus {r : List UInt8} (h : numeral (45 :: r)) : False := by
  have := h.1 0 (by simp)
  rw [bz_cons, gx_zero] at this
  have e : ((45 : UInt8).toNat : Int) = 45 := rfl
  omega
theorem Pre.none {l : List UInt8} {s : Bool} {r : List UInt8} (h : Pre l s r) (hn : ¬ numeral r) : ∀ s d, ¬ IsNum l s d := fun s' d k => by
  obtain ⟨k1, k2, k3⟩ := k
  obtain ⟨h1, h2⟩ := h
  cases s <;> cases s' <;> simp at h1 k2
  · exact hn (by rw [← h1, k2]; exact k1)
  · exact h2 rfl d k2
  · rw [← k2, h1] at k1; exact numeral_minus k1
  · rw [h1] at k2; simp at k2; exact hn (by rw [k2]; exact k1)
theorem isNum_no {s : Bool} {d : List UInt8} : ¬ IsNum [45, 48] s d := fun k => k.2.2 rfl

set_option maxRecDepth 100000 in
set_option maxHeartbeats 2000000 in
/-- limbs.Read. -/
theorem Read_any (l : List UInt8) (w : World) (h : l.length ≤ 65536) :
    Calls Tryd.prog 20 #[.string ⟨l.toArray⟩] w (RdPost l w) := by
  have hI : (l.length : Int) ≤ 65536 := by omega
  go_enter Tryd.func20, Tryd.ntmps20
  go_wp2_with fail
  refine (CutPrefix_minus l _ (by unfold maxLen; omega)).mono ?_
  have hb2 : Bx (w.alloc (.cells #[.bool false, .slice none 0 0] 24)) w.heap.size (.bool false) (.slice none 0 0) := Bx.new _ _ _ rfl
  have hbw : Below w.heap.size w (w.alloc (.cells #[.bool false, .slice none 0 0] 24)) := (Below.refl _ _).alloc (Nat.le_refl _) _
  have hsz : w.heap.size < (w.alloc (.cells #[.bool false, .slice none 0 0] 24)).heap.size := by simp
  generalize (w.alloc (.cells #[.bool false, .slice none 0 0] 24)) = W at *
  have c0 := hb2.c0
  have c1 := hb2.c1
  have f0 := hb2.f0
  have f1 := hb2.f1
  rintro e w' hpre
  obtain ⟨s, r, rfl, rfl, hrl, hP⟩ := hpre.out
  have HP : Hid (Pre l s r) := hP
  clear hpre hP
  go_wp2_with fail
  refine (isNumeral_any r _ (by omega)).mono ?_
  rintro e w' ⟨b, rfl, hb, rfl⟩
  have HB : Hid ((b = true → numeral r) ∧ (numeral r → b = true)) := ⟨hb.1, hb.2⟩
  clear hb
  cases b
  · go_wp2
    refine bodyPost_ret (v := .tuple #[.agg #[.bool false, .slice none 0 0], .int .i64 8]) (by simp [results, Tryd.results20, go_sem, c0, c1]) rfl (.inr ⟨HP.out.none (fun h => by cases HB.out.2 h), rfl, ?_⟩)
    exact (hbw.setCell (by simp) _).setCell (by simp) _
  · have HT : Hid (numeral r) := HB.out.1 rfl
    clear HB
    by_cases h0 : l = [45, 48]
    · subst h0
      go_wp2
      refine bodyPost_ret (v := .tuple #[.agg #[.bool false, .slice none 0 0], .int .i64 8]) (by simp [results, Tryd.results20, go_sem, c0, c1]) rfl (.inr ⟨fun _ _ => isNum_no, rfl, ?_⟩)
      exact (hbw.setCell (by simp) _).setCell (by simp) _
    · have e0 : (l == [45, 48]) = false := by simpa using h0
      have H0 : Hid (l ≠ [45, 48]) := h0
      clear h0
      go_wp2_with fail
      refine (value_any r _ (by omega) HT.out.1).mono ?_
      rintro e w1 ⟨g, n, cap, R, rfl, r1, r2, r3, r4, r5, r6⟩
      have hcp : n ≤ cap ∧ cap ≤ maxLen := by
        rcases r1.2 with ⟨h, _⟩ | ⟨g', cap', cur, h, _, _, h4, h5, _⟩
        · cases h
        · cases h; exact ⟨by omega, h5⟩
      have hrd : Rd w1 (some ⟨g, 0, none⟩) .u32 R := rd_owns r1
      have hBg : W.heap.size ≤ g := (r1.lt g rfl).1
      have HR : Hid (U32 R ∧ val R = dv (bz r)) := ⟨r2, r3⟩
      clear r1 r3
      go_wp2_with fail
      refine (number_any s (some ⟨g, 0, none⟩) n cap R _ r4 hcp.1 hcp.2 hrd).mono ?_
      rintro e w2 ⟨rfl, hb4⟩
      have hB2 := hb2.later r6
      obtain ⟨z0, z1, z2, z3⟩ := resbox hb4 hB2.c0 hB2.c1 hB2.f0 hB2.f1
      have hN := (ni_number (B := W.heap.size) (q := some ⟨g, 0, none⟩) s hrd r2 (from_new hBg)).below hb4
      have htl := tlen_le R
      clear c0 c1 f0 f1
      go_wp2
      refine bodyPost_ret (v := .tuple #[.agg #[.bool (nsg s R), .slice (nad (some ⟨g, 0, none⟩) R) (tlen R) (tlen R)], .int .i64 0]) (by simp [results, Tryd.results20, go_sem, z0, z1]) rfl (.inl ⟨s, r, _, _, _, tr R, ⟨HT.out, HP.out.1, H0.out⟩, rfl, ?_, by omega, ?_⟩)
      · have hv : ival s R = (if s then - dv (bz r) else dv (bz r)) := by rw [ival, HR.out.2]
        rw [← hv]
        exact ((hN.set hsz _).set hsz _).mono (by omega)
      · exact ((bnext (bnext hbw (Nat.le_refl _) r6) (Nat.le_refl _) hb4).setCell (by simp) _).setCell (by simp) _
end Go.Proofs.YtgdbhgpabehcfaaDoor
