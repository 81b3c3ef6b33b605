/-
  Slices, appends, copies, calls.
-/
import Derived.Test.YtkbgeggflhfleaaGreatDoorE6
namespace Go.Proofs.YtkbgeggflhfleaaGreatDoor.Ev
open Go.RowKit
section
variable {P : Program} {ρ : Ren} {w : World}
theorem bound_ok {x : Option LV} {y : Option Value} {d k : Nat} (h : bound x d = some k) (hx : match x, y with | none, none => True | some u, some v => VR ρ u v | _, _ => False) :
    (x = none ∧ y = none ∧ k = d) ∨ ∃ q : IntKind, ∃ i : Int, y = some (.int q i) ∧ 0 ≤ i ∧ i.toNat = k ∧ x ≠ none := by
  cases x with
  | none =>
    cases y with
    | none => cases h; exact .inl ⟨rfl, rfl, rfl⟩
    | some v => exact hx.elim
  | some u =>
    cases y with
    | none => exact hx.elim
    | some v =>
      unfold bound at h
      split at h
      · contradiction
      · rename_i q i e
        cases e
        obtain ⟨h1, h2⟩ := cond_some h
        cases h2
        cases hx
        exact .inr ⟨q, i, rfl, of_decide_eq_true h1, rfl, by simp⟩
      · cases h
def OR (ρ : Ren) : Option LV → Option Value → Prop
  | none, none => True
  | some u, some v => VR ρ u v
  | _, _ => False
theorem bound_some {x : Option LV} {y : Option Value} {d k : Nat} (h : bound x d = some k) (hx : OR ρ x y) :
    (x = none ∧ y = none ∧ k = d) ∨ ∃ q : IntKind, ∃ i : Int, y = some (.int q i) ∧ 0 ≤ i ∧ i.toNat = k ∧ x ≠ none := by
  refine bound_ok (ρ := ρ) h ?_
  cases x <;> cases y <;> exact hx
theorem run_bound {q : IntKind} {i : Int} {y : Nat} {c : BoundsCode} (h0 : 0 ≤ i) (h1 : i.toNat ≤ y) : (Instr.sliceBound (.int q i) y c).run P w = .ok i.toNat w := by
  have : i ≤ (y : Int) := by omega
  simp [Instr.sliceBound, asIntOf, h0, this]
theorem run_bounds {b : Bool} {len cap l h : Nat} {lo hi : Option LV} {yl yh : Option Value} (hl : bound lo 0 = some l) (hh : bound hi len = some h) (h1 : OR ρ lo yl) (h2 : OR ρ hi yh) (h3 : l ≤ h) (h4 : h ≤ cap) :
    (Instr.sliceBounds b len cap yl yh none).run P w = .ok (l, h, cap) w := by
  rcases bound_some hl h1 with ⟨_, rfl, rfl⟩ | ⟨q, i, rfl, hi0, rfl, _⟩ <;> rcases bound_some hh h2 with ⟨_, rfl, rfl⟩ | ⟨q', j, rfl, hj0, rfl, _⟩
  · simp [Instr.sliceBounds]
  · simp [Instr.sliceBounds, run_bound hj0 h4]
  · simp [Instr.sliceBounds, run_bound hi0 h3]
  · simp [Instr.sliceBounds, run_bound hj0 h4, run_bound hi0 h3]
theorem run_bounds3 {b : Bool} {len cap l h m : Nat} {lo hi : Option LV} {mx : LV} {yl yh : Option Value} {ym : Value} (hl : bound lo 0 = some l) (hh : bound hi len = some h) (hm : bound (some mx) 0 = some m) (h1 : OR ρ lo yl) (h2 : OR ρ hi yh) (hhi : hi ≠ none) (hmv : VR ρ mx ym) (h3 : l ≤ h) (h4 : h ≤ m) (h5 : m ≤ cap) :
    (Instr.sliceBounds b len cap yl yh (some ym)).run P w = .ok (l, h, m) w := by
  rcases bound_some (ρ := ρ) (y := some ym) hm hmv with ⟨e, _⟩ | ⟨q'', k, e, hk0, rfl, _⟩
  · cases e
  · cases e
    rcases bound_some hl h1 with ⟨_, rfl, rfl⟩ | ⟨q, i, rfl, hi0, rfl, _⟩ <;> rcases bound_some hh h2 with ⟨e, _, _⟩ | ⟨q', j, rfl, hj0, rfl, _⟩
    · exact absurd e hhi
    · simp [Instr.sliceBounds, run_bound hj0 h4, run_bound hk0 h5]
    · exact absurd e hhi
    · simp [Instr.sliceBounds, run_bound hj0 h4, run_bound hi0 h3, run_bound hk0 h5]
theorem slice_vr {n off len : Nat} {c : Cap} {x : Value} (h : VR ρ (.slice n off len c) x) : ∃ p cap, ρ n = some p ∧ x = .slice (some ⟨p.blk, p.base + off, none⟩) len cap ∧ (∀ k, c = .known k → cap = k) ∧ ∀ u, c = .more u → cap = p.cap - u := by
  cases h with
  | known hp => exact ⟨_, _, hp, rfl, fun k e => (by cases e; rfl), fun u e => (by cases e)⟩
  | more hp => exact ⟨_, _, hp, rfl, fun k e => (by cases e), fun u e => (by cases e; rfl)⟩
theorem vr_slice {n off len cap : Nat} {c : Cap} {p : Pl} (hp : ρ n = some p) (h1 : ∀ k, c = .known k → cap = k) (h2 : ∀ u, c = .more u → cap = p.cap - u) : VR ρ (.slice n off len c) (.slice (some ⟨p.blk, p.base + off, none⟩) len cap) := by
  cases c with
  | known k => rw [h1 k rfl]; exact .known hp
  | more u => rw [h2 u rfl]; exact .more hp
theorem capLow_ok {G : Nat → Prop} {s : St} {n off size cap k : Nat} {c : Cap} {sure : Bool} {p : Pl} (hc : capLow s n off size c = some (k, sure)) (hp : ρ n = some p) (hk1 : ∀ k, c = .known k → cap = k) (hk2 : ∀ u, c = .more u → cap = p.cap - u) (hw : WF s) (hG : Gok G (cond sure s (s.touch n))) (hr : RepOn G ρ s.heap w) :
    k ≤ cap ∧ (sure = true → cap = k) := by
  unfold capLow at hc
  split at hc
  · cases hc
    exact ⟨by rw [hk1 _ rfl]; exact Nat.le_refl _, fun _ => hk1 _ rfl⟩
  · rename_i u
    split at hc
    · rename_i b hbc
      obtain ⟨hb, hlp⟩ := getC_eq hbc
      obtain ⟨h1, h2⟩ := cond_some hc
      cases h2
      refine ⟨?_, (fun e => by cases e)⟩
      simp only [Bool.and_eq_true, beq_iff_eq] at h1
      obtain ⟨⟨h1, h2⟩, h3⟩ := h1
      have h1 : 0 < size := Nat.le_of_ble_eq_true h1
      have h2 := Nat.eq_of_beq_eq_true h2
      have hGn := gok_touch hw (by unfold Live; rw [hb]; simp) hG
      obtain ⟨q, ds, hrep⟩ := (hr.rep n b hGn hb).cells hlp
      have := hrep.at_; rw [hp] at this; cases this
      have hm := hrep.more size h3
      have hf := hrep.fit
      rw [hk2 u rfl]
      have hle : b.cells.length ≤ p.cap * size := by omega
      have h5 : (b.cells.length - off) / size ≤ (p.cap * size - u * size) / size := Nat.div_le_div_right (by omega)
      rw [← Nat.sub_mul, Nat.mul_div_cancel _ h1] at h5
      exact h5
    · cases hc
theorem run_slice_slice {t elem : TypeId} {a : Option Addr} {len cap size l h m : Nat} {yl yh ym : Option Value} (hu : P.underlying t = some (.slice elem)) (hsz : sizeAt P elem = some size) (hb : (Instr.sliceBounds true len cap yl yh ym).run P w = .ok (l, h, m) w) :
    (Instr.sliceAt t (.slice a len cap) yl yh ym).run P w = .ok (.slice (if m = l then a else a.map (·.add (l * size))) (h - l) (m - l)) w := by
  simp [Instr.sliceAt, Instr.slice, run_underlying hu, hb, run_size hsz]
theorem isNone0_bound {x : Option LV} (h : isNone0 x = true) : bound x 0 = some 0 := by
  unfold isNone0 at h
  split at h
  · rfl
  · rename_i k i
    have : i = 0 := by simpa using h
    subst this
    rfl
  · cases h
theorem doSlice_ok {G : Nat → Prop} {s s' : St} {t : TypeId} {u : LV} {x : Value} {lo hi mx : Option LV} {yl yh ym : Option Value} {r : R} (h : doSlice P t u lo hi mx s = some (r, s')) (hx : VR ρ u x) (hl : OR ρ lo yl) (hh : OR ρ hi yh) (hm : OR ρ mx ym) (hw : WF s) (hG : Gok G s') (hr : RepOn G ρ s.heap w) (hf : Fresh ρ s s') :
    Mono s s' ∧ ∃ ρ', Ext G s s' ρ ρ' w w ∧ ∃ v, r = .val v ∧ ∃ y, (Instr.sliceAt t x yl yh ym).run P w = .ok y w ∧ VR ρ' v y := by
  unfold doSlice at h
  split at h
  · rename_i elem n off len c hu
    split at h
    · rename_i size hsz
      split at h
      · rename_i v s1 hs
        cases h
        unfold sliceIt at hs
        split at hs
        · cases hs
        · rename_i k sure hc
          obtain ⟨p, cap, hp, rfl, hk1, hk2⟩ := slice_vr hx
          have hme : Mono s (cond sure s (s.touch n)) ∧ Ext G s (cond sure s (s.touch n)) ρ ρ w w := by
            cases sure
            · exact ⟨mono_touch s n, ext_touch n hr⟩
            · exact ⟨Mono.refl s, ext_refl hr⟩
          dsimp only at hs
          split at hs
          · rename_i l h1 hbl hbh
            have hym : ym = none := by cases ym with
              | none => rfl
              | some y => exact hm.elim
            subst hym
            cases hcond : (l.ble h1 && h1.ble k && (l.beq 0 || l.blt k)) with
            | true =>
              rw [hcond] at hs
              cases hs
              obtain ⟨hka, hkb⟩ := capLow_ok hc hp hk1 hk2 hw hG hr
              simp only [Bool.and_eq_true, Bool.or_eq_true] at hcond
              obtain ⟨⟨q1, q2⟩, q3⟩ := hcond
              have q1 := Nat.le_of_ble_eq_true q1
              have q2 := Nat.le_of_ble_eq_true q2
              refine ⟨hme.1, ρ, hme.2, _, rfl, _, run_slice_slice hu hsz (run_bounds hbl hbh hl hh q1 (by omega)), ?_⟩
              have hadr : (if cap = l then some (⟨p.blk, p.base + off, none⟩ : Addr) else (some (⟨p.blk, p.base + off, none⟩ : Addr)).map (·.add (l * size))) = some ⟨p.blk, p.base + (off + l * size), none⟩ := by
                rcases q3 with q3 | q3
                · have q3 := Nat.eq_of_beq_eq_true q3
                  subst q3
                  split <;> simp [Addr.add_lit]
                · have q3 : l < k := Nat.le_of_ble_eq_true q3
                  rw [if_neg (by omega)]
                  simp [Addr.add_lit, Nat.add_assoc]
              rw [hadr]
              refine vr_slice hp (fun j e => ?_) (fun j e => ?_)
              · cases c with
                | known c0 => simp only [Cap.less, Cap.known.injEq] at e; rw [hk1 c0 rfl]; exact e
                | more u => cases e
              · cases c with
                | known c0 => cases e
                | more u => simp only [Cap.less, Cap.more.injEq] at e; rw [hk2 u rfl, ← e]; omega
            | false =>
              rw [hcond] at hs
              simp only [cond_false] at hs
              obtain ⟨q1, hs⟩ := cond_some hs
              simp only [Bool.and_eq_true] at q1
              obtain ⟨q1, q2⟩ := q1
              have q1 := Nat.eq_of_beq_eq_true q1
              have q2 := Nat.eq_of_beq_eq_true q2
              cases sure with
              | true =>
                simp only [cond_true] at hs hme
                cases hs
                obtain ⟨hka, hkb⟩ := capLow_ok hc hp hk1 hk2 hw hG hr
                have := hkb rfl
                refine ⟨hme.1, ρ, hme.2, _, rfl, _, run_slice_slice hu hsz (run_bounds hbl hbh hl hh (by omega) (by omega)), ?_⟩
                rw [if_pos (by omega)]
                have e1 : h1 - l = 0 := by omega
                have e2 : cap - l = 0 := by omega
                rw [e1, e2]
                exact .known hp
              | false =>
                simp only [cond_false] at hs hme
                split at hs
                · rename_i m' s2 hfr
                  cases hs
                  have hmf := mono_fresh hfr
                  obtain ⟨hka, hkb⟩ := capLow_ok hc hp hk1 hk2 hw (hG.back hmf) hr
                  have hf2 : Fresh ρ (s.touch n) s' := fun k a b => hf k (by rw [touch_next] at a; exact a) b
                  have hw2 := hme.1.wf hw
                  obtain ⟨rfl, _, _⟩ := fresh_eq hfr
                  have e1 : h1 - l = 0 := by omega
                  by_cases ec : cap = l
                  · refine ⟨hme.1.trans hmf, _, hme.2.trans hw hme.1 hmf (ext_fresh hfr hw2 hme.2.rep hf2 ⟨p.blk, p.base + off, 0⟩), _, rfl, _, run_slice_slice hu hsz (run_bounds hbl hbh hl hh (by omega) (by omega)), ?_⟩
                    rw [if_pos ec, e1, ec, Nat.sub_self]
                    exact VR.more (ρ := ρ.upd (s.touch n).next ⟨p.blk, p.base + off, 0⟩) (n := (s.touch n).next) (off := 0) (len := 0) (u := 0) (p := ⟨p.blk, p.base + off, 0⟩) (by simp [Ren.upd])
                  · refine ⟨hme.1.trans hmf, _, hme.2.trans hw hme.1 hmf (ext_fresh hfr hw2 hme.2.rep hf2 ⟨p.blk, p.base + off + l * size, cap - l⟩), _, rfl, _, run_slice_slice hu hsz (run_bounds hbl hbh hl hh (by omega) (by omega)), ?_⟩
                    rw [if_neg ec, e1]
                    have := VR.more (ρ := ρ.upd (s.touch n).next ⟨p.blk, p.base + off + l * size, cap - l⟩) (n := (s.touch n).next) (off := 0) (len := 0) (u := 0) (p := ⟨p.blk, p.base + off + l * size, cap - l⟩) (by simp [Ren.upd])
                    simpa [Addr.add_lit] using this
                · cases hs
          · rename_i l h1 m hbl hbh
            split at hs
            · rename_i m0 hi0 hbm
              obtain ⟨q1, hs⟩ := cond_some hs
              cases hs
              simp only [Bool.and_eq_true] at q1
              obtain ⟨⟨q1, q2⟩, q3⟩ := q1
              have q1 := Nat.le_of_ble_eq_true q1
              have q2 := Nat.le_of_ble_eq_true q2
              have q3 := Nat.le_of_ble_eq_true q3
              obtain ⟨hka, hkb⟩ := capLow_ok hc hp hk1 hk2 hw hG hr
              cases ym with
              | none => exact hm.elim
              | some y0 =>
                refine ⟨hme.1, ρ, hme.2, _, rfl, _, run_slice_slice hu hsz (run_bounds3 hbl hbh hbm hl hh (by simp) hm q1 q2 (by omega)), ?_⟩
                by_cases e : m0 = l
                · rw [if_pos e]
                  have : m0.beq l = true := by rw [e]; exact Nat.beq_refl l
                  rw [this]
                  exact .known hp
                · rw [if_neg e]
                  have : m0.beq l = false := by
                    cases hb : m0.beq l with
                    | true => exact absurd (Nat.eq_of_beq_eq_true hb) e
                    | false => rfl
                  rw [this]
                  have := VR.known (ρ := ρ) (n := n) (off := off + l * size) (len := h1 - l) (c := m0 - l) hp
                  simpa [Addr.add_lit, Nat.add_assoc] using this
            · cases hs
          · cases hs
      · cases h
    · cases h
  · rename_i elem hu
    obtain ⟨q1, h⟩ := cond_some h
    cases h
    simp only [Bool.and_eq_true] at q1
    obtain ⟨⟨⟨⟨q1, q2⟩, q3⟩, q4⟩, q5⟩ := q1
    cases hx
    obtain ⟨size, hsz0⟩ := Option.isSome_iff_exists.1 q5
    have hsz : ∀ yl yh ym, (Instr.sliceBounds true 0 0 yl yh ym).run P w = .ok (0, 0, 0) w → (Instr.sliceAt t (.slice none 0 0) yl yh ym).run P w = .ok (.slice none 0 0) w := fun yl yh ym hb => by
      rw [run_slice_slice hu hsz0 hb]
      simp
    refine ⟨Mono.refl s, ρ, ext_refl hr, _, rfl, _, hsz _ _ _ ?_, .nilSlice⟩
    cases mx with
    | none =>
      have hym : ym = none := by cases ym with
        | none => rfl
        | some y => exact hm.elim
      subst hym
      exact run_bounds (isNone0_bound q1) (isNone0_bound q2) hl hh (Nat.le_refl _) (Nat.le_refl _)
    | some m =>
      cases ym with
      | none => exact hm.elim
      | some y0 =>
        refine run_bounds3 (isNone0_bound q1) (isNone0_bound q2) (isNone0_bound q4) hl hh ?_ hm (Nat.le_refl _) (Nat.le_refl _) (Nat.le_refl _)
        intro e
        subst e
        simp at q3
  · rename_i b hu
    split at h
    · rename_i l h1 hbl hbh
      obtain ⟨q1, h⟩ := cond_some h
      cases h
      simp only [Bool.and_eq_true] at q1
      have q2 := Nat.le_of_ble_eq_true q1.1
      have q3 := Nat.le_of_ble_eq_true q1.2
      cases hx
      have hym : ym = none := by cases ym with
        | none => rfl
        | some y => exact hm.elim
      subst hym
      refine ⟨Mono.refl s, ρ, ext_refl hr, _, rfl, .string (b.extract l h1), ?_, .str _⟩
      simp [Instr.sliceAt, Instr.slice, run_underlying hu, run_bounds (P := P) (w := w) hbl hbh hl hh q2 q3]
    · cases h
  · cases h
end
end Go.Proofs.YtkbgeggflhfleaaGreatDoor.Ev
