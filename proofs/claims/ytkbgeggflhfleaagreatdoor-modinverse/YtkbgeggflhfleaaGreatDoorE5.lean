/-
  Operations that leave the memory as it is.
-/
import Derived.Test.YtkbgeggflhfleaaGreatDoorE4
import Derived.Laws.Build
import Derived.Laws.Cover3
namespace Go.Proofs.YtkbgeggflhfleaaGreatDoor.Ev
open Go.RowKit
section
variable {P : Program} {ρ : Ren} {w : World}
theorem fillL_ok (place : Nat → Option (Nat × Nat)) : ∀ {parts : List (Nat × LV)} {xs : List (Nat × Value)} {cells out : List LV} {cs : Array Value}, PRs ρ parts xs → VRs ρ cells cs.toList → fillL place cells parts = some out → ∃ ds : Array Value, Instr.fill place cs xs = some ds ∧ VRs ρ out ds.toList
  | _, _, cells, out, cs, .nil, hc, h => by cases h; exact ⟨cs, rfl, hc⟩
  | _, _, cells, out, cs, .cons (i := i) (v := v) (x := x) (vs := vs) (xs := xs) hv hvs, hc, h => by
    simp only [fillL] at h
    split at h
    · cases h
    · rename_i off size hp
      obtain ⟨h1, h⟩ := cond_some h
      split at h
      · rename_i cs1 hw
        have hx := hv.cells
        have hxl := hx.length
        have hcl := hc.length
        have hsz := Nat.eq_of_beq_eq_true h1
        obtain ⟨hfit, _⟩ := writeCells_eq hw
        have hfold : ∃ ds : Array Value, (x.cells.zipIdx.foldl (fun cs (c, j) => cs.setIfInBounds (off + j) c) cs) = ds ∧ ds.size = cs.size ∧ ∀ j, ds[j]? = if off ≤ j ∧ j < off + x.cells.size then x.cells[j - off]? else cs[j]? := by
          refine ⟨_, rfl, ?_⟩
          have gen : ∀ (l : List Value) (k : Nat) (ds : Array Value), k + l.length + off ≤ ds.size → ((l.zipIdx k).foldl (fun cs (c, j) => cs.setIfInBounds (off + j) c) ds).size = ds.size ∧ ∀ j, ((l.zipIdx k).foldl (fun cs (c, j) => cs.setIfInBounds (off + j) c) ds)[j]? = if off + k ≤ j ∧ j < off + k + l.length then l[j - off - k]? else ds[j]? := by
            intro l
            induction l with
            | nil => intro k ds _; simp; intro j h1 h2; omega
            | cons c l ih =>
              intro k ds hk
              simp only [List.length_cons] at hk
              simp only [List.zipIdx_cons, List.foldl_cons]
              obtain ⟨e1, e2⟩ := ih (k + 1) (ds.setIfInBounds (off + k) c) (by simp; omega)
              refine ⟨by rw [e1]; simp, fun j => ?_⟩
              rw [e2]
              by_cases hj : j = off + k
              · subst hj
                rw [if_neg (by omega), if_pos (by simp)]
                rw [Array.getElem?_setIfInBounds_self_of_lt (by omega)]
                simp
              · by_cases hj2 : off + (k + 1) ≤ j ∧ j < off + (k + 1) + l.length
                · rw [if_pos hj2, if_pos (by simp; omega)]
                  have : j - off - k = (j - off - (k + 1)) + 1 := by omega
                  rw [this]
                  simp
                · rw [if_neg hj2, if_neg (by simp; omega), Array.getElem?_setIfInBounds_ne (by omega)]
          have := gen x.cells.toList 0 cs (by simp at hxl hcl ⊢; omega)
          have e : x.cells.zipIdx = (x.cells.toList.zipIdx 0).toArray := by apply Array.ext' ; simp [Array.toList_zipIdx]
          rw [e, List.foldl_toArray']
          · refine ⟨this.1, fun j => ?_⟩
            rw [this.2 j]
            simp
          · simp
        obtain ⟨ds, hds, hdsz, hdget⟩ := hfold
        have hcs1 : VRs ρ cs1 ds.toList := by
          refine VRs.of_get (by rw [writeCells_len hw]; simp at hcl ⊢; omega) fun j u y hu hy => ?_
          rw [writeCells_get hw] at hu
          have hy' : ds[j]? = some y := by simpa using hy
          rw [hdget] at hy'
          simp at hxl
          by_cases hj : off ≤ j ∧ j < off + v.cells.length
          · rw [if_pos hj] at hu
            rw [if_pos (by omega)] at hy'
            obtain ⟨z, hz, hvr⟩ := hx.get hu
            have : x.cells[j - off]? = some z := by simpa using hz
            rw [this] at hy'
            cases hy'
            exact hvr
          · rw [if_neg hj] at hu
            rw [if_neg (by omega)] at hy'
            obtain ⟨z, hz, hvr⟩ := hc.get hu
            have : cs[j]? = some z := by simpa using hz
            rw [this] at hy'
            cases hy'
            exact hvr
        obtain ⟨es, he, hvr⟩ := fillL_ok place hvs hcs1 h
        refine ⟨es, ?_, hvr⟩
        simp only [Instr.fill, hp]
        rw [if_neg (by simp at hxl hcl ⊢; omega), hds]
        exact he
      · cases h
theorem placesOf_ok : ∀ {fs : List Field} {pl : List (Nat × Nat)}, placesOf P fs = some pl → ((fs.mapM fun f => Prod.mk f.offset <$> sizeOf f.type) : Sem (List (Nat × Nat))).run P w = .ok pl w
  | [], pl, h => by cases h; simp
  | f :: fs, pl, h => by
    simp only [placesOf] at h
    split at h
    · rename_i k r hk hr
      cases h
      simp [List.mapM_cons, run_size hk, placesOf_ok hr]
    · cases h
theorem doBuild_ok {s s' : St} {t : TypeId} {ps : List (Nat × LV)} {xs : Array (Nat × Value)} {r : R} (h : doBuild P t ps s = some (r, s')) (hp : PRs ρ ps xs.toList) :
    s' = s ∧ ∃ v, r = .val v ∧ ∃ x, (Instr.build t xs).run P w = .ok x w ∧ VR ρ v x := by
  unfold doBuild at h
  split at h
  · rename_i z fields hz hu
    split at h
    · rename_i pl hpl
      split at h
      · rename_i cs hf
        cases h
        obtain ⟨zx, hzx, hzv⟩ := run_zero hz
        obtain ⟨ds, hd, hvr⟩ := fillL_ok (fun i => pl[i]?) hp (hzv ρ).cells hf
        refine ⟨rfl, _, rfl, .agg ds, ?_, by have := VR.agg hvr; simpa using this⟩
        have hmap : ((fields.mapM fun f => do pure (f.offset, ← sizeOf f.type)) : Sem (Array (Nat × Nat))).run P w = .ok pl.toArray w := by
          rw [Array.mapM_eq_mapM_toList]
          simp [placesOf_ok hpl]
        simp only [Instr.build, Sem.run_bind, hzx, Result.andThen_ok, run_underlying hu, hmap]
        have hd' : Instr.fill (fun i => pl.toArray[i]?) zx.cells xs.toList = some ds := by
          rw [← hd]
          congr 1
          funext i
          simp
        rw [hd']
        simp
      · cases h
    · cases h
  · cases h
end
end Go.Proofs.YtkbgeggflhfleaaGreatDoor.Ev
