/-
  A region that draws: the run in the order of its text, and any other.
-/
import Derived.Test.YtkbgeggflhfleaaGreatDoorG4
namespace Go.Proofs.YtkbgeggflhfleaaGreatDoor.Ev
open Go.RowKit
def metOf (S : Nat → St) (j : Nat) : Met := ⟨j, (S j).next, (S (j + 1)).next, (S (j + 1)).fp, (S (j + 1)).wr⟩
section
variable {P : Program} {ops : Array Oper} {rec : Task → St → Option (Ans × St)}
theorem freeAll_mem {m : Nat} {b : Met} : ∀ {ms : List Met}, freeAll m b ms = true → ∀ a ∈ ms, m.testBit a.i = true ∨ free2 a b = true
  | [], _, a, h => by cases h
  | x :: xs, h, a, ha => by
    simp only [freeAll, Bool.and_eq_true, Bool.or_eq_true] at h
    rcases List.mem_cons.1 ha with rfl | ha
    · exact h.1
    · exact freeAll_mem h.2 a ha
theorem runDraw_trace : ∀ (os : List Oper) (mk : List Nat) (i : Nat) (ms : List Met) (fr : Fr) (s : St) (fr' : Fr) (s' : St) (ms' : List Met), runDraw P rec ops os mk i ms fr s = some (fr', s', ms') →
    ∃ (S : Nat → St) (R : Nat → Fr), S i = s ∧ R i = fr ∧ S (i + os.length) = s' ∧ R (i + os.length) = fr' ∧
      (∀ j o, os[j]? = some o → ∃ m, mk[j]? = some m ∧ runOp P rec ops o (R (i + j)) (S (i + j)).base = some (R (i + j + 1), S (i + j + 1)) ∧ (∀ a ∈ ms, m.testBit a.i = true ∨ free2 a (metOf S (i + j)) = true) ∧ ∀ k, k < j → m.testBit (i + k) = true ∨ free2 (metOf S (i + k)) (metOf S (i + j)) = true) ∧
      (∀ a ∈ ms, a ∈ ms') ∧ (∀ j, j < os.length → metOf S (i + j) ∈ ms') ∧ ∀ a ∈ ms', a ∈ ms ∨ ∃ j, j < os.length ∧ a = metOf S (i + j)
  | [], mk, i, ms, fr, s, fr', s', ms', h => by
    cases mk <;> (simp only [runDraw, Option.some.injEq, Prod.mk.injEq] at h; obtain ⟨rfl, rfl, rfl⟩ := h; exact ⟨fun _ => s, fun _ => fr, rfl, rfl, rfl, rfl, fun j o hj => by simp at hj, fun a ha => ha, fun j hj => by simp at hj, fun a ha => .inl ha⟩)
  | o :: os, [], i, ms, fr, s, fr', s', ms', h => by simp [runDraw] at h
  | o :: os, m :: mk, i, ms, fr, s, fr', s', ms', h => by
    simp only [runDraw, runOpF_eq] at h
    split at h
    · rename_i f1 s1 h1
      obtain ⟨hfree, h⟩ := cond_some h
      obtain ⟨S, R, hS, hR, hS', hR', hall, hin, hmem, hback⟩ := runDraw_trace os mk (i + 1) (⟨i, s.next, s1.next, s1.fp, s1.wr⟩ :: ms) f1 s1 fr' s' ms' h
      have sh : ∀ j, i + 1 + j = i + (j + 1) := fun j => by omega
      refine ⟨fun k => if k = i then s else S k, fun k => if k = i then fr else R k, by simp, by simp, ?_, ?_, ?_, ?_, ?_, ?_⟩
      · dsimp only; rw [if_neg (by simp), ← hS']; congr 1; simp; omega
      · dsimp only; rw [if_neg (by simp), ← hR']; congr 1; simp; omega
      · intro j o' hj
        have hmet : metOf (fun k => if k = i then s else S k) i = ⟨i, s.next, s1.next, s1.fp, s1.wr⟩ := by
          unfold metOf
          simp [hS]
        have hmet2 : ∀ k, metOf (fun k => if k = i then s else S k) (i + (k + 1)) = metOf S (i + 1 + k) := fun k => by
          unfold metOf
          dsimp only
          rw [if_neg (by omega), if_neg (by omega), ← sh]
        cases j with
        | zero =>
          simp only [List.getElem?_cons_zero, Option.some.injEq] at hj
          subst hj
          refine ⟨m, rfl, ?_, ?_, fun k hk => by omega⟩
          · simp only [Nat.add_zero, if_pos, if_neg (show ¬ i + 1 = i by omega), hS, hR]
            exact h1
          · intro a ha
            rw [Nat.add_zero, hmet]
            exact freeAll_mem hfree a ha
        | succ j =>
          simp only [List.getElem?_cons_succ] at hj
          obtain ⟨m', hm', hrun, hms, hks⟩ := hall j o' hj
          refine ⟨m', by simpa using hm', ?_, ?_, ?_⟩
          · dsimp only
            rw [if_neg (by omega), if_neg (by omega), if_neg (by omega), if_neg (by omega), ← sh]
            exact hrun
          · intro a ha
            rw [hmet2]
            exact hms a (by simp [ha])
          · intro k hk
            rw [hmet2]
            cases k with
            | zero =>
              rw [Nat.add_zero, hmet]
              exact hms ⟨i, s.next, s1.next, s1.fp, s1.wr⟩ (by simp)
            | succ k =>
              rw [hmet2, ← sh]
              exact hks k (by omega)
      · exact fun a ha => hin a (by simp [ha])
      · intro j hj
        cases j with
        | zero =>
          have : metOf (fun k => if k = i then s else S k) i = ⟨i, s.next, s1.next, s1.fp, s1.wr⟩ := by
            unfold metOf
            simp [hS]
          rw [Nat.add_zero, this]
          exact hin _ (by simp)
        | succ j =>
          have hmet2 : metOf (fun k => if k = i then s else S k) (i + (j + 1)) = metOf S (i + 1 + j) := by
            unfold metOf
            dsimp only
            rw [if_neg (by omega), if_neg (by omega), sh j]
          rw [hmet2]
          exact hmem j (by simpa using hj)
      · intro a ha
        rcases hback a ha with ha | ⟨j, hj, rfl⟩
        · rcases List.mem_cons.1 ha with rfl | ha
          · refine .inr ⟨0, by simp, ?_⟩
            unfold metOf
            simp [hS]
          · exact .inl ha
        · refine .inr ⟨j + 1, by simpa using hj, ?_⟩
          unfold metOf
          dsimp only
          rw [if_neg (by omega), if_neg (by omega), sh j]
    · cases h
theorem sepAll_get {b : Oper} {mask : Nat} : ∀ {bs0 : List Oper} {i : Nat}, sepAll ops b mask bs0 i = true → ∀ (j : Nat) (x : Oper), bs0[j]? = some x → mask.testBit (i + j) = true ∨ (apartL ops x b = true ∧ apartL ops b x = true ∧ (∀ d, x.dst = some d → b.dst ≠ some d))
  | [], i, _, j, x, hx => by simp at hx
  | y :: ys, i, h, j, x, hx => by
    simp only [sepAll, Bool.and_eq_true, Bool.or_eq_true] at h
    cases j with
    | zero =>
      simp only [List.getElem?_cons_zero, Option.some.injEq] at hx
      subst hx
      rcases h.1 with h1 | ⟨⟨h1, h2⟩, h3⟩
      · exact .inl h1
      · refine .inr ⟨h1, h2, fun d hd e => ?_⟩
        rw [hd] at h3
        simp [e] at h3
    | succ j =>
      simp only [List.getElem?_cons_succ] at hx
      have := sepAll_get h.2 j x hx
      rwa [show i + 1 + j = i + (j + 1) by omega] at this
structure Trc (P : Program) (rec : Task → St → Option (Ans × St)) (ops : Array Oper) (mk : List Nat) (S : Nat → St) (R : Nat → Fr) : Prop where
  step : ∀ (j : Nat) (o : Oper), ops[j]? = some o → runOp P rec ops o (R j) (S j).base = some (R (j + 1), S (j + 1))
  free : ∀ (j : Nat), j < ops.size → ∀ k, k < j → (mk[j]?.getD 0).testBit k = true ∨ free2 (metOf S k) (metOf S j) = true
  ahead : AheadB ops
  sep : ∀ (j : Nat) (b : Oper), ops[j]? = some b → ∀ (k : Nat) (x : Oper), k < j → ops[k]? = some x → (mk[j]?.getD 0).testBit k = true ∨ (apartL ops x b = true ∧ apartL ops b x = true ∧ (∀ d, x.dst = some d → b.dst ≠ some d))
  bits : ∀ (j : Nat) (o : Oper), ops[j]? = some o → ∀ k, (mk[j]?.getD 0).testBit k = true → ∃ e ∈ o.after, Region.binds .any e = true ∧ (k = e.on ∨ (mk[e.on]?.getD 0).testBit k = true)
theorem trc_of {fr fr' : Fr} {s s' : St} {ms : List Met} (hok : drawOk ops (masks ops.toList []) = true) (h : runDraw P rec ops ops.toList (masks ops.toList []) 0 [] fr s = some (fr', s', ms)) :
    ∃ S R, Trc P rec ops (masks ops.toList []) S R ∧ S 0 = s ∧ R 0 = fr ∧ S ops.size = s' ∧ R ops.size = fr' ∧ (∀ j, j < ops.size → metOf S j ∈ ms) ∧ ∀ a ∈ ms, ∃ j, j < ops.size ∧ a = metOf S j := by
  obtain ⟨S, R, hS, hR, hS', hR', hall, _, hmem, hback⟩ := runDraw_trace _ _ _ _ _ _ _ _ _ h
  have hmk := masks_spec ops.toList []
  have hok' : ∀ (k : Nat) (o : Oper), ops[k]? = some o → ∃ m, (masks ops.toList [])[k]? = some m ∧ (∀ e ∈ o.after, Region.binds .any e = true → e.on < k) ∧ sepAll ops o m (ops.toList.take k) 0 = true := by
    intro k o ho
    have hk : k < ops.size := (Array.getElem?_eq_some_iff.1 ho).1
    unfold drawOk at hok
    have h1 := List.all_eq_true.1 hok k (List.mem_range.2 (by simpa using hk))
    have ho' : ops.toList[k]? = some o := by simpa using ho
    rw [ho'] at h1
    obtain ⟨m, hm, _⟩ := hmk.2.2 k o ho'
    rw [List.length_nil, Nat.zero_add] at hm
    rw [hm] at h1
    simp only [Bool.and_eq_true] at h1
    refine ⟨m, hm, fun e he hb => ?_, h1.2⟩
    have h2 := List.all_eq_true.1 h1.1 e (by simpa using he)
    rw [hb] at h2
    simp only [Bool.not_true, Bool.false_or] at h2
    exact Nat.le_of_ble_eq_true h2
  refine ⟨S, R, ⟨fun j o ho => ?_, fun j hj k hk => ?_, fun i o ho e he hb => ?_, fun j b hb k x hk hx => ?_, fun j o ho k hk => ?_⟩, by simpa using hS, by simpa using hR, by simpa using hS', by simpa using hR', fun j hj => by simpa using hmem j (by simpa using hj), fun a ha => ?_⟩
  · obtain ⟨m, _, h1, _⟩ := hall j o (by simpa using ho)
    simpa using h1
  · obtain ⟨m, hm, _, _, h1⟩ := hall j ops[j] (by simp [hj])
    rw [hm]
    simpa using h1 k hk
  · obtain ⟨m, _, h1, _⟩ := hok' i o ho
    exact h1 e he hb
  · obtain ⟨m, hm, _, h1⟩ := hok' j b hb
    rw [hm]
    have h2 := sepAll_get h1 k x (by rw [List.getElem?_take, if_pos hk]; simpa using hx)
    simpa using h2
  · obtain ⟨m, hm, h1⟩ := hmk.2.2 j o (by simpa using ho)
    rw [List.length_nil, Nat.zero_add] at hm
    rw [hm] at hk
    obtain ⟨e, he, hb, h2⟩ := h1 k hk
    refine ⟨e, by simpa using he, hb, ?_⟩
    rcases h2 with h2 | ⟨m', hm', h2⟩
    · exact .inl h2
    · exact .inr (by rw [hm']; exact h2)
  · rcases hback a ha with ha | ⟨j, hj, rfl⟩
    · cases ha
    · exact ⟨j, by simpa using hj, by simp⟩
def Down (ops : Array Oper) (lst : Nat → Bool) : Prop := ∀ (i : Nat) (o : Oper), lst i = true → ops[i]? = some o → ∀ e ∈ o.after, Region.binds .any e = true → lst e.on = true
theorem down_mask {mk : List Nat} {S : Nat → St} {R : Nat → Fr} (T : Trc P rec ops mk S R) {lst : Nat → Bool} (hd : Down ops lst) : ∀ (i : Nat) (o : Oper), ops[i]? = some o → (∀ e ∈ o.after, Region.binds .any e = true → lst e.on = true) → ∀ k, (mk[i]?.getD 0).testBit k = true → lst k = true := by
  intro i
  induction i using Nat.strongRecOn with
  | _ i ih =>
    intro o ho hl k hk
    obtain ⟨e, he, hb, h1⟩ := T.bits i o ho k hk
    rcases h1 with rfl | h1
    · exact hl e he hb
    · have hlt := T.ahead i o ho e he hb
      have hi : e.on < ops.size := by have := (Array.getElem?_eq_some_iff.1 ho).1; omega
      exact ih e.on hlt ops[e.on] (Array.getElem?_eq_getElem hi) (hd e.on _ (hl e he hb) (Array.getElem?_eq_getElem hi)) k h1
end
end Go.Proofs.YtkbgeggflhfleaaGreatDoor.Ev
