/-
  A region that draws, whole.
-/
import Derived.Test.YtkbgeggflhfleaaGreatDoorG5
namespace Go.Proofs.YtkbgeggflhfleaaGreatDoor.Ev
open Go.RowKit
section
variable {P : Program} {ops : Array Oper} {rec : Task → St → Option (Ans × St)} {mk : List Nat} {S : Nat → St} {R : Nat → Fr}
def Turns (S : Nat → St) (i m : Nat) : Prop := m ∈ (S (i + 1)).wr ∨ ((S i).next ≤ m ∧ m < (S (i + 1)).next)
instance (S : Nat → St) (i m : Nat) : Decidable (Turns S i m) := by unfold Turns; infer_instance
noncomputable def Hd (S : Nat → St) (lst : Nat → Bool) : Nat → Nat → Option Blk
  | 0, m => (S 0).heap.get m
  | i + 1, m => if lst i = true ∧ Turns S i m then (S (i + 1)).heap.get m else Hd S lst i m
noncomputable def Td (R : Nat → Fr) (ops : Array Oper) (lst : Nat → Bool) : Nat → Nat → LV
  | 0, t => (R 0).get t
  | i + 1, t => if lst i = true ∧ (ops[i]?).bind (·.dst) = some t then (R (i + 1)).get t else Td R ops lst i t
structure Stp (P : Program) (ops : Array Oper) (S : Nat → St) (R : Nat → Fr) : Prop where
  wf : ∀ i, i ≤ ops.size → WF (S i)
  mono : ∀ i, i < ops.size → Mono (S i).base (S (i + 1))
  nt : ∀ i, i ≤ ops.size → (R i).nt = (R 0).nt
  mks : ∀ i, i ≤ ops.size → (R i).marks = (R 0).marks ∧ (R i).rnd = (R 0).rnd
theorem base_wf {s : St} (h : WF s) : WF s.base := ⟨h.none, h.lt, Nat.le_refl _⟩
theorem stp_of (hg : Good P rec) (hng : NoNG P) (T : Trc P rec ops mk S R) (hw : WF (S 0)) : Stp P ops S R := by
  have key : ∀ i, i ≤ ops.size → WF (S i) ∧ (R i).nt = (R 0).nt ∧ (R i).marks = (R 0).marks ∧ (R i).rnd = (R 0).rnd := by
    intro i
    induction i with
    | zero => exact fun _ => ⟨hw, rfl, rfl, rfl⟩
    | succ i ih =>
      intro hi
      obtain ⟨h1, h2, h3, h4⟩ := ih (by omega)
      obtain ⟨hm, hn, _⟩ := runOp_ok hg hng (base_wf h1) (T.step i ops[i] (Array.getElem?_eq_getElem (by omega)))
      exact ⟨hm.wf (base_wf h1), hn.1.trans h2, hn.2.1.trans h3, hn.2.2.trans h4⟩
  exact ⟨fun i hi => (key i hi).1, fun i hi => (runOp_ok hg hng (base_wf (key i (by omega)).1) (T.step i ops[i] (Array.getElem?_eq_getElem hi))).1, fun i hi => (key i hi).2.1, fun i hi => (key i hi).2.2⟩
theorem Stp.next (A : Stp P ops S R) : ∀ {i j}, i ≤ j → j ≤ ops.size → (S i).next ≤ (S j).next := by
  intro i j hij
  induction j with
  | zero => intro _; have : i = 0 := by omega
            subst this; exact Nat.le_refl _
  | succ j ih =>
    intro hj
    rcases Nat.lt_or_ge i (j + 1) with h | h
    · exact Nat.le_trans (ih (by omega) (by omega)) (A.mono j (by omega)).next
    · have : i = j + 1 := by omega
      subst this; exact Nat.le_refl _
theorem Stp.fp_lt (A : Stp P ops S R) : ∀ i, i < ops.size → ∀ m ∈ (S (i + 1)).fp, m < (S i).next := fun i hi m hm => by
  have h := (A.mono i hi).low (fun _ h => by cases h) m hm
  rw [(A.mono i hi).thr] at h
  exact h
theorem Stp.wr_fp (A : Stp P ops S R) : ∀ i, i < ops.size → ∀ m ∈ (S (i + 1)).wr, m ∈ (S (i + 1)).fp := fun i hi m hm => (A.mono i hi).wrfp (fun _ h => by cases h) m hm
theorem Stp.same (A : Stp P ops S R) {i m : Nat} (hi : i < ops.size) (h : ¬ Turns S i m) : (S (i + 1)).heap.get m = (S i).heap.get m := by
  have hm := A.mono i hi
  rcases Nat.lt_or_ge m (S i).next with h1 | h1
  · exact hm.same m h1 h1 (fun h2 => h (.inl h2))
  · rw [(A.wf i (by omega)).none m h1]
    rcases Nat.lt_or_ge m (S (i + 1)).next with h2 | h2
    · exact absurd (.inr ⟨h1, h2⟩) h
    · exact (A.wf (i + 1) (by omega)).none m h2
theorem Stp.all (A : Stp P ops S R) {lst : Nat → Bool} : ∀ {i}, i ≤ ops.size → (∀ j, j < i → lst j = true) → ∀ m, Hd S lst i m = (S i).heap.get m := by
  intro i
  induction i with
  | zero => intro _ _ m; rfl
  | succ i ih =>
    intro hi hl m
    simp only [Hd]
    by_cases h : Turns S i m
    · rw [if_pos ⟨hl i (by omega), h⟩]
    · rw [if_neg (fun e => h e.2), ih (by omega) (fun j hj => hl j (by omega)) m, A.same (by omega) h]
theorem Stp.dead (A : Stp P ops S R) {m : Nat} (hm : m < (S 0).next) (h : (S 0).heap.get m = none) : ∀ {i}, i ≤ ops.size → (S i).heap.get m = none := by
  intro i
  induction i with
  | zero => exact fun _ => h
  | succ i ih => exact fun hi => (A.mono i (by omega)).dead m (Nat.lt_of_lt_of_le hm (A.next (Nat.zero_le i) (by omega))) (ih (by omega))
theorem Hd_dead (A : Stp P ops S R) {lst : Nat → Bool} {m : Nat} (hm : m < (S 0).next) (h : (S 0).heap.get m = none) : ∀ {i}, i ≤ ops.size → Hd S lst i m = none := by
  intro i
  induction i with
  | zero => exact fun _ => h
  | succ i ih =>
    intro hi
    simp only [Hd]
    split
    · exact A.dead hm h hi
    · exact ih (by omega)
theorem meets_mem {xs ys : List Nat} {m : Nat} (h1 : m ∈ xs) (h2 : m ∈ ys) : meets xs ys = true := by
  unfold meets
  exact List.any_eq_true.2 ⟨m, h1, by simpa using h2⟩
theorem ordered (T : Trc P rec ops mk S R) {j k m : Nat} (hk : k < j) (hj : j < ops.size) (h : (m ∈ (S (k + 1)).wr ∧ m ∈ (S (j + 1)).fp) ∨ (m ∈ (S (j + 1)).wr ∧ m ∈ (S (k + 1)).fp) ∨ ((S k).next ≤ m ∧ m < (S (k + 1)).next ∧ m ∈ (S (j + 1)).fp)) : (mk[j]?.getD 0).testBit k = true := by
  rcases T.free j hj k hk with h1 | h1
  · exact h1
  · exfalso
    unfold free2 metOf at h1
    simp only [Bool.and_eq_true, Bool.not_eq_true'] at h1
    rcases h with ⟨h2, h3⟩ | ⟨h2, h3⟩ | ⟨h2, h3, h4⟩
    · rw [meets_mem h2 h3] at h1; simp at h1
    · rw [meets_mem h2 h3] at h1; simp at h1
    · have h5 := List.all_eq_true.1 h1.2 m h4
      simp only [Bool.or_eq_true] at h5
      rcases h5 with h5 | h5
      · have : m < (S k).next := Nat.le_of_ble_eq_true h5
        omega
      · have := Nat.le_of_ble_eq_true h5
        omega
theorem meets_same (T : Trc P rec ops mk S R) (A : Stp P ops S R) (hfp : ∀ i, i < ops.size → ∀ m ∈ (S (i + 1)).fp, m < (S i).next) {lst : Nat → Bool} (hd : Down ops lst) {i m : Nat} {o : Oper} (ho : ops[i]? = some o) (hi : lst i = false)
    (hr : ∀ e ∈ o.after, Region.binds .any e = true → lst e.on = true) (hm : m ∈ (S (i + 1)).fp) : Hd S lst ops.size m = (S i).heap.get m := by
  have his : i < ops.size := (Array.getElem?_eq_some_iff.1 ho).1
  have low : ∀ k, k ≤ i → Hd S lst k m = (S k).heap.get m := by
    intro k
    induction k with
    | zero => exact fun _ => rfl
    | succ k ih =>
      intro hk
      simp only [Hd]
      by_cases ht : Turns S k m
      · have : lst k = true := by
          refine down_mask T hd i o ho hr k (ordered T (m := m) (by omega) his ?_)
          rcases ht with h1 | h1
          · exact .inl ⟨h1, hm⟩
          · exact .inr (.inr ⟨h1.1, h1.2, hm⟩)
        rw [if_pos ⟨this, ht⟩]
      · rw [if_neg (fun e => ht e.2), ih (by omega), A.same (by omega) ht]
  have high : ∀ k, i ≤ k → k ≤ ops.size → Hd S lst k m = (S i).heap.get m := by
    intro k
    induction k with
    | zero => intro h _; have : i = 0 := by omega
              subst this; exact low 0 (Nat.le_refl _)
    | succ k ih =>
      intro h1 h2
      rcases Nat.lt_or_ge k i with h3 | h3
      · have : i = k + 1 := by omega
        subst this; exact low _ (Nat.le_refl _)
      · simp only [Hd]
        rw [if_neg, ih h3 (by omega)]
        rintro ⟨h4, h5⟩
        rcases Nat.lt_or_ge i k with h6 | h6
        · have : lst i = true := by
            have hko : ops[k]? = some ops[k] := Array.getElem?_eq_getElem (by omega)
            refine down_mask T hd k _ hko (hd k _ h4 hko) i (ordered T (m := m) h6 (by omega) ?_)
            rcases h5 with h5 | h5
            · exact .inr (.inl ⟨h5, hm⟩)
            · have e1 := hfp i his m hm
              have e2 := A.next (i := i) (j := k) (by omega) (by omega)
              omega
          rw [hi] at this; cases this
        · have : k = i := by omega
          subst this
          rw [hi] at h4; cases h4
  exact high _ (by omega) (Nat.le_refl _)
theorem Hd_set (T : Trc P rec ops mk S R) (A : Stp P ops S R) (hfp : ∀ i, i < ops.size → ∀ m ∈ (S (i + 1)).fp, m < (S i).next) (hwf : ∀ i, i < ops.size → ∀ m ∈ (S (i + 1)).wr, m ∈ (S (i + 1)).fp) {lst lst' : Nat → Bool} (hd : Down ops lst) {i : Nat} (his : i < ops.size) (hi : lst i = false) (hi' : lst' i = true) (hs : ∀ k, k ≠ i → lst' k = lst k) (m : Nat) :
    Hd S lst' ops.size m = if Turns S i m then (S (i + 1)).heap.get m else Hd S lst ops.size m := by
  have low : ∀ k, k ≤ i → Hd S lst' k m = Hd S lst k m := by
    intro k
    induction k with
    | zero => exact fun _ => rfl
    | succ k ih => intro hk; simp only [Hd]; rw [hs k (by omega), ih (by omega)]
  have high : ∀ k, i < k → k ≤ ops.size → Hd S lst' k m = if Turns S i m then (S (i + 1)).heap.get m else Hd S lst k m := by
    intro k
    induction k with
    | zero => intro h _; omega
    | succ k ih =>
      intro h1 h2
      rcases Nat.lt_or_ge i k with h3 | h3
      · simp only [Hd]
        rw [hs k (by omega), ih h3 (by omega)]
        by_cases ht : Turns S i m
        · rw [if_pos ht, if_pos ht, if_neg]
          rintro ⟨h4, h5⟩
          have : lst i = true := by
            have hko : ops[k]? = some ops[k] := Array.getElem?_eq_getElem (by omega)
            refine down_mask T hd k _ hko (hd k _ h4 hko) i (ordered T (m := m) h3 (by omega) ?_)
            have e2 := A.next (i := i + 1) (j := k) (by omega) (by omega)
            have e3 := A.next (i := i) (j := k) (by omega) (by omega)
            rcases ht with ht | ht
            · have e1 := hfp i his m (hwf i his m ht)
              rcases h5 with h5 | h5
              · exact .inr (.inl ⟨h5, hwf i his m ht⟩)
              · omega
            · rcases h5 with h5 | h5
              · exact .inr (.inr ⟨ht.1, ht.2, hwf k (by omega) m h5⟩)
              · omega
          rw [hi] at this; cases this
        · rw [if_neg ht, if_neg ht]
      · have : k = i := by omega
        subst this
        simp only [Hd]
        rw [hi', hi, low k (Nat.le_refl _)]
        by_cases ht : Turns S k m
        · rw [if_pos ⟨rfl, ht⟩, if_pos ht]
        · rw [if_neg (fun e => ht e.2), if_neg ht, if_neg (fun e => by cases e.1)]
  exact high _ his (Nat.le_refl _)
end
end Go.Proofs.YtkbgeggflhfleaaGreatDoor.Ev
