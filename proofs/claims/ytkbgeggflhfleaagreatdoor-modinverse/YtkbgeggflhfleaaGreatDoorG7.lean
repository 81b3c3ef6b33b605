/-
  A region that draws: the invariant.
-/
import Derived.Test.YtkbgeggflhfleaaGreatDoorG6
namespace Go.Proofs.YtkbgeggflhfleaaGreatDoor.Ev
open Go.RowKit
section
variable {P : Program} {ops : Array Oper} {rec : Task → St → Option (Ans × St)} {mk : List Nat} {S : Nat → St} {R : Nat → Fr}
theorem R_get (T : Trc P rec ops mk S R) (A : Stp P ops S R) (hn : (R 0).nt < 1000000000) {i : Nat} (hi : i < ops.size) {t : Nat} (h : (ops[i]?).bind (·.dst) ≠ some t) : (R (i + 1)).get t = (R i).get t := by
  have ho : ops[i]? = some ops[i] := Array.getElem?_eq_getElem hi
  obtain ⟨v, hp, _⟩ := runOp_put (T.step i _ ho)
  have := put_get (by rw [A.nt i (by omega)]; exact hn) hp t
  rw [this, if_neg]
  intro e
  rw [ho] at h
  exact h e
theorem Td_all (T : Trc P rec ops mk S R) (A : Stp P ops S R) (hn : (R 0).nt < 1000000000) {lst : Nat → Bool} : ∀ {i}, i ≤ ops.size → (∀ j, j < i → lst j = true) → ∀ t, Td R ops lst i t = (R i).get t := by
  intro i
  induction i with
  | zero => intro _ _ t; rfl
  | succ i ih =>
    intro hi hl t
    simp only [Td]
    by_cases h : (ops[i]?).bind (·.dst) = some t
    · rw [if_pos ⟨hl i (by omega), h⟩]
    · rw [if_neg (fun e => h e.2), ih (by omega) (fun j hj => hl j (by omega)) t, R_get T A hn (by omega) h]
theorem apart_not {x b : Oper} {t : Nat} (h : apartL ops x b = true) (hx : x.dst = some t) (ht : t ∈ looksOf ops b) : False := by
  unfold apartL at h
  rw [hx] at h
  have : (looksOf ops b).contains t = true := by simpa using ht
  simp only [Bool.not_eq_true'] at h
  rw [this] at h
  cases h
theorem looks_same (T : Trc P rec ops mk S R) (A : Stp P ops S R) (hn : (R 0).nt < 1000000000) {lst : Nat → Bool} (hd : Down ops lst) {i t : Nat} {o : Oper} (ho : ops[i]? = some o) (hi : lst i = false)
    (hr : ∀ e ∈ o.after, Region.binds .any e = true → lst e.on = true) (ht : t ∈ looksOf ops o) : Td R ops lst ops.size t = (R i).get t := by
  have his : i < ops.size := (Array.getElem?_eq_some_iff.1 ho).1
  have low : ∀ k, k ≤ i → Td R ops lst k t = (R k).get t := by
    intro k
    induction k with
    | zero => exact fun _ => rfl
    | succ k ih =>
      intro hk
      simp only [Td]
      have hko : ops[k]? = some ops[k] := Array.getElem?_eq_getElem (by omega)
      by_cases h : (ops[k]?).bind (·.dst) = some t
      · have : lst k = true := by
          rcases T.sep i o ho k _ (by omega) hko with h1 | ⟨h1, _, _⟩
          · exact down_mask T hd i o ho hr k h1
          · rw [hko] at h
            exact (apart_not h1 h ht).elim
        rw [if_pos ⟨this, h⟩]
      · rw [if_neg (fun e => h e.2), ih (by omega), R_get T A hn (by omega) h]
  have high : ∀ k, i ≤ k → k ≤ ops.size → Td R ops lst k t = (R i).get t := by
    intro k
    induction k with
    | zero => intro h _; have : i = 0 := by omega
              subst this; exact low 0 (Nat.le_refl _)
    | succ k ih =>
      intro h1 h2
      rcases Nat.lt_or_ge k i with h3 | h3
      · have : i = k + 1 := by omega
        subst this; exact low _ (Nat.le_refl _)
      · simp only [Td]
        rw [if_neg, ih h3 (by omega)]
        rintro ⟨h4, h5⟩
        rcases Nat.lt_or_ge i k with h6 | h6
        · have hko : ops[k]? = some ops[k] := Array.getElem?_eq_getElem (by omega)
          rcases T.sep k _ hko i o h6 ho with h7 | ⟨_, h7, _⟩
          · have := down_mask T hd k _ hko (hd k _ h4 hko) i h7
            rw [hi] at this; cases this
          · rw [hko] at h5
            exact apart_not h7 h5 ht
        · have : k = i := by omega
          subst this
          rw [hi] at h4; cases h4
  exact high _ (by omega) (Nat.le_refl _)
theorem Td_set (T : Trc P rec ops mk S R) {lst lst' : Nat → Bool} (hd : Down ops lst) {i : Nat} {o : Oper} (ho : ops[i]? = some o) (hi : lst i = false) (hi' : lst' i = true) (hs : ∀ k, k ≠ i → lst' k = lst k) (t : Nat) :
    Td R ops lst' ops.size t = if o.dst = some t then (R (i + 1)).get t else Td R ops lst ops.size t := by
  have his : i < ops.size := (Array.getElem?_eq_some_iff.1 ho).1
  have low : ∀ k, k ≤ i → Td R ops lst' k t = Td R ops lst k t := by
    intro k
    induction k with
    | zero => exact fun _ => rfl
    | succ k ih => intro hk; simp only [Td]; rw [hs k (by omega), ih (by omega)]
  have high : ∀ k, i < k → k ≤ ops.size → Td R ops lst' k t = if o.dst = some t then (R (i + 1)).get t else Td R ops lst k t := by
    intro k
    induction k with
    | zero => intro h _; omega
    | succ k ih =>
      intro h1 h2
      rcases Nat.lt_or_ge i k with h3 | h3
      · simp only [Td]
        rw [hs k (by omega), ih h3 (by omega)]
        by_cases ht : o.dst = some t
        · rw [if_pos ht, if_pos ht, if_neg]
          rintro ⟨h4, h5⟩
          have hko : ops[k]? = some ops[k] := Array.getElem?_eq_getElem (by omega)
          rcases T.sep k _ hko i o h3 ho with h7 | ⟨_, _, h7⟩
          · have := down_mask T hd k _ hko (hd k _ h4 hko) i h7
            rw [hi] at this; cases this
          · rw [hko] at h5
            exact h7 t ht h5
        · rw [if_neg ht, if_neg ht]
      · have : k = i := by omega
        subst this
        simp only [Td]
        rw [hi', hi, low k (Nat.le_refl _), ho]
        by_cases ht : o.dst = some t
        · rw [if_pos ⟨rfl, ht⟩, if_pos ht]
        · rw [if_neg (fun e => ht e.2), if_neg ht, if_neg (fun e => by cases e.1)]
  exact high _ his (Nat.le_refl _)
theorem Td_fr (hn : (R 0).nt < 1000000000) (A : Stp P ops S R) (T : Trc P rec ops mk S R) (lst : Nat → Bool) : ∀ k, k ≤ ops.size → ∃ fr : Fr, (fr.nt = (R 0).nt ∧ fr.marks = (R 0).marks) ∧ ∀ t, fr.get t = Td R ops lst k t := by
  intro k
  induction k with
  | zero => exact fun _ => ⟨R 0, ⟨rfl, rfl⟩, fun _ => rfl⟩
  | succ k ih =>
    intro hk
    obtain ⟨fr, h1, h2⟩ := ih (by omega)
    have hko : ops[k]? = some ops[k] := Array.getElem?_eq_getElem (by omega)
    cases hl : lst k with
    | false => exact ⟨fr, h1, fun t => by simp only [Td]; rw [if_neg (fun e => by rw [hl] at e; cases e.1)]; exact h2 t⟩
    | true =>
      obtain ⟨v, hp, _⟩ := runOp_put (T.step k _ hko)
      obtain ⟨fr', hp'⟩ := put_some (f2 := fr) (by rw [A.nt k (by omega), h1.1]) hp
      refine ⟨fr', ⟨(put_nt hp').trans h1.1, (put_marks hp').1.trans h1.2⟩, fun t => ?_⟩
      rw [put_get (by rw [h1.1]; exact hn) hp' t]
      simp only [Td, hko, Option.bind_some, hl, true_and]
      have hg := put_get (by rw [A.nt k (by omega)]; exact hn) hp t
      by_cases e : ops[k].dst = some t
      · rw [if_pos e, if_pos e, hg, if_pos e]
      · rw [if_neg e, if_neg e]; exact h2 t
structure InvD (ops : Array Oper) (S : Nat → St) (R : Nat → Fr) (G : Nat → Prop) (ρ0 : Ren) (w0 : World) (listed : Array Bool) (a : Act) (w : World) (ρ : Ren) : Prop where
  size : listed.size = ops.size
  down : Down ops (fun i => listed.getD i false)
  out : ∀ m, (∀ i, i < ops.size → listed.getD i false = true → ¬ ((S i).next ≤ m ∧ m < (S (i + 1)).next)) → ρ m = ρ0 m
  rep : ∀ m b, G m → Hd S (fun i => listed.getD i false) ops.size m = some b → RepA ρ w m b
  sep : ∀ m k, G m → G k → Hd S (fun i => listed.getD i false) ops.size m ≠ none → Hd S (fun i => listed.getD i false) ops.size k ≠ none → m ≠ k → ∀ p q, ρ m = some p → ρ k = some q → p.blk ≠ q.blk
  tsz : a.tmps.size = (R 0).nt
  tm : ∀ t, VR ρ (Td R ops (fun i => listed.getD i false) ops.size t) (a.tmps.getD t undef)
  dfs : DfR ρ (R 0).marks a.defers
  frame : ∀ b, b < w0.heap.size → (∀ m p, G m → Live (S 0).heap m → ρ0 m = some p → p.blk ≠ b) → w.heap[b]? = w0.heap[b]?
  wsize : w0.heap.size ≤ w.heap.size
  os : w.os = w0.os
  tape : w.tape = w0.tape
  output : w.output = w0.output
  fresh : ∀ m p, (S 0).next ≤ m → Hd S (fun i => listed.getD i false) ops.size m ≠ none → ρ m = some p → w0.heap.size ≤ p.blk ∨ ∃ k q, G k ∧ k < (S 0).next ∧ Live (S 0).heap k ∧ ρ0 k = some q ∧ q.blk = p.blk
  tz : TZ w
  off : ∀ m p, G m → Hd S (fun i => listed.getD i false) ops.size m ≠ none → ρ m = some p → tzB ≠ some p.blk
end
end Go.Proofs.YtkbgeggflhfleaaGreatDoor.Ev
