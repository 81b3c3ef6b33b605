/-
  A region that draws: one step.
-/
import Derived.Test.YtkbgeggflhfleaaGreatDoorG6G7
namespace Go.Proofs.YtkbgeggflhfleaaGreatDoor.Ev
open Go.RowKit
set_option maxHeartbeats 8000000
section
variable {P : Program} {ops : Array Oper} {rec : Task → St → Option (Ans × St)} {mk : List Nat} {S : Nat → St} {R : Nat → Fr}
theorem own_inj (A : Stp P ops S R) {i j m : Nat} (hi : i < ops.size) (hj : j < ops.size) (h1 : (S i).next ≤ m ∧ m < (S (i + 1)).next) (h2 : (S j).next ≤ m ∧ m < (S (j + 1)).next) : i = j := by
  rcases Nat.lt_trichotomy i j with h | h | h
  · have := A.next (i := i + 1) (j := j) (by omega) (by omega); omega
  · exact h
  · have := A.next (i := j + 1) (j := i) (by omega) (by omega); omega
theorem inv_step (hg : Good P rec) (hng : NoNG P) (T : Trc P rec ops mk S R) (A : Stp P ops S R) (hn : (R 0).nt < 1000000000) {G : Nat → Prop} {ρ0 ρ : Ren} {w0 w : World} {a : Act} {listed : Array Bool} (I : InvD ops S R G ρ0 w0 listed a w ρ)
    {i : Nat} {o : Oper} (ho : ops[i]? = some o) (hi : listed.getD i false = false) (hr : ∀ e ∈ o.after, Region.binds .any e = true → listed.getD e.on false = true) (hGf : ∀ m ∈ (S (i + 1)).fp, G m) (hGo : ∀ m, (S i).next ≤ m → m < (S (i + 1)).next → G m)
    (hf0 : ∀ m, (S 0).next ≤ m → m < (S ops.size).next → ρ0 m = none) {ro : Option Nat} {Q : Exit → Act → World → Prop} {K : Act → World → Prop}
    (hK : ∀ ρ' a' w', InvD ops S R G ρ0 w0 (listed.setIfInBounds i true) a' w' ρ' → K a' w') : wpOpIn (Fw ro) 0 P ops Q i K a w := by
  have his : i < ops.size := (Array.getElem?_eq_some_iff.1 ho).1
  have hfp := A.fp_lt
  have hwf := A.wr_fp
  obtain ⟨lst, hlst⟩ : ∃ lst : Nat → Bool, lst = fun j => listed.getD j false := ⟨_, rfl⟩
  obtain ⟨lst', hlst'⟩ : ∃ lst' : Nat → Bool, lst' = fun j => (listed.setIfInBounds i true).getD j false := ⟨_, rfl⟩
  have hsz := I.size
  have li : lst i = false := by rw [hlst]; exact hi
  have li' : lst' i = true := by rw [hlst']; simp [show i < listed.size by omega]
  have ls : ∀ k, k ≠ i → lst' k = lst k := fun k hk => by
    rw [hlst, hlst']
    simp only [Array.getD_eq_getD_getElem?]
    rw [Array.getElem?_setIfInBounds_ne (Ne.symm hk)]
  have Id : Down ops lst := by rw [hlst]; exact I.down
  have Irep : ∀ m b, G m → Hd S lst ops.size m = some b → RepA ρ w m b := by rw [hlst]; exact I.rep
  have Isep : ∀ m k, G m → G k → Hd S lst ops.size m ≠ none → Hd S lst ops.size k ≠ none → m ≠ k → ∀ p q, ρ m = some p → ρ k = some q → p.blk ≠ q.blk := by rw [hlst]; exact I.sep
  have Itm : ∀ t, VR ρ (Td R ops lst ops.size t) (a.tmps.getD t undef) := by rw [hlst]; exact I.tm
  have Iout : ∀ m, (∀ i, i < ops.size → lst i = true → ¬ ((S i).next ≤ m ∧ m < (S (i + 1)).next)) → ρ m = ρ0 m := by rw [hlst]; exact I.out
  have Ifresh : ∀ m p, (S 0).next ≤ m → Hd S lst ops.size m ≠ none → ρ m = some p → w0.heap.size ≤ p.blk ∨ ∃ k q, G k ∧ k < (S 0).next ∧ Live (S 0).heap k ∧ ρ0 k = some q ∧ q.blk = p.blk := by rw [hlst]; exact I.fresh
  have hr' : ∀ e ∈ o.after, Region.binds .any e = true → lst e.on = true := by rw [hlst]; exact hr
  have Ioff : ∀ m p, G m → Hd S lst ops.size m ≠ none → ρ m = some p → tzB ≠ some p.blk := by rw [hlst]; exact I.off
  have hB : ∀ m ∈ (S (i + 1)).fp, Hd S lst ops.size m = (S i).heap.get m := fun m hm => meets_same T A hfp Id ho li hr' hm
  have hC : ∀ m, Hd S lst' ops.size m = if Turns S i m then (S (i + 1)).heap.get m else Hd S lst ops.size m := fun m => Hd_set T A hfp hwf Id his li li' ls m
  obtain ⟨fr2, ⟨hnt2, hmk2⟩, hget2⟩ := Td_fr hn A T lst ops.size (Nat.le_refl _)
  obtain ⟨v, hp, hcong⟩ := runOp_put (T.step i o ho)
  obtain ⟨fr2', hp2, hrun2⟩ := hcong fr2 (by rw [hnt2, A.nt i (by omega)]) (fun t ht => by rw [hget2, looks_same T A hn Id ho li hr' ht])
  obtain ⟨hm, _, hop⟩ := runOp_ok hg hng (base_wf (A.wf i (by omega))) hrun2
  have hown : ∀ m, ((S i).next ≤ m ∧ m < (S (i + 1)).next) → ρ m = none := fun m hm' => by
    rw [Iout m fun j hj hlj hoj => by
      have := own_inj A his hj hm' hoj
      subst this
      rw [li] at hlj; cases hlj]
    refine hf0 m (Nat.le_trans (A.next (Nat.zero_le i) (by omega)) hm'.1) (Nat.lt_of_lt_of_le hm'.2 (A.next (by omega) (Nat.le_refl _)))
  have hnone : ∀ m, ((S i).next ≤ m ∧ m < (S (i + 1)).next) → (S i).heap.get m = none := fun m hm' => (A.wf i (by omega)).none m hm'.1
  unfold wpOpIn
  rw [ho]
  refine hop ro (fun m => m ∈ (S (i + 1)).fp ∨ ((S i).next ≤ m ∧ m < (S (i + 1)).next)) ρ w a K Q ⟨fun m h => .inl h, fun m h1 h2 => .inr ⟨by rw [hm.thr] at h1; exact h1, h2⟩⟩ ⟨?_, ?_, I.tz, ?_⟩ (fun m h1 h2 => hown m ⟨h1, h2⟩) ⟨by rw [I.tsz, hnt2], fun t => by rw [hget2]; exact Itm t, by rw [hnt2]; exact hn, by rw [hmk2]; exact I.dfs⟩ ?_
  · intro m b hF hb
    rcases hF with hF | hF
    · exact Irep m b (hGf m hF) (by rw [hB m hF]; exact hb)
    · rw [show (S i).base.heap.get m = none from hnone m hF] at hb; cases hb
  · intro m k hFm hFk hlm hlk hne
    have e1 : ∀ x, (x ∈ (S (i + 1)).fp ∨ ((S i).next ≤ x ∧ x < (S (i + 1)).next)) → Live (S i).base.heap x → x ∈ (S (i + 1)).fp := fun x hx hl => by
      rcases hx with hx | hx
      · exact hx
      · exact absurd (hnone x hx) hl
    have hm' := e1 m hFm hlm
    have hk' := e1 k hFk hlk
    exact Isep m k (hGf m hm') (hGf k hk') (by rw [hB m hm']; exact hlm) (by rw [hB k hk']; exact hlk) hne
  · intro m p hFm hlm hp
    have hm' : m ∈ (S (i + 1)).fp := by
      rcases hFm with h | h
      · exact h
      · exact absurd (hnone m h) hlm
    exact Ioff m p (hGf m hm') (by rw [hB m hm']; exact hlm) hp
  · intro ρ' w' a' e ht
    refine hK ρ' a' w' ?_
    have hle : ρ.le ρ' := e.le (fun m h1 h2 => hown m ⟨h1, h2⟩)
    have lt : ∀ m b p, G m → Hd S lst ops.size m = some b → ρ m = some p → p.blk < w.heap.size := fun m b p hGm hb hpm => by
      exact (Irep m b hGm hb).lt hpm
    -- what is live behind the step in what the operation met was live ahead of it
    have back : ∀ m, m ∈ (S (i + 1)).fp → (S (i + 1)).heap.get m ≠ none → Hd S lst ops.size m ≠ none := fun m hm1 hl => by
      rw [hB m hm1]
      exact (A.mono i his).live (hfp i his m hm1) hl
    -- behind the step: a name that the operation met or made
    have hFv : ∀ m, (m ∈ (S (i + 1)).fp ∨ ((S i).next ≤ m ∧ m < (S (i + 1)).next)) → Hd S lst' ops.size m = (S (i + 1)).heap.get m := fun m hF => by
      rw [hC]
      by_cases ht' : Turns S i m
      · rw [if_pos ht']
      · rw [if_neg ht']
        rcases hF with hF | hF
        · rw [hB m hF, A.same his ht']
        · exact absurd (.inr hF) ht'
    have hNv : ∀ m, ¬ (m ∈ (S (i + 1)).fp ∨ ((S i).next ≤ m ∧ m < (S (i + 1)).next)) → Hd S lst' ops.size m = Hd S lst ops.size m ∧ ρ' m = ρ m := fun m hF => by
      have hnt : ¬ Turns S i m := fun h => hF (h.imp (fun h => hwf i his m h) id)
      refine ⟨by rw [hC, if_neg hnt], e.out m ?_⟩
      rcases Nat.lt_or_ge m (S i).next with h1 | h1
      · exact .inl h1
      · rcases Nat.lt_or_ge m (S (i + 1)).next with h2 | h2
        · exact absurd (.inr ⟨h1, h2⟩) hF
        · exact .inr h2
    have frameOf : ∀ m b p, G m → ¬ (m ∈ (S (i + 1)).fp ∨ ((S i).next ≤ m ∧ m < (S (i + 1)).next)) → Hd S lst ops.size m = some b → ρ m = some p → w'.heap[p.blk]? = w.heap[p.blk]? := fun m b p hGm hF hb hpm => by
      refine e.frame p.blk (lt m b p hGm hb hpm) fun k q hFk hlk hqk => ?_
      have hk' : k ∈ (S (i + 1)).fp := by
        rcases hFk with h1 | h1
        · exact h1
        · exact absurd (hnone k h1) hlk
      exact Isep k m (hGf k hk') hGm (by rw [hB k hk']; exact hlk) (by rw [hb]; simp) (fun e => hF (e ▸ .inl hk')) q p hqk hpm
    refine ⟨by simp [hsz], ?_, ?_, ?_, ?_, ?_, ?_, by have := ht.dfs; rw [(put_marks hp2).1, hmk2] at this; exact this, ?_, Nat.le_trans I.wsize e.size, e.os.trans I.os, e.tape.trans I.tape, e.output.trans I.output, ?_, e.rep.tz, ?_⟩
    · rw [← hlst']
      intro j oj hj hoj ej hej hbj
      by_cases h1 : j = i
      · subst h1
        rw [ho] at hoj
        cases hoj
        by_cases h2 : ej.on = j
        · rw [h2]; exact li'
        · rw [ls _ h2]; exact hr' ej hej hbj
      · rw [ls j h1] at hj
        have := Id j oj hj hoj ej hej hbj
        by_cases h2 : ej.on = i
        · rw [h2]; exact li'
        · rw [ls _ h2]; exact this
    · intro m hno
      have hno' : ∀ j, j < ops.size → lst' j = true → ¬ ((S j).next ≤ m ∧ m < (S (j + 1)).next) := fun j hj hl => hno j hj (by rw [hlst'] at hl; exact hl)
      have h1 := hno' i his li'
      rw [e.out m (by
        show m < (S i).next ∨ _
        omega)]
      exact Iout m fun j hj hl => hno' j hj (by
        by_cases h2 : j = i
        · rw [h2]; exact li'
        · rw [ls j h2]; exact hl)
    · rw [← hlst']
      intro m b hGm hb
      by_cases hF : m ∈ (S (i + 1)).fp ∨ ((S i).next ≤ m ∧ m < (S (i + 1)).next)
      · rw [hFv m hF] at hb
        exact e.rep.rep m b hF hb
      · obtain ⟨h1, h2⟩ := hNv m hF
        rw [h1] at hb
        exact (Irep m b hGm hb).keep hle fun p hpm => frameOf m b p hGm hF hb hpm
    · rw [← hlst']
      -- one met or made, the other not
      have mixed : ∀ m k, G m → G k → (m ∈ (S (i + 1)).fp ∨ ((S i).next ≤ m ∧ m < (S (i + 1)).next)) → ¬ (k ∈ (S (i + 1)).fp ∨ ((S i).next ≤ k ∧ k < (S (i + 1)).next)) → Hd S lst' ops.size m ≠ none → Hd S lst' ops.size k ≠ none → ∀ p q, ρ' m = some p → ρ' k = some q → p.blk ≠ q.blk := by
        intro m k hGm hGk hFm hFk hlm hlk p q hpm hqk
        obtain ⟨h1, h2⟩ := hNv k hFk
        rw [h1] at hlk
        rw [h2] at hqk
        obtain ⟨bk, hbk⟩ : ∃ b, Hd S lst ops.size k = some b := by
          cases h : Hd S lst ops.size k with
          | none => exact absurd h hlk
          | some b => exact ⟨b, rfl⟩
        have hltk := lt k bk q hGk hbk hqk
        rw [hFv m hFm] at hlm
        by_cases hmo : (S i).next ≤ m ∧ m < (S (i + 1)).next
        · rcases e.fresh m p hmo.1 hmo.2 hlm hpm with h3 | ⟨m0, q0, hF0, _, hl0, hq0, e0⟩
          · omega
          · have hm0 : m0 ∈ (S (i + 1)).fp := by
              rcases hF0 with h1 | h1
              · exact h1
              · exact absurd (hnone m0 h1) hl0
            rw [← e0]
            exact Isep m0 k (hGf m0 hm0) hGk (by rw [hB m0 hm0]; exact hl0) hlk (fun e => hFk (e ▸ .inl hm0)) q0 q hq0 hqk
        · have hm0 : m ∈ (S (i + 1)).fp := by
            rcases hFm with h1 | h1
            · exact h1
            · exact absurd h1 hmo
          have hpm' : ρ m = some p := by
            rw [← e.out m (.inl (hfp i his m hm0))]; exact hpm
          exact Isep m k hGm hGk (back m hm0 hlm) hlk (fun e => hFk (e ▸ .inl hm0)) p q hpm' hqk
      intro m k hGm hGk hlm hlk hne p q hpm hqk
      by_cases hFm : m ∈ (S (i + 1)).fp ∨ ((S i).next ≤ m ∧ m < (S (i + 1)).next)
      · by_cases hFk : k ∈ (S (i + 1)).fp ∨ ((S i).next ≤ k ∧ k < (S (i + 1)).next)
        · exact e.rep.sep m k hFm hFk (by unfold Live; rw [← hFv m hFm]; exact hlm) (by unfold Live; rw [← hFv k hFk]; exact hlk) hne p q hpm hqk
        · exact mixed m k hGm hGk hFm hFk hlm hlk p q hpm hqk
      · by_cases hFk : k ∈ (S (i + 1)).fp ∨ ((S i).next ≤ k ∧ k < (S (i + 1)).next)
        · exact Ne.symm (mixed k m hGk hGm hFk hFm hlk hlm q p hqk hpm)
        · obtain ⟨h1, h2⟩ := hNv m hFm
          obtain ⟨h3, h4⟩ := hNv k hFk
          rw [h1] at hlm; rw [h3] at hlk; rw [h2] at hpm; rw [h4] at hqk
          exact Isep m k hGm hGk hlm hlk hne p q hpm hqk
    · rw [ht.size, put_nt hp2, hnt2]
    · rw [← hlst']
      intro t
      have h1 := ht.val t
      rw [put_get (by rw [hnt2]; exact hn) hp2 t, hget2] at h1
      rw [Td_set T Id ho li li' ls t]
      have hg' := put_get (by rw [A.nt i (by omega)]; exact hn) hp t
      by_cases ed : o.dst = some t
      · rw [if_pos ed] at h1 hg' ⊢
        rw [hg']; exact h1
      · rw [if_neg ed] at h1 ⊢
        exact h1
    · intro b hb hne
      rw [e.frame b (Nat.lt_of_lt_of_le hb I.wsize) ?_, I.frame b hb hne]
      intro m p hF hl hpm
      have hm0 : m ∈ (S (i + 1)).fp := by
        rcases hF with h1 | h1
        · exact h1
        · exact absurd (hnone m h1) hl
      have hHd : Hd S lst ops.size m ≠ none := by rw [hB m hm0]; exact hl
      rcases Nat.lt_or_ge m (S 0).next with h1 | h1
      · refine hne m p (hGf m hm0) (fun hdead => hHd (Hd_dead A h1 hdead (Nat.le_refl _))) ?_
        rw [← Iout m fun j hj _ hoj => by have := A.next (Nat.zero_le j) (by omega); omega]
        exact hpm
      · rcases Ifresh m p h1 hHd hpm with h2 | ⟨k, q, hGk, _, hlk, hqk, e2⟩
        · omega
        · rw [← e2]; exact hne k q hGk hlk hqk
    · rw [← hlst']
      intro m p hm1 hl hpm
      by_cases hmo : (S i).next ≤ m ∧ m < (S (i + 1)).next
      · rw [hFv m (.inr hmo)] at hl
        rcases e.fresh m p hmo.1 hmo.2 hl hpm with h3 | ⟨m0, q0, hF0, _, hl0, hq0, e0⟩
        · exact .inl (Nat.le_trans I.wsize h3)
        · have hm0 : m0 ∈ (S (i + 1)).fp := by
            rcases hF0 with h1 | h1
            · exact h1
            · exact absurd (hnone m0 h1) hl0
          have hHd : Hd S lst ops.size m0 ≠ none := by rw [hB m0 hm0]; exact hl0
          rcases Nat.lt_or_ge m0 (S 0).next with h1 | h1
          · refine .inr ⟨m0, q0, hGf m0 hm0, h1, fun hdead => hHd (Hd_dead A h1 hdead (Nat.le_refl _)), ?_, e0⟩
            rw [← Iout m0 fun j hj _ hoj => by have := A.next (Nat.zero_le j) (by omega); omega]
            exact hq0
          · rcases Ifresh m0 q0 h1 hHd hq0 with h2 | ⟨k, q, a1, a2, a3, a4, a5⟩
            · exact .inl (by omega)
            · exact .inr ⟨k, q, a1, a2, a3, a4, by omega⟩
      · have hpm' : ρ m = some p := by
          rw [← e.out m (by show m < (S i).next ∨ _; omega)]; exact hpm
        refine Ifresh m p hm1 ?_ hpm'
        by_cases hF : m ∈ (S (i + 1)).fp
        · rw [hFv m (.inl hF)] at hl
          exact back m hF hl
        · rw [(hNv m (fun h => h.elim hF hmo)).1] at hl
          exact hl
    · rw [← hlst']
      intro m p hGm hl hpm
      by_cases hFm : m ∈ (S (i + 1)).fp ∨ ((S i).next ≤ m ∧ m < (S (i + 1)).next)
      · exact e.rep.off m p hFm (by unfold Live; rw [← hFv m hFm]; exact hl) hpm
      · obtain ⟨h1, h2⟩ := hNv m hFm
        rw [h1] at hl
        rw [h2] at hpm
        exact Ioff m p hGm hl hpm
end
end Go.Proofs.YtkbgeggflhfleaaGreatDoor.Ev
