/-
  A region by what each of its operations answers, whatever is said of the answers; slots that are read ahead of being written; one operation that waits for all others at its end.
-/
import Derived.Test.YtcdfckjlmifjiaaGreatDyAw
namespace Go.Proofs.YtcdfckjlmifjiaaGreat
open Go.RowKit
set_option linter.unusedVariables false
set_option linter.unusedSimpArgs false

/-- What is said of an answer, lasting while memory grows. -/
structure An where
  is : Value → World → Prop
  later : ∀ {v : Value} {w w' : World}, is v w → Below w.heap.size w w' → is v w'
instance : Inhabited An := ⟨⟨fun _ _ => True, fun _ _ => trivial⟩⟩
def An.val (u : Value) : An := ⟨fun v _ => v = u, fun h _ => h⟩
theorem lay_unlisted (listed : Array Bool) (vals : Nat → Value) (k s : Nat) (hk : listed.getD k false = false) : ∀ (l : List (Nat × Nat)) (t : Array Value), (l.map Prod.snd).Nodup → (k, s) ∈ l → (lay listed vals l t).getD s undef = t.getD s undef
  | [], t, _, h => by cases h
  | (j, e) :: l, t, hn, h => by
    simp only [List.map_cons, List.nodup_cons] at hn
    rw [lay]
    rcases List.mem_cons.1 h with h1 | h1
    · cases h1
      rw [hk, if_neg (by decide), lay_other listed vals s l _ hn.1]
    · have hne : e ≠ s := fun e' => hn.1 (by rw [e']; exact List.mem_map.2 ⟨(k, s), h1, rfl⟩)
      rw [lay_unlisted listed vals k s hk l _ hn.2 h1]
      split
      · simp [Array.getElem?_setIfInBounds, hne]
      · rfl
/-- Operation k waits for operation i. -/
def waits (ops : Array Oper) (k i : Nat) : Bool := match ops[k]? with
  | some o => o.after.toList.any fun e => e.on == i && Region.binds .any e
  | none => false
theorem waits_at {ops : Array Oper} {k i : Nat} (h : waits ops k i = true) : ∃ o, ops[k]? = some o ∧ ∃ e ∈ o.after, e.on = i ∧ Region.binds .any e = true := by
  unfold waits at h
  cases ho : ops[k]? with
  | none => simp [ho] at h
  | some o =>
    simp only [ho] at h
    obtain ⟨e, he, h2⟩ := List.any_eq_true.1 h
    simp only [Bool.and_eq_true, beq_iff_eq] at h2
    exact ⟨o, rfl, e, by simpa using he, h2.1, h2.2⟩
def opsFitN (ops : Array Oper) (dl : List (Nat × Nat)) (N : Nat) : Bool := (List.range N).all fun i => match ops[i]? with
  | some o => o.guard.isNone && (match o.dst with | some d => dl.contains (i, d) | none => false)
  | none => false
theorem opsFitN_at {ops : Array Oper} {dl : List (Nat × Nat)} {N : Nat} (h : opsFitN ops dl N = true) (i : Nat) (hi : i < N) (o : Oper) (ho : ops[i]? = some o) : o.guard = none ∧ ∃ d, o.dst = some d ∧ (i, d) ∈ dl := by
  have h1 := List.all_eq_true.1 h i (List.mem_range.2 hi)
  simp only [ho, Bool.and_eq_true, Option.isNone_iff_eq_none] at h1
  refine ⟨h1.1, ?_⟩
  cases hd : o.dst with
  | none => simp [hd] at h1
  | some d => exact ⟨d, rfl, by simpa [hd] using h1.2⟩
/-- The last operation, if there is one beyond N, waits for all others. -/
def lastFit (ops : Array Oper) (N : Nat) : Bool := decide (ops.size = N) || (decide (ops.size = N + 1) && (match ops[N]? with | some o => o.guard.isNone | none => false) && (List.range N).all fun j => waits ops N j)
/-- What an operation may read. -/
structure Sees (ops : Array Oper) (dl : List (Nat × Nat)) (ans : List An) (t0 : Array Value) (i : Nat) (W : World) (ρ : Operand → Value) (v : World) : Prop where
  b : Below W.heap.size W v
  dep : ∀ j d, (j, d) ∈ dl → waits ops i j = true → (ans.getD j default).is (ρ (.tmp d)) v
  old : ∀ s, s ∉ dl.map Prod.snd → ρ (.tmp s) = t0.getD s undef
  pre : ∀ s k, (k, s) ∈ dl → waits ops k i = true → ρ (.tmp s) = t0.getD s undef
  con : ∀ u, ρ (.const u) = u
  fn : ∀ f, ρ (.func f) = .func (.func f) #[] #[]
/-- What a step must show. -/
def StepO (P : Program) (Q : Exit → Act → World → Prop) (W : World) (ops : Array Oper) (t0 : Array Value) (dl : List (Nat × Nat)) (ans : List An) (i : Nat) (o : Oper) : Prop :=
  ∀ (a : Act) (w : World), Sees ops dl ans t0 i W a.eval w → o.wp P a w (fun a' w' => ∃ v, a' = a.put o.dst v ∧ (ans.getD i default).is v w' ∧ Below w.heap.size w w') Q
def allUpto (S : Nat → Oper → Prop) (N : Nat) : Nat → List Oper → Prop
  | _, [] => True
  | i, o :: l => (i < N → S i o) ∧ allUpto S N (i + 1) l
theorem allUpto_at {S : Nat → Oper → Prop} {N : Nat} : ∀ (l : List Oper) (k : Nat), allUpto S N k l → ∀ i o, l[i]? = some o → k + i < N → S (k + i) o
  | [], _, _, i, o, h, _ => by simp at h
  | x :: l, k, h, 0, o, ho, hN => by
    simp only [List.getElem?_cons_zero, Option.some.injEq] at ho
    subst ho
    exact h.1 hN
  | x :: l, k, h, i + 1, o, ho, hN => by
    have := allUpto_at l (k + 1) h.2 i o (by simpa using ho) (by omega)
    rwa [show k + 1 + i = k + (i + 1) by omega] at this
/-- What is to show behind all but the last. -/
def EndsD (P : Program) (Q : Exit → Act → World → Prop) (ops : Array Oper) (N : Nat) (a : Act) (w : World) : Prop := match ops[N]? with
  | none => Q .normal a w
  | some o => o.wp P a w (fun a' w' => Q .normal a' w') Q
structure Ends (P : Program) (Q : Exit → Act → World → Prop) (ops : Array Oper) (N : Nat) (a : Act) (w : World) : Prop where
  out : EndsD P Q ops N a w
/-- Whoever waits, in an order that binds, waits for one ahead of it. -/
def aheadB (ops : Array Oper) : Bool := (List.range ops.size).all fun i => ((ops[i]?).map (·.after.all fun e => !Region.binds .any e || decide (e.on < i))).getD true
theorem all_listedB {ops : Array Oper} (ha : aheadB ops = true) {listed : Array Bool} (hr : Region.ready .any ops listed = []) : ∀ j, j < ops.size → listed.getD j true = true := by
  intro j
  induction j using Nat.strongRecOn with
  | _ j ih =>
    intro hj
    cases hc : listed.getD j true with
    | true => rfl
    | false =>
      exfalso
      have ho : ops[j]? = some ops[j] := Array.getElem?_eq_getElem hj
      have hsz : j < listed.size := by
        rcases Nat.lt_or_ge j listed.size with h' | h'
        · exact h'
        · simp [Array.getElem?_eq_none h'] at hc
      have : j ∈ Region.ready .any ops listed := by
        rw [mem_ready]
        refine ⟨hc, ops[j], ho, fun e he hbn => ?_⟩
        have h1 := List.all_eq_true.1 ha j (List.mem_range.2 hj)
        rw [ho] at h1
        simp only [Option.map_some, Option.getD_some, Array.all_eq_true_iff_forall_mem, Bool.or_eq_true, Bool.not_eq_true', decide_eq_true_eq] at h1
        have h2 : e.on < j := by
          rcases h1 e he with h | h
          · rw [hbn] at h; cases h
          · exact h
        have h3 := ih e.on h2 (by omega)
        have h4 : e.on < listed.size := by omega
        simpa [h4] using h3
      rw [hr] at this
      cases this
theorem wpAny_invB {P : Program} {ops : Array Oper} {Q : Exit → Act → World → Prop} (I : Array Bool → Act → World → Prop) (ha : aheadB ops = true)
    (hend : ∀ listed a w, I listed a w → (∀ j, j < ops.size → listed.getD j true = true) → Q .normal a w)
    (hstep : ∀ listed a w, I listed a w → ∀ i o, ops[i]? = some o → listed.getD i true = false → (∀ e ∈ o.after, Region.binds .any e = true → listed.getD e.on false = true) → wpOp P ops Q i (fun a' w' => I (listed.setIfInBounds i true) a' w') a w) :
    ∀ (fuel : Nat) (listed : Array Bool) (a : Act) (w : World), listed.toList.count false ≤ fuel → I listed a w → wpAny P .any ops Q fuel listed a w := by
  intro fuel
  induction fuel with
  | zero =>
    intro listed a w hc hI
    have hr : Region.ready .any ops listed = [] := by
      rw [List.eq_nil_iff_forall_not_mem]
      intro j hj
      have h1 := count_down (mem_ready.1 hj).1
      omega
    exact ⟨hr, hend _ _ _ hI (all_listedB ha hr)⟩
  | succ fuel ih =>
    intro listed a w hc hI
    refine ⟨fun hr => hend _ _ _ hI (all_listedB ha hr), fun i hi => ?_⟩
    obtain ⟨h0, o, ho, hd⟩ := mem_ready.1 hi
    exact wpOp_mono (fun a' w' h => ih _ _ _ (by have := count_down h0; omega) h) (hstep _ _ _ hI i o ho h0 hd)
theorem region_invB {P : Program} {ops : Array Oper} {Q : Exit → Act → World → Prop} {id : Nat} {a : Act} {w : World} (hm : P.follows .mixedOrders = true) (I : Array Bool → Act → World → Prop) (ha : aheadB ops = true)
    (hend : ∀ listed a w, I listed a w → (∀ j, j < ops.size → listed.getD j true = true) → Q .normal a w)
    (hstep : ∀ listed a w, I listed a w → ∀ i o, ops[i]? = some o → listed.getD i true = false → (∀ e ∈ o.after, Region.binds .any e = true → listed.getD e.on false = true) → wpOp P ops Q i (fun a' w' => I (listed.setIfInBounds i true) a' w') a w)
    (h : I (Array.replicate ops.size false) a { w with drawn := w.drawn + 1 }) : (Code.region id ops true).wp P Q a w :=
  wp_region_any hm (wpAny_invB I ha hend hstep _ _ _ _ (by simp) h)
theorem ends_none {P : Program} {Q : Exit → Act → World → Prop} {ops : Array Oper} {N : Nat} {a : Act} {w : World} (h : ops[N]? = none) (k : Q .normal a w) : Ends P Q ops N a w := by
  refine ⟨?_⟩
  rw [EndsD, h]
  exact k
theorem ends_some {P : Program} {Q : Exit → Act → World → Prop} {ops : Array Oper} {N : Nat} {a : Act} {w : World} {o : Oper} (h : ops[N]? = some o) (k : o.wp P a w (fun a' w' => Q .normal a' w') Q) : Ends P Q ops N a w := by
  refine ⟨?_⟩
  rw [EndsD, h]
  exact k
theorem region_open {P : Program} {ops : Array Oper} {Q : Exit → Act → World → Prop} {id : Nat} {a0 : Act} {W : World} (N : Nat) (dl : List (Nat × Nat)) (ans : List An) (hm : P.follows .mixedOrders = true) (ha : aheadB ops = true) (hop : opsFitN ops dl N = true) (hl : lastFit ops N = true) (hf : (dl.map Prod.fst).Nodup) (hs : (dl.map Prod.snd).Nodup) (hz : (dl.all fun x => decide (x.2 < a0.tmps.size) && decide (x.1 < N)) = true)
    (hstep : allUpto (StepO P Q W ops a0.tmps dl ans) N 0 ops.toList)
    (hend : ∀ (vals : Nat → Value) (w : World), Below W.heap.size W w → (∀ x ∈ dl, (ans.getD x.1 default).is (vals x.1) w) → Ends P Q ops N ⟨dl.foldl (fun t x => t.setIfInBounds x.2 (vals x.1)) a0.tmps, a0.defers⟩ w) : (Code.region id ops true).wp P Q a0 W := by
  have hz' : ∀ x ∈ dl, x.2 < a0.tmps.size ∧ x.1 < N := fun x hx => by simpa using List.all_eq_true.1 hz x hx
  have hNs : N ≤ ops.size := by
    unfold lastFit at hl
    simp only [Bool.or_eq_true, Bool.and_eq_true, decide_eq_true_eq] at hl
    omega
  have hNu : ops.size ≤ N + 1 := by
    unfold lastFit at hl
    simp only [Bool.or_eq_true, Bool.and_eq_true, decide_eq_true_eq] at hl
    omega
  have hall : ∀ (listed : Array Bool) (vals : Nat → Value) (l : List (Nat × Nat)) (t : Array Value), (∀ x ∈ l, listed.getD x.1 false = true) → lay listed vals l t = l.foldl (fun t x => t.setIfInBounds x.2 (vals x.1)) t := by
    intro listed vals l
    induction l with
    | nil => intro t _; rfl
    | cons x l ih =>
      intro t h
      obtain ⟨i, d⟩ := x
      rw [lay, if_pos (h (i, d) (by simp)), ih _ fun y hy => h y (by simp [hy])]
      rfl
  have tf : ∀ {l : Array Bool} {i : Nat}, i < l.size → l.getD i true = l.getD i false := fun {l i} hi => by simp [hi]
  have hin : ∀ {i : Nat} {o : Oper}, ops[i]? = some o → i < ops.size := fun ho => (Array.getElem?_eq_some_iff.1 ho).1
  refine region_invB hm (fun listed a w => listed.size = ops.size ∧ (∀ i o, ops[i]? = some o → listed.getD i false = true → ∀ e ∈ o.after, Region.binds .any e = true → listed.getD e.on false = true) ∧ (if listed.getD N false = true then Q .normal a w else Below W.heap.size W w ∧ ∃ vals, a = ⟨lay listed vals dl a0.tmps, a0.defers⟩ ∧ ∀ x ∈ dl, listed.getD x.1 false = true → (ans.getD x.1 default).is (vals x.1) w)) ha ?_ ?_ ?_
  · rintro listed a w ⟨h1, h2, h3⟩ hlst
    split at h3
    · exact h3
    · rename_i hn
      have hsz : ops.size = N := by
        rcases Nat.lt_or_ge N ops.size with h | h
        · exact absurd (by rw [← tf (by omega)]; exact hlst N h) hn
        · omega
      obtain ⟨hb, vals, rfl, hv⟩ := h3
      have h5 : ∀ x ∈ dl, listed.getD x.1 false = true := fun x hx => by
        rw [← tf (by have := (hz' x hx).2; omega)]
        exact hlst x.1 (by have := (hz' x hx).2; omega)
      have := (hend vals w hb fun x hx => hv x hx (h5 x hx)).out
      rw [EndsD, Array.getElem?_eq_none (by omega)] at this
      rw [hall listed vals dl _ h5]
      exact this
  · rintro listed a w ⟨h1, h2, h3⟩ i o ho hi hdep
    have hi' : listed.getD i false = false := by rw [← tf (by rw [h1]; exact hin ho)]; exact hi
    have hlN : ∀ j, j < N → ops.size = N + 1 → waits ops N j = true := fun j hj hsz => by
      unfold lastFit at hl
      simp only [Bool.or_eq_true, Bool.and_eq_true, decide_eq_true_eq] at hl
      rcases hl with h | ⟨_, h⟩
      · omega
      · exact List.all_eq_true.1 h j (List.mem_range.2 hj)
    have hNn : listed.getD N false = false := by
      cases hc : listed.getD N false with
      | false => rfl
      | true =>
        exfalso
        have hNlt : N < ops.size := by
          rcases Nat.lt_or_ge N ops.size with h | h
          · exact h
          · simp [Array.getElem?_eq_none (show listed.size ≤ N by omega)] at hc
        rcases Nat.lt_or_ge i N with h | h
        · obtain ⟨o', ho', e, he, h4, h5⟩ := waits_at (hlN i h (by omega))
          have := h2 N o' ho' hc e he h5
          rw [h4, hi'] at this
          cases this
        · have := hin ho
          obtain rfl : i = N := by omega
          rw [hi'] at hc
          cases hc
    have hcl : ∀ k o', ops[k]? = some o' → (listed.setIfInBounds i true).getD k false = true → ∀ e ∈ o'.after, Region.binds .any e = true → (listed.setIfInBounds i true).getD e.on false = true := by
      intro k o' ho' hk e he hbn
      have hup : ∀ x, listed.getD x false = true → (listed.setIfInBounds i true).getD x false = true := fun x hx => by
        by_cases hxi : x = i
        · subst hxi
          rw [hi'] at hx
          cases hx
        · simpa [Array.getElem?_setIfInBounds, Ne.symm hxi] using hx
      by_cases hki : k = i
      · subst hki
        rw [ho] at ho'
        cases ho'
        exact hup _ (hdep e he hbn)
      · exact hup _ (h2 k o' ho' (by simpa [Array.getElem?_setIfInBounds, Ne.symm hki] using hk) e he hbn)
    rw [if_neg (by rw [hNn]; decide)] at h3
    obtain ⟨hb, vals, rfl, hv⟩ := h3
    unfold wpOp
    simp only [ho]
    rcases Nat.lt_or_ge i N with hiN | hiN
    · obtain ⟨hg, d, hd, hmem⟩ := opsFitN_at hop i hiN o ho
      have hst := allUpto_at _ 0 hstep i o (by simpa using ho) (by omega)
      rw [Nat.zero_add] at hst
      have hst' := hst ⟨lay listed vals dl a0.tmps, a0.defers⟩ w ⟨hb, fun j e hje hw => by
        obtain ⟨o', ho', x, hx, hxj, hbn⟩ := waits_at hw
        rw [ho] at ho'
        cases ho'
        have hlj : listed.getD j false = true := by rw [← hxj]; exact hdep x hx hbn
        show (ans.getD j default).is ((lay listed vals dl a0.tmps).getD e undef) w
        rw [lay_at listed vals j e hlj dl _ hs hje (hz' (j, e) hje).1]
        exact hv (j, e) hje hlj, fun s hs' => lay_other listed vals s dl _ hs', fun s k hks hw => by
        obtain ⟨o', ho', x, hx, hxj, hbn⟩ := waits_at hw
        have hk : listed.getD k false = false := by
          cases hc : listed.getD k false with
          | false => rfl
          | true =>
            have := h2 k o' ho' hc x hx hbn
            rw [hxj, hi'] at this
            cases this
        exact lay_unlisted listed vals k s hk dl _ hs hks, fun _ => rfl, fun _ => rfl⟩
      have hw : Region.wanted o (yielded ops (lay listed vals dl a0.tmps)) = true := by simp [Region.wanted, hg]
      rw [if_pos hw]
      refine .inl (Oper.wp_mono (fun a' w' hh => ?_) hst')
      obtain ⟨v, rfl, hvv, hb'⟩ := hh
      refine ⟨by simpa using h1, hcl, ?_⟩
      have hNi : (listed.setIfInBounds i true).getD N false = false := by
        have : i ≠ N := by omega
        simpa [Array.getElem?_setIfInBounds, this] using hNn
      rw [if_neg (by rw [hNi]; decide)]
      refine ⟨hb.trans (hb'.mono hb.size), fun k => if k = i then v else vals k, ?_, fun x hx hl' => ?_⟩
      · rw [lay_put listed vals i d v hi dl _ hf hs hmem, hd]
        rfl
      · by_cases hxi : x.1 = i
        · show (ans.getD x.1 default).is (if x.1 = i then v else vals x.1) w'
          rw [if_pos hxi, hxi]
          exact hvv
        · show (ans.getD x.1 default).is (if x.1 = i then v else vals x.1) w'
          rw [if_neg hxi]
          have hl'' : listed.getD x.1 false = true := by simpa [Array.getElem?_setIfInBounds, Ne.symm hxi] using hl'
          exact (ans.getD x.1 default).later (hv x hx hl'') hb'
    · have := hin ho
      obtain rfl : i = N := by omega
      have hg : o.guard = none := by
        unfold lastFit at hl
        simp only [Bool.or_eq_true, Bool.and_eq_true, decide_eq_true_eq] at hl
        rcases hl with h | ⟨⟨_, h⟩, _⟩
        · omega
        · simpa [ho] using h
      have h5 : ∀ x ∈ dl, listed.getD x.1 false = true := fun x hx => by
        obtain ⟨o', ho', e, he, h6, h7⟩ := waits_at (hlN x.1 (hz' x hx).2 (by omega))
        rw [ho] at ho'
        cases ho'
        rw [← h6]
        exact hdep e he h7
      have he := (hend vals w hb fun x hx => hv x hx (h5 x hx)).out
      rw [EndsD, ho] at he
      have hw : Region.wanted o (yielded ops (lay listed vals dl a0.tmps)) = true := by simp [Region.wanted, hg]
      rw [if_pos hw, hall listed vals dl _ h5]
      refine .inl (Oper.wp_mono (fun a' w' hh => ?_) he)
      refine ⟨by simpa using h1, hcl, ?_⟩
      have : (listed.setIfInBounds i true).getD i false = true := by simp [h1, hin ho]
      rw [if_pos this]
      exact hh
  · refine ⟨by simp, fun i o ho h => ?_, ?_⟩
    · exfalso
      simp [Array.getElem?_replicate] at h
      split at h <;> simp at h
    · have hN0 : (Array.replicate ops.size false).getD N false = false := by
        simp [Array.getElem?_replicate]
        split <;> simp
      rw [if_neg (by rw [hN0]; decide)]
      refine ⟨⟨rfl, rfl, rfl, Nat.le_refl _, fun _ _ => rfl⟩, fun _ => undef, ?_, fun x hx hl' => ?_⟩
      · have hnone : ∀ (l : List (Nat × Nat)) (t : Array Value), lay (Array.replicate ops.size false) (fun _ => undef) l t = t := by
          intro l
          induction l with
          | nil => intro t; rfl
          | cons x l ih =>
            intro t
            obtain ⟨i, e⟩ := x
            rw [lay, if_neg (by simp [Array.getElem?_replicate]; split <;> simp), ih]
        rw [hnone]
      · exfalso
        simp [Array.getElem?_replicate] at hl'
        split at hl' <;> simp at hl'
section
variable {P : Program} {Q : Exit → Act → World → Prop} {W : World} {ops : Array Oper} {t0 : Array Value} {dl : List (Nat × Nat)} {ans : List An} {i : Nat} {o : Oper}
/-- An operation that leaves memory as it is. -/
theorem op_pure (hrun : ∀ (ρ : Operand → Value) (v : World), Sees ops dl ans t0 i W ρ v → ∃ u, (execOp ρ o).run P v = .ok (.value u) v ∧ (ans.getD i default).is u v) : StepO P Q W ops t0 dl ans i o := by
  intro a v R
  obtain ⟨u, h1, h2⟩ := hrun a.eval v R
  unfold Oper.wp
  rw [h1]
  exact ⟨u, rfl, h2, Below.refl _ _⟩
/-- An operation that makes memory. -/
theorem op_new (hrun : ∀ (ρ : Operand → Value) (v : World), Sees ops dl ans t0 i W ρ v → ∃ u v', (execOp ρ o).run P v = .ok (.value u) v' ∧ (ans.getD i default).is u v' ∧ Below v.heap.size v v') : StepO P Q W ops t0 dl ans i o := by
  intro a v R
  obtain ⟨u, v', h1, h2, h3⟩ := hrun a.eval v R
  unfold Oper.wp
  rw [h1]
  exact ⟨u, rfl, h2, h3⟩
/-- A call, by its contract. -/
theorem op_call (f : Nat) (hrun : ∀ (ρ : Operand → Value) (v : World), Sees ops dl ans t0 i W ρ v → ∃ args, (execOp ρ o).run P v = .ok (.enter f args) v ∧ Calls P f args v fun e w' => ∃ u, e = .returned u ∧ (ans.getD i default).is u w' ∧ Below v.heap.size v w') : StepO P Q W ops t0 dl ans i o := by
  intro a v R
  obtain ⟨args, h3, h4⟩ := hrun a.eval v R
  unfold Oper.wp
  rw [h3]
  refine h4.mono ?_
  rintro e w' ⟨u, rfl, hu, hb'⟩
  exact ⟨u, rfl, hu, hb'⟩
end
end Go.Proofs.YtcdfckjlmifjiaaGreat
