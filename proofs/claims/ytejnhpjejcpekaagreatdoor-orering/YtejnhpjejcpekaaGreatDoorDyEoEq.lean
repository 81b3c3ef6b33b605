/-
  A region by what each of its operations answers, in whatever order they come up.
-/
import Derived.Test.YtejnhpjejcpekaaGreatDoorFvOi
import Derived.Test.YtejnhpjejcpekaaGreatDoorMmWaWbWc
namespace Go.Proofs.YtejnhpjejcpekaaGreatDoor
open Go.RowKit
set_option linter.unusedVariables false
set_option linter.unusedSimpArgs false
set_option maxHeartbeats 8000000
def lay (listed : Array Bool) (vals : Nat → Value) : List (Nat × Nat) → Array Value → Array Value
  | [], t => t
  | (i, d) :: l, t => lay listed vals l (if listed.getD i false = true then t.setIfInBounds d (vals i) else t)
theorem lay_comm (listed : Array Bool) (vals : Nat → Value) (d : Nat) (v : Value) : ∀ (l : List (Nat × Nat)) (t : Array Value), d ∉ l.map Prod.snd → lay listed vals l (t.setIfInBounds d v) = (lay listed vals l t).setIfInBounds d v
  | [], t, _ => rfl
  | (i, e) :: l, t, h => by
    simp only [List.map_cons, List.mem_cons, not_or] at h
    rw [lay, lay]
    split
    · rw [← lay_comm listed vals d v l _ h.2, Array.setIfInBounds_comm _ _ h.1]
    · exact lay_comm listed vals d v l t h.2
theorem lay_other (listed : Array Bool) (vals : Nat → Value) (s : Nat) : ∀ (l : List (Nat × Nat)) (t : Array Value), s ∉ l.map Prod.snd → (lay listed vals l t).getD s undef = t.getD s undef
  | [], t, _ => rfl
  | (i, e) :: l, t, h => by
    simp only [List.map_cons, List.mem_cons, not_or] at h
    rw [lay, lay_other listed vals s l _ h.2]
    split
    · simp [Array.getElem?_setIfInBounds, Ne.symm h.1]
    · rfl
theorem lay_size (listed : Array Bool) (vals : Nat → Value) : ∀ (l : List (Nat × Nat)) (t : Array Value), (lay listed vals l t).size = t.size
  | [], t => rfl
  | (i, e) :: l, t => by
    rw [lay, lay_size listed vals l]
    split <;> simp
theorem lay_at (listed : Array Bool) (vals : Nat → Value) (i d : Nat) (hi : listed.getD i false = true) : ∀ (l : List (Nat × Nat)) (t : Array Value), (l.map Prod.snd).Nodup → (i, d) ∈ l → d < t.size → (lay listed vals l t).getD d undef = vals i
  | [], t, _, h, _ => by cases h
  | (j, e) :: l, t, hn, h, hd => by
    simp only [List.map_cons, List.nodup_cons] at hn
    rw [lay]
    rcases List.mem_cons.1 h with h1 | h1
    · cases h1
      rw [if_pos hi, lay_other listed vals d l _ hn.1]
      simp [hd]
    · refine lay_at listed vals i d hi l _ hn.2 h1 ?_
      split <;> simpa using hd
theorem lay_same (listed : Array Bool) (vals : Nat → Value) (j : Nat) (v : Value) : ∀ (l : List (Nat × Nat)) (t : Array Value), j ∉ l.map Prod.fst → lay (listed.setIfInBounds j true) (fun i => if i = j then v else vals i) l t = lay listed vals l t
  | [], t, _ => rfl
  | (i, e) :: l, t, h => by
    simp only [List.map_cons, List.mem_cons, not_or] at h
    have h1 : (listed.setIfInBounds j true).getD i false = listed.getD i false := by simp [Array.getElem?_setIfInBounds, h.1]
    rw [lay, lay, h1, if_neg (Ne.symm h.1), lay_same listed vals j v l _ h.2]
theorem lay_put (listed : Array Bool) (vals : Nat → Value) (j d : Nat) (v : Value) (hj : listed.getD j true = false) : ∀ (l : List (Nat × Nat)) (t : Array Value), (l.map Prod.fst).Nodup → (l.map Prod.snd).Nodup → (j, d) ∈ l → lay (listed.setIfInBounds j true) (fun i => if i = j then v else vals i) l t = (lay listed vals l t).setIfInBounds d v
  | [], t, _, _, h => by cases h
  | (i, e) :: l, t, hf, hs, h => by
    simp only [List.map_cons, List.nodup_cons] at hf hs
    have hlt : j < listed.size := by
      rcases Nat.lt_or_ge j listed.size with h' | h'
      · exact h'
      · simp [Array.getElem?_eq_none h'] at hj
    have hj' : listed.getD j false = false := by simpa [hlt] using hj
    have hnew : (listed.setIfInBounds j true).getD j false = true := by simp [hlt]
    rw [lay, lay]
    rcases List.mem_cons.1 h with h1 | h1
    · cases h1
      rw [if_pos hnew, if_pos rfl, hj', if_neg (by decide), lay_same listed vals j v l _ hf.1, lay_comm listed vals d v l t hs.1]
    · have hij : i ≠ j := fun e' => hf.1 (by rw [e']; exact List.mem_map.2 ⟨(j, d), h1, rfl⟩)
      have h2 : (listed.setIfInBounds j true).getD i false = listed.getD i false := by simp [Array.getElem?_setIfInBounds, Ne.symm hij]
      rw [h2, if_neg hij]
      exact lay_put listed vals j d v hj l _ hf.2 hs.2 h1
section
variable {P : Program} {ops : Array Oper} {Q : Exit → Act → World → Prop}
theorem region_decl {id : Nat} {a0 : Act} {W : World} (hm : P.follows .mixedOrders = true) (ha : ahead ops = true) (dl : List (Nat × Nat)) (V : Nat → Value → World → Prop)
    (hV : ∀ (i : Nat) (v : Value) (w w' : World), V i v w → Below w.heap.size w w' → V i v w')
    (hop : ∀ (i : Nat) (o : Oper), ops[i]? = some o → o.guard = none ∧ ∃ d, o.dst = some d ∧ (i, d) ∈ dl) (hf : (dl.map Prod.fst).Nodup) (hs : (dl.map Prod.snd).Nodup) (hz : ∀ x ∈ dl, x.2 < a0.tmps.size ∧ x.1 < ops.size)
    (hstep : ∀ (i : Nat) (o : Oper), ops[i]? = some o → ∀ (a : Act) (w : World), Below W.heap.size W w → (∀ j d, (j, d) ∈ dl → (∃ e ∈ o.after, e.on = j ∧ Region.binds .any e = true) → V j (a.tmps.getD d undef) w) → (∀ s, s ∉ dl.map Prod.snd → a.tmps.getD s undef = a0.tmps.getD s undef) → o.wp P a w (fun a' w' => ∃ v, a' = a.put o.dst v ∧ V i v w' ∧ Below w.heap.size w w') Q)
    (hend : ∀ (vals : Nat → Value) (w : World), Below W.heap.size W w → (∀ x ∈ dl, V x.1 (vals x.1) w) → Q .normal ⟨dl.foldl (fun t x => t.setIfInBounds x.2 (vals x.1)) a0.tmps, a0.defers⟩ w) : (Code.region id ops true).wp P Q a0 W := by
  have hall : ∀ (listed : Array Bool) (vals : Nat → Value) (l : List (Nat × Nat)) (t : Array Value), (∀ x ∈ l, listed.getD x.1 false = true) → lay listed vals l t = l.foldl (fun t x => t.setIfInBounds x.2 (vals x.1)) t := by
    intro listed vals l
    induction l with
    | nil => intro t _; rfl
    | cons x l ih =>
      intro t h
      obtain ⟨i, d⟩ := x
      rw [lay, if_pos (h (i, d) (by simp)), ih _ fun y hy => h y (by simp [hy])]
      rfl
  refine region_inv hm (fun listed a w => listed.size = ops.size ∧ Below W.heap.size W w ∧ ∃ vals, a = ⟨lay listed vals dl a0.tmps, a0.defers⟩ ∧ ∀ x ∈ dl, listed.getD x.1 false = true → V x.1 (vals x.1) w) ha ?_ ?_ ?_
  · rintro listed a w ⟨h1, h2, vals, rfl, h4⟩ hl
    have h5 : ∀ x ∈ dl, listed.getD x.1 false = true := fun x hx => by
      have h6 := hl x.1 (hz x hx).2
      have h7 : x.1 < listed.size := by rw [h1]; exact (hz x hx).2
      simpa [h7] using h6
    rw [hall listed vals dl _ h5]
    exact hend vals w h2 fun x hx => h4 x hx (h5 x hx)
  · rintro listed a w ⟨h1, h2, vals, rfl, h4⟩ i o ho hi hdep
    obtain ⟨hg, d, hd, hmem⟩ := hop i o ho
    have hst := hstep i o ho ⟨lay listed vals dl a0.tmps, a0.defers⟩ w h2 (fun j e hje ⟨x, hx, hxj, hb⟩ => by
      have hlj : listed.getD j false = true := by rw [← hxj]; exact hdep x hx hb
      rw [show (lay listed vals dl a0.tmps).getD e undef = vals j from lay_at listed vals j e hlj dl _ hs hje (hz (j, e) hje).1]
      exact h4 (j, e) hje hlj) (fun s hs' => lay_other listed vals s dl _ hs')
    unfold wpOp
    simp only [ho]
    have hw : Region.wanted o (yielded ops (lay listed vals dl a0.tmps)) = true := by simp [Region.wanted, hg]
    rw [if_pos hw]
    refine .inl (Oper.wp_mono (fun a' w' hh => ?_) hst)
    obtain ⟨v, rfl, hv, hb⟩ := hh
    refine ⟨by simpa using h1, h2.trans (hb.mono h2.size), fun k => if k = i then v else vals k, ?_, fun x hx hl => ?_⟩
    · rw [lay_put listed vals i d v hi dl _ hf hs hmem, hd]
      rfl
    · by_cases hxi : x.1 = i
      · show V x.1 (if x.1 = i then v else vals x.1) w'
        rw [if_pos hxi, hxi]
        exact hv
      · show V x.1 (if x.1 = i then v else vals x.1) w'
        rw [if_neg hxi]
        have hl' : listed.getD x.1 false = true := by
          simpa [Array.getElem?_setIfInBounds, Ne.symm hxi] using hl
        exact hV _ _ _ _ (h4 x hx hl') hb
  · refine ⟨by simp, ⟨rfl, rfl, rfl, Nat.le_refl _, fun _ _ => rfl⟩, fun _ => undef, ?_, fun x hx hl => ?_⟩
    · have hnone : ∀ (l : List (Nat × Nat)) (t : Array Value), lay (Array.replicate ops.size false) (fun _ => undef) l t = t := by
        intro l
        induction l with
        | nil => intro t; rfl
        | cons x l ih =>
          intro t
          obtain ⟨i, e⟩ := x
          rw [lay, if_neg (by simp [Array.getElem?_replicate]; split <;> simp), ih]
      rw [hnone]
    · exfalso
      simp [Array.getElem?_replicate] at hl
      split at hl <;> simp at hl
end
inductive Ans where
  | val (v : Value)
  | row (n : Nat) (xs : List Int)
def Ans.is : Ans → Value → World → Prop
  | .val v0, v, _ => v = v0
  | .row n xs, v, w => ∃ b, v = .slice (some ⟨b, 0, none⟩) n n ∧ Rd w (some ⟨b, 0, none⟩) .i64 xs
theorem Ans.later {a : Ans} {v : Value} {w w' : World} (h : a.is v w) (hb : Below w.heap.size w w') : a.is v w' := by
  cases a with
  | val v0 => exact h
  | row n xs =>
    obtain ⟨b, h1, h2⟩ := h
    exact ⟨b, h1, h2.below hb⟩
def allOps (S : Nat → Oper → Prop) : Nat → List Oper → Prop
  | _, [] => True
  | i, o :: l => S i o ∧ allOps S (i + 1) l
theorem allOps_at {S : Nat → Oper → Prop} : ∀ (l : List Oper) (k : Nat), allOps S k l → ∀ i o, l[i]? = some o → S (k + i) o
  | [], _, _, i, o, h => by simp at h
  | x :: l, k, h, 0, o, ho => by
    simp only [List.getElem?_cons_zero, Option.some.injEq] at ho
    subst ho
    exact h.1
  | x :: l, k, h, i + 1, o, ho => by
    have := allOps_at l (k + 1) h.2 i o (by simpa using ho)
    rwa [show k + 1 + i = k + (i + 1) by omega] at this
def opsFit (ops : Array Oper) (dl : List (Nat × Nat)) : Bool := (List.range ops.size).all fun i => match ops[i]? with
  | some o => o.guard.isNone && (match o.dst with | some d => dl.contains (i, d) | none => false)
  | none => false
theorem opsFit_at {ops : Array Oper} {dl : List (Nat × Nat)} (h : opsFit ops dl = true) (i : Nat) (o : Oper) (ho : ops[i]? = some o) : o.guard = none ∧ ∃ d, o.dst = some d ∧ (i, d) ∈ dl := by
  have hi : i < ops.size := (Array.getElem?_eq_some_iff.1 ho).1
  have h1 := List.all_eq_true.1 h i (List.mem_range.2 hi)
  simp only [ho, Bool.and_eq_true, Option.isNone_iff_eq_none] at h1
  refine ⟨h1.1, ?_⟩
  cases hd : o.dst with
  | none => simp [hd] at h1
  | some d => exact ⟨d, rfl, by simpa [hd] using h1.2⟩
def StepOK (P : Program) (Q : Exit → Act → World → Prop) (W : World) (t0 : Array Value) (dl : List (Nat × Nat)) (ans : List Ans) (i : Nat) (o : Oper) : Prop :=
  ∀ (a : Act) (w : World), Below W.heap.size W w → (∀ j d, (j, d) ∈ dl → (o.after.toList.any fun e => e.on == j && Region.binds .any e) = true → (ans.getD j (.val undef)).is (a.eval (.tmp d)) w) → (∀ s, s ∉ dl.map Prod.snd → a.eval (.tmp s) = t0.getD s undef) → o.wp P a w (fun a' w' => ∃ v, a' = a.put o.dst v ∧ (ans.getD i (.val undef)).is v w' ∧ Below w.heap.size w w') Q
theorem region_ints {P : Program} {ops : Array Oper} {Q : Exit → Act → World → Prop} {id : Nat} {a0 : Act} {W : World} (dl : List (Nat × Nat)) (ans : List Ans) (hm : P.follows .mixedOrders = true) (ha : ahead ops = true) (hop : opsFit ops dl = true) (hf : (dl.map Prod.fst).Nodup) (hs : (dl.map Prod.snd).Nodup) (hz : (dl.all fun x => decide (x.2 < a0.tmps.size) && decide (x.1 < ops.size)) = true)
    (hstep : allOps (StepOK P Q W a0.tmps dl ans) 0 ops.toList)
    (hend : ∀ (vals : Nat → Value) (w : World), Below W.heap.size W w → (∀ x ∈ dl, (ans.getD x.1 (.val undef)).is (vals x.1) w) → Q .normal ⟨dl.foldl (fun t x => t.setIfInBounds x.2 (vals x.1)) a0.tmps, a0.defers⟩ w) : (Code.region id ops true).wp P Q a0 W := by
  refine region_decl hm ha dl (fun i => (ans.getD i (.val undef)).is) (fun i v w w' h hb => Ans.later (a := ans.getD i (.val undef)) h hb) (fun i o ho => opsFit_at hop i o ho) hf hs (fun x hx => by simpa using List.all_eq_true.1 hz x hx) (fun i o ho a w hb h1 h2 => ?_) hend
  have h3 := allOps_at _ 0 hstep i o (by simpa using ho)
  rw [Nat.zero_add] at h3
  refine h3 a w hb (fun j d hj he => h1 j d hj ?_) h2
  obtain ⟨k, hk, he⟩ := List.any_eq_true.1 he
  simp only [Bool.and_eq_true, beq_iff_eq] at he
  exact ⟨k, by simpa using hk, he.1, he.2⟩
section
variable {P : Program} {Q : Exit → Act → World → Prop} {W : World} {t0 : Array Value} {dl : List (Nat × Nat)} {ans : List Ans} {i : Nat} {o : Oper}
structure Reads (dl : List (Nat × Nat)) (ans : List Ans) (t0 : Array Value) (o : Oper) (W : World) (ρ : Operand → Value) (v : World) : Prop where
  b : Below W.heap.size W v
  dep : ∀ j d u, (j, d) ∈ dl → (o.after.toList.any fun e => e.on == j && Region.binds .any e) = true → ans.getD j (.val undef) = .val u → ρ (.tmp d) = u
  row : ∀ j d n xs, (j, d) ∈ dl → (o.after.toList.any fun e => e.on == j && Region.binds .any e) = true → ans.getD j (.val undef) = .row n xs → ∃ b, ρ (.tmp d) = .slice (some ⟨b, 0, none⟩) n n ∧ Rd v (some ⟨b, 0, none⟩) .i64 xs
  old : ∀ s, s ∉ dl.map Prod.snd → ρ (.tmp s) = t0.getD s undef
  con : ∀ u, ρ (.const u) = u
  fn : ∀ f, ρ (.func f) = .func (.func f) #[] #[]
theorem reads {a : Act} {v : World} (hb : Below W.heap.size W v) (h1 : ∀ j d, (j, d) ∈ dl → (o.after.toList.any fun e => e.on == j && Region.binds .any e) = true → (ans.getD j (.val undef)).is (a.eval (.tmp d)) v) (h2 : ∀ s, s ∉ dl.map Prod.snd → a.eval (.tmp s) = t0.getD s undef) : Reads dl ans t0 o W a.eval v :=
  ⟨hb, fun j d u hj he hu => by have := h1 j d hj he; rw [hu] at this; exact this, fun j d n xs hj he hu => by have := h1 j d hj he; rw [hu] at this; exact this, h2, fun _ => rfl, fun _ => rfl⟩
theorem ok_pure (u : Value) (hans : ans.getD i (.val undef) = .val u) (hrun : ∀ (ρ : Operand → Value) (v : World), Reads dl ans t0 o W ρ v → (execOp ρ o).run P v = .ok (.value u) v) : StepOK P Q W t0 dl ans i o := by
  intro a v hb h1 h2
  unfold Oper.wp
  rw [hrun a.eval v (reads hb h1 h2)]
  exact ⟨u, rfl, by rw [hans]; rfl, Below.refl _ _⟩
theorem ok_build (n : Nat) (xs : List Int) (t : TypeId) (hans : ans.getD i (.val undef) = .row n xs) (hrd : ∀ v : World, Rd (v.alloc (.cells ((xs.map (Value.int .i64)).toArray) t)) (some ⟨v.heap.size, 0, none⟩) .i64 xs)
    (hrun : ∀ (ρ : Operand → Value) (v : World), Reads dl ans t0 o W ρ v → (execOp ρ o).run P v = .ok (.value (.slice (some ⟨v.heap.size, 0, none⟩) n n)) (v.alloc (.cells ((xs.map (Value.int .i64)).toArray) t))) : StepOK P Q W t0 dl ans i o := by
  intro a v hb h1 h2
  unfold Oper.wp
  rw [hrun a.eval v (reads hb h1 h2)]
  exact ⟨_, rfl, by rw [hans]; exact ⟨v.heap.size, rfl, hrd v⟩, (Below.refl _ _).alloc (Nat.le_refl _) _⟩
theorem ok_call (f : Nat) (u : Value) (hans : ans.getD i (.val undef) = .val u) (hrun : ∀ (ρ : Operand → Value) (v : World), Reads dl ans t0 o W ρ v → ∃ args, (execOp ρ o).run P v = .ok (.enter f args) v ∧ Calls P f args v fun e w' => e = .returned u ∧ Below v.heap.size v w') : StepOK P Q W t0 dl ans i o := by
  intro a v hb h1 h2
  obtain ⟨args, h3, h4⟩ := hrun a.eval v (reads hb h1 h2)
  unfold Oper.wp
  rw [h3]
  refine h4.mono ?_
  rintro e w' ⟨rfl, hb'⟩
  exact ⟨u, rfl, by rw [hans]; rfl, hb'⟩
end
structure An where
  is : Value → World → Prop
  later : ∀ {v : Value} {w w' : World}, is v w → Below w.heap.size w w' → is v w'
instance : Inhabited An := ⟨⟨fun _ _ => True, fun _ _ => trivial⟩⟩
theorem lay_unlisted (listed : Array Bool) (vals : Nat → Value) (k s : Nat) (hk : listed.getD k false = false) : ∀ (l : List (Nat × Nat)) (t : Array Value), (l.map Prod.snd).Nodup → (k, s) ∈ l → (lay listed vals l t).getD s undef = t.getD s undef
  | [], t, _, h => by cases h
  | (j, e) :: l, t, hn, h => by
    simp only [List.map_cons, List.nodup_cons] at hn
    rw [lay]
    rcases List.mem_cons.1 h with h1 | h1
    · cases h1
      rw [hk, if_neg (by decide), lay_other listed vals s l _ hn.1]
    · have hne : e ≠ s := fun e' => hn.1 (by rw [e']; exact List.mem_map.2 ⟨(k, s), h1, rfl⟩)
      rw [lay_unlisted listed vals k s hk l _ hn.2 h1]
      split
      · simp [Array.getElem?_setIfInBounds, hne]
      · rfl
def waits (ops : Array Oper) (k i : Nat) : Bool := match ops[k]? with
  | some o => o.after.toList.any fun e => e.on == i && Region.binds .any e
  | none => false
theorem waits_at {ops : Array Oper} {k i : Nat} (h : waits ops k i = true) : ∃ o, ops[k]? = some o ∧ ∃ e ∈ o.after, e.on = i ∧ Region.binds .any e = true := by
  unfold waits at h
  cases ho : ops[k]? with
  | none => simp [ho] at h
  | some o =>
    simp only [ho] at h
    obtain ⟨e, he, h2⟩ := List.any_eq_true.1 h
    simp only [Bool.and_eq_true, beq_iff_eq] at h2
    exact ⟨o, rfl, e, by simpa using he, h2.1, h2.2⟩
def lastFit (ops : Array Oper) (N : Nat) : Bool := decide (ops.size = N) || (decide (ops.size = N + 1) && (match ops[N]? with | some o => o.guard.isNone | none => false) && (List.range N).all fun j => waits ops N j)
def allUpto (S : Nat → Oper → Prop) (N : Nat) : Nat → List Oper → Prop
  | _, [] => True
  | i, o :: l => (i < N → S i o) ∧ allUpto S N (i + 1) l
theorem allUpto_at {S : Nat → Oper → Prop} {N : Nat} : ∀ (l : List Oper) (k : Nat), allUpto S N k l → ∀ i o, l[i]? = some o → k + i < N → S (k + i) o
  | [], _, _, i, o, h, _ => by simp at h
  | x :: l, k, h, 0, o, ho, hN => by
    simp only [List.getElem?_cons_zero, Option.some.injEq] at ho
    subst ho
    exact h.1 hN
  | x :: l, k, h, i + 1, o, ho, hN => by
    have := allUpto_at l (k + 1) h.2 i o (by simpa using ho) (by omega)
    rwa [show k + 1 + i = k + (i + 1) by omega] at this
def aheadB (ops : Array Oper) : Bool := (List.range ops.size).all fun i => ((ops[i]?).map (·.after.all fun e => !Region.binds .any e || decide (e.on < i))).getD true
theorem all_listedB {ops : Array Oper} (ha : aheadB ops = true) {listed : Array Bool} (hr : Region.ready .any ops listed = []) : ∀ j, j < ops.size → listed.getD j true = true := by
  intro j
  induction j using Nat.strongRecOn with
  | _ j ih =>
    intro hj
    cases hc : listed.getD j true with
    | true => rfl
    | false =>
      exfalso
      have ho : ops[j]? = some ops[j] := Array.getElem?_eq_getElem hj
      have hsz : j < listed.size := by
        rcases Nat.lt_or_ge j listed.size with h' | h'
        · exact h'
        · simp [Array.getElem?_eq_none h'] at hc
      have : j ∈ Region.ready .any ops listed := by
        rw [mem_ready]
        refine ⟨hc, ops[j], ho, fun e he hbn => ?_⟩
        have h1 := List.all_eq_true.1 ha j (List.mem_range.2 hj)
        rw [ho] at h1
        simp only [Option.map_some, Option.getD_some, Array.all_eq_true_iff_forall_mem, Bool.or_eq_true, Bool.not_eq_true', decide_eq_true_eq] at h1
        have h2 : e.on < j := by
          rcases h1 e he with h | h
          · rw [hbn] at h; cases h
          · exact h
        have h3 := ih e.on h2 (by omega)
        have h4 : e.on < listed.size := by omega
        simpa [h4] using h3
      rw [hr] at this
      cases this
section
variable {P : Program} {Q : Exit → Act → World → Prop} {W : World} {ops : Array Oper} {t0 : Array Value} {dl : List (Nat × Nat)} {ans : List An} {i : Nat} {o : Oper}
end
structure Ax where
  is : (Nat → Prop) → Value → World → Prop
  later : ∀ {X : Nat → Prop} {v : Value} {w w' : World}, is X v w → Below w.heap.size w w' → is X v w'
  add : ∀ {X : Nat → Prop} {v : Value} {w : World} {b : Nat}, is X v w → w.heap.size ≤ b → is (fun c => X c ∨ c = b) v w
  sub : ∀ {X Y : Nat → Prop} {v : Value} {w : World}, is X v w → (∀ b, Y b → X b) → is Y v w
instance : Inhabited Ax := ⟨⟨fun _ _ _ => True, fun _ _ => trivial, fun _ _ => trivial, fun _ _ => trivial⟩⟩
def Ax.val (u : Value) : Ax := ⟨fun _ v _ => v = u, fun h _ => h, fun h _ => h, fun h _ => h⟩
structure SeesX (ops : Array Oper) (dl : List (Nat × Nat)) (al : List Nat) (ans : List Ax) (t0 : Array Value) (i : Nat) (W : World) (X : Nat → Prop) (ρ : Operand → Value) (v : World) : Prop where
  b : Below W.heap.size W v
  xb : ∀ c, X c → W.heap.size ≤ c ∧ c < v.heap.size
  dep : ∀ j d, (j, d) ∈ dl → waits ops i j = true → al.contains j = false → (ans.getD j default).is X (ρ (.tmp d)) v
  depA : ∀ j d, (j, d) ∈ dl → waits ops i j = true → (ans.getD j default).is (fun _ => False) (ρ (.tmp d)) v
  old : ∀ s, s ∉ dl.map Prod.snd → ρ (.tmp s) = t0.getD s undef
  pre : ∀ s k, (k, s) ∈ dl → waits ops k i = true → ρ (.tmp s) = t0.getD s undef
  con : ∀ u, ρ (.const u) = u
  fn : ∀ f, ρ (.func f) = .func (.func f) #[] #[]
def XS (dl : List (Nat × Nat)) (al : List Nat) (listed : Array Bool) (vals : Nat → Value) (i : Nat) (b : Nat) : Prop := ∃ y ∈ dl, y.1 ≠ i ∧ listed.getD y.1 false = true ∧ al.contains y.1 = true ∧ vals y.1 = .pointer (some ⟨b, 0, none⟩)
def XA (dl : List (Nat × Nat)) (al : List Nat) (vals : Nat → Value) (i : Nat) (b : Nat) : Prop := ∃ y ∈ dl, y.1 ≠ i ∧ al.contains y.1 = true ∧ vals y.1 = .pointer (some ⟨b, 0, none⟩)
def opsFitG (ops : Array Oper) (dl : List (Nat × Nat)) (gl : List (Nat × Bool)) (N : Nat) : Bool := (List.range N).all fun i => match ops[i]? with
  | some o => (match o.guard with | none => true | some x => gl.contains x && waits ops i x.1 && decide (x.1 < N)) && (match o.dst with | some d => dl.contains (i, d) | none => false)
  | none => false
theorem opsFitG_at {ops : Array Oper} {dl : List (Nat × Nat)} {gl : List (Nat × Bool)} {N : Nat} (h : opsFitG ops dl gl N = true) (i : Nat) (hi : i < N) (o : Oper) (ho : ops[i]? = some o) : (o.guard = none ∨ ∃ j b, o.guard = some (j, b) ∧ (j, b) ∈ gl ∧ waits ops i j = true ∧ j < N) ∧ ∃ d, o.dst = some d ∧ (i, d) ∈ dl := by
  have h1 := List.all_eq_true.1 h i (List.mem_range.2 hi)
  simp only [ho, Bool.and_eq_true] at h1
  refine ⟨?_, ?_⟩
  · cases hg : o.guard with
    | none => exact .inl rfl
    | some x =>
      obtain ⟨j, b⟩ := x
      have h2 := h1.1
      simp only [hg, Bool.and_eq_true, decide_eq_true_eq] at h2
      exact .inr ⟨j, b, rfl, by simpa using h2.1.1, h2.1.2, h2.2⟩
  · cases hd : o.dst with
    | none => simp [hd] at h1
    | some d => exact ⟨d, rfl, by simpa [hd] using h1.2⟩
def allG (ans : List Ax) : List (Nat × Bool) → Prop
  | [] => True
  | x :: l => (∀ X v w, (ans.getD x.1 default).is X v w → v = .bool x.2) ∧ allG ans l
theorem allG_at {ans : List Ax} : ∀ {l : List (Nat × Bool)}, allG ans l → ∀ x ∈ l, ∀ X v w, (ans.getD x.1 default).is X v w → v = .bool x.2
  | [], _, x, hx => by cases hx
  | y :: l, h, x, hx => by
    rcases List.mem_cons.1 hx with h1 | h1
    · subst h1; exact h.1
    · exact allG_at h.2 x h1
section
variable {P : Program} {Q : Exit → Act → World → Prop} {W : World} {ops : Array Oper} {t0 : Array Value} {dl : List (Nat × Nat)} {al : List Nat} {ans : List Ax} {i : Nat} {o : Oper}
end
end Go.Proofs.YtejnhpjejcpekaaGreatDoor
