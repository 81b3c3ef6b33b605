/-
  A region by what each of its operations answers, in whatever order they come up.
-/
import Derived.Test.YtcdfckjlmifjiaaGreatRoUcVbDaVcDuOi
import Derived.Test.YtcdfckjlmifjiaaGreatMmKpOr
import Derived.Test.YtcdfckjlmifjiaaGreatAvWaWbWc
import Derived.Test.YtcdfckjlmifjiaaGreatWdWeNi
import Derived.Deep.DeepFit
import Derived.Deep.DeepCutAuto
import Derived.Deep.RegionHeld3
import Derived.Test.YtcdfckjlmifjiaaGreatRwNjUbVaVg
namespace Go.Proofs.YtcdfckjlmifjiaaGreat
open Go.RowKit
set_option linter.unusedVariables false
set_option linter.unusedSimpArgs false

/-- What the slots hold: of each listed operation its value. -/
def lay (listed : Array Bool) (vals : Nat → Value) : List (Nat × Nat) → Array Value → Array Value
  | [], t => t
  | (i, d) :: l, t => lay listed vals l (if listed.getD i false = true then t.setIfInBounds d (vals i) else t)
theorem lay_comm (listed : Array Bool) (vals : Nat → Value) (d : Nat) (v : Value) : ∀ (l : List (Nat × Nat)) (t : Array Value), d ∉ l.map Prod.snd → lay listed vals l (t.setIfInBounds d v) = (lay listed vals l t).setIfInBounds d v
  | [], t, _ => rfl
  | (i, e) :: l, t, h => by
    simp only [List.map_cons, List.mem_cons, not_or] at h
    rw [lay, lay]
    split
    · rw [← lay_comm listed vals d v l _ h.2, Array.setIfInBounds_comm _ _ h.1]
    · exact lay_comm listed vals d v l t h.2
theorem lay_other (listed : Array Bool) (vals : Nat → Value) (s : Nat) : ∀ (l : List (Nat × Nat)) (t : Array Value), s ∉ l.map Prod.snd → (lay listed vals l t).getD s undef = t.getD s undef
  | [], t, _ => rfl
  | (i, e) :: l, t, h => by
    simp only [List.map_cons, List.mem_cons, not_or] at h
    rw [lay, lay_other listed vals s l _ h.2]
    split
    · simp [Array.getElem?_setIfInBounds, Ne.symm h.1]
    · rfl
theorem lay_at (listed : Array Bool) (vals : Nat → Value) (i d : Nat) (hi : listed.getD i false = true) : ∀ (l : List (Nat × Nat)) (t : Array Value), (l.map Prod.snd).Nodup → (i, d) ∈ l → d < t.size → (lay listed vals l t).getD d undef = vals i
  | [], t, _, h, _ => by cases h
  | (j, e) :: l, t, hn, h, hd => by
    simp only [List.map_cons, List.nodup_cons] at hn
    rw [lay]
    rcases List.mem_cons.1 h with h1 | h1
    · cases h1
      rw [if_pos hi, lay_other listed vals d l _ hn.1]
      simp [hd]
    · refine lay_at listed vals i d hi l _ hn.2 h1 ?_
      split <;> simpa using hd
theorem lay_same (listed : Array Bool) (vals : Nat → Value) (j : Nat) (v : Value) : ∀ (l : List (Nat × Nat)) (t : Array Value), j ∉ l.map Prod.fst → lay (listed.setIfInBounds j true) (fun i => if i = j then v else vals i) l t = lay listed vals l t
  | [], t, _ => rfl
  | (i, e) :: l, t, h => by
    simp only [List.map_cons, List.mem_cons, not_or] at h
    have h1 : (listed.setIfInBounds j true).getD i false = listed.getD i false := by simp [Array.getElem?_setIfInBounds, h.1]
    rw [lay, lay, h1, if_neg (Ne.symm h.1), lay_same listed vals j v l _ h.2]
theorem lay_put (listed : Array Bool) (vals : Nat → Value) (j d : Nat) (v : Value) (hj : listed.getD j true = false) : ∀ (l : List (Nat × Nat)) (t : Array Value), (l.map Prod.fst).Nodup → (l.map Prod.snd).Nodup → (j, d) ∈ l → lay (listed.setIfInBounds j true) (fun i => if i = j then v else vals i) l t = (lay listed vals l t).setIfInBounds d v
  | [], t, _, _, h => by cases h
  | (i, e) :: l, t, hf, hs, h => by
    simp only [List.map_cons, List.nodup_cons] at hf hs
    have hlt : j < listed.size := by
      rcases Nat.lt_or_ge j listed.size with h' | h'
      · exact h'
      · simp [Array.getElem?_eq_none h'] at hj
    have hj' : listed.getD j false = false := by simpa [hlt] using hj
    have hnew : (listed.setIfInBounds j true).getD j false = true := by simp [hlt]
    rw [lay, lay]
    rcases List.mem_cons.1 h with h1 | h1
    · cases h1
      rw [if_pos hnew, if_pos rfl, hj', if_neg (by decide), lay_same listed vals j v l _ hf.1, lay_comm listed vals d v l t hs.1]
    · have hij : i ≠ j := fun e' => hf.1 (by rw [e']; exact List.mem_map.2 ⟨(j, d), h1, rfl⟩)
      have h2 : (listed.setIfInBounds j true).getD i false = listed.getD i false := by simp [Array.getElem?_setIfInBounds, Ne.symm hij]
      rw [h2, if_neg hij]
      exact lay_put listed vals j d v hj l _ hf.2 hs.2 h1
section
variable {P : Program} {ops : Array Oper} {Q : Exit → Act → World → Prop}
/-- A region by what each of its operations answers. -/
theorem region_decl {id : Nat} {a0 : Act} {W : World} (hm : P.follows .mixedOrders = true) (ha : ahead ops = true) (dl : List (Nat × Nat)) (V : Nat → Value → World → Prop)
    (hV : ∀ (i : Nat) (v : Value) (w w' : World), V i v w → Below w.heap.size w w' → V i v w')
    (hop : ∀ (i : Nat) (o : Oper), ops[i]? = some o → o.guard = none ∧ ∃ d, o.dst = some d ∧ (i, d) ∈ dl) (hf : (dl.map Prod.fst).Nodup) (hs : (dl.map Prod.snd).Nodup) (hz : ∀ x ∈ dl, x.2 < a0.tmps.size ∧ x.1 < ops.size)
    (hstep : ∀ (i : Nat) (o : Oper), ops[i]? = some o → ∀ (a : Act) (w : World), Below W.heap.size W w → (∀ j d, (j, d) ∈ dl → (∃ e ∈ o.after, e.on = j ∧ Region.binds .any e = true) → V j (a.tmps.getD d undef) w) → (∀ s, s ∉ dl.map Prod.snd → a.tmps.getD s undef = a0.tmps.getD s undef) → o.wp P a w (fun a' w' => ∃ v, a' = a.put o.dst v ∧ V i v w' ∧ Below w.heap.size w w') Q)
    (hend : ∀ (vals : Nat → Value) (w : World), Below W.heap.size W w → (∀ x ∈ dl, V x.1 (vals x.1) w) → Q .normal ⟨dl.foldl (fun t x => t.setIfInBounds x.2 (vals x.1)) a0.tmps, a0.defers⟩ w) : (Code.region id ops true).wp P Q a0 W := by
  have hall : ∀ (listed : Array Bool) (vals : Nat → Value) (l : List (Nat × Nat)) (t : Array Value), (∀ x ∈ l, listed.getD x.1 false = true) → lay listed vals l t = l.foldl (fun t x => t.setIfInBounds x.2 (vals x.1)) t := by
    intro listed vals l
    induction l with
    | nil => intro t _; rfl
    | cons x l ih =>
      intro t h
      obtain ⟨i, d⟩ := x
      rw [lay, if_pos (h (i, d) (by simp)), ih _ fun y hy => h y (by simp [hy])]
      rfl
  refine region_inv hm (fun listed a w => listed.size = ops.size ∧ Below W.heap.size W w ∧ ∃ vals, a = ⟨lay listed vals dl a0.tmps, a0.defers⟩ ∧ ∀ x ∈ dl, listed.getD x.1 false = true → V x.1 (vals x.1) w) ha ?_ ?_ ?_
  · rintro listed a w ⟨h1, h2, vals, rfl, h4⟩ hl
    have h5 : ∀ x ∈ dl, listed.getD x.1 false = true := fun x hx => by
      have h6 := hl x.1 (hz x hx).2
      have h7 : x.1 < listed.size := by rw [h1]; exact (hz x hx).2
      simpa [h7] using h6
    rw [hall listed vals dl _ h5]
    exact hend vals w h2 fun x hx => h4 x hx (h5 x hx)
  · rintro listed a w ⟨h1, h2, vals, rfl, h4⟩ i o ho hi hdep
    obtain ⟨hg, d, hd, hmem⟩ := hop i o ho
    have hst := hstep i o ho ⟨lay listed vals dl a0.tmps, a0.defers⟩ w h2 (fun j e hje ⟨x, hx, hxj, hb⟩ => by
      have hlj : listed.getD j false = true := by rw [← hxj]; exact hdep x hx hb
      rw [show (lay listed vals dl a0.tmps).getD e undef = vals j from lay_at listed vals j e hlj dl _ hs hje (hz (j, e) hje).1]
      exact h4 (j, e) hje hlj) (fun s hs' => lay_other listed vals s dl _ hs')
    unfold wpOp
    simp only [ho]
    have hw : Region.wanted o (yielded ops (lay listed vals dl a0.tmps)) = true := by simp [Region.wanted, hg]
    rw [if_pos hw]
    refine .inl (Oper.wp_mono (fun a' w' hh => ?_) hst)
    obtain ⟨v, rfl, hv, hb⟩ := hh
    refine ⟨by simpa using h1, h2.trans (hb.mono h2.size), fun k => if k = i then v else vals k, ?_, fun x hx hl => ?_⟩
    · rw [lay_put listed vals i d v hi dl _ hf hs hmem, hd]
      rfl
    · by_cases hxi : x.1 = i
      · show V x.1 (if x.1 = i then v else vals x.1) w'
        rw [if_pos hxi, hxi]
        exact hv
      · show V x.1 (if x.1 = i then v else vals x.1) w'
        rw [if_neg hxi]
        have hl' : listed.getD x.1 false = true := by
          simpa [Array.getElem?_setIfInBounds, Ne.symm hxi] using hl
        exact hV _ _ _ _ (h4 x hx hl') hb
  · refine ⟨by simp, ⟨rfl, rfl, rfl, Nat.le_refl _, fun _ _ => rfl⟩, fun _ => undef, ?_, fun x hx hl => ?_⟩
    · have hnone : ∀ (l : List (Nat × Nat)) (t : Array Value), lay (Array.replicate ops.size false) (fun _ => undef) l t = t := by
        intro l
        induction l with
        | nil => intro t; rfl
        | cons x l ih =>
          intro t
          obtain ⟨i, e⟩ := x
          rw [lay, if_neg (by simp [Array.getElem?_replicate]; split <;> simp), ih]
      rw [hnone]
    · exfalso
      simp [Array.getElem?_replicate] at hl
      split at hl <;> simp at hl
end
/-- What an operation answers: a value, or a new row of integers. -/
inductive Ans where
  | val (v : Value)
  | row (n : Nat) (xs : List Int)
def Ans.is : Ans → Value → World → Prop
  | .val v0, v, _ => v = v0
  | .row n xs, v, w => ∃ b, v = .slice (some ⟨b, 0, none⟩) n n ∧ Rd w (some ⟨b, 0, none⟩) .i64 xs
theorem Ans.later {a : Ans} {v : Value} {w w' : World} (h : a.is v w) (hb : Below w.heap.size w w') : a.is v w' := by
  cases a with
  | val v0 => exact h
  | row n xs =>
    obtain ⟨b, h1, h2⟩ := h
    exact ⟨b, h1, h2.below hb⟩
def allOps (S : Nat → Oper → Prop) : Nat → List Oper → Prop
  | _, [] => True
  | i, o :: l => S i o ∧ allOps S (i + 1) l
theorem allOps_at {S : Nat → Oper → Prop} : ∀ (l : List Oper) (k : Nat), allOps S k l → ∀ i o, l[i]? = some o → S (k + i) o
  | [], _, _, i, o, h => by simp at h
  | x :: l, k, h, 0, o, ho => by
    simp only [List.getElem?_cons_zero, Option.some.injEq] at ho
    subst ho
    exact h.1
  | x :: l, k, h, i + 1, o, ho => by
    have := allOps_at l (k + 1) h.2 i o (by simpa using ho)
    rwa [show k + 1 + i = k + (i + 1) by omega] at this
def opsFit (ops : Array Oper) (dl : List (Nat × Nat)) : Bool := (List.range ops.size).all fun i => match ops[i]? with
  | some o => o.guard.isNone && (match o.dst with | some d => dl.contains (i, d) | none => false)
  | none => false
theorem opsFit_at {ops : Array Oper} {dl : List (Nat × Nat)} (h : opsFit ops dl = true) (i : Nat) (o : Oper) (ho : ops[i]? = some o) : o.guard = none ∧ ∃ d, o.dst = some d ∧ (i, d) ∈ dl := by
  have hi : i < ops.size := (Array.getElem?_eq_some_iff.1 ho).1
  have h1 := List.all_eq_true.1 h i (List.mem_range.2 hi)
  simp only [ho, Bool.and_eq_true, Option.isNone_iff_eq_none] at h1
  refine ⟨h1.1, ?_⟩
  cases hd : o.dst with
  | none => simp [hd] at h1
  | some d => exact ⟨d, rfl, by simpa [hd] using h1.2⟩
/-- What a step of such a region must show. -/
def StepOK (P : Program) (Q : Exit → Act → World → Prop) (W : World) (t0 : Array Value) (dl : List (Nat × Nat)) (ans : List Ans) (i : Nat) (o : Oper) : Prop :=
  ∀ (a : Act) (w : World), Below W.heap.size W w → (∀ j d, (j, d) ∈ dl → (o.after.toList.any fun e => e.on == j && Region.binds .any e) = true → (ans.getD j (.val undef)).is (a.eval (.tmp d)) w) → (∀ s, s ∉ dl.map Prod.snd → a.eval (.tmp s) = t0.getD s undef) → o.wp P a w (fun a' w' => ∃ v, a' = a.put o.dst v ∧ (ans.getD i (.val undef)).is v w' ∧ Below w.heap.size w w') Q
/-- A region of reads, rows of integers and calls, in whatever order. -/
theorem region_ints {P : Program} {ops : Array Oper} {Q : Exit → Act → World → Prop} {id : Nat} {a0 : Act} {W : World} (dl : List (Nat × Nat)) (ans : List Ans) (hm : P.follows .mixedOrders = true) (ha : ahead ops = true) (hop : opsFit ops dl = true) (hf : (dl.map Prod.fst).Nodup) (hs : (dl.map Prod.snd).Nodup) (hz : (dl.all fun x => decide (x.2 < a0.tmps.size) && decide (x.1 < ops.size)) = true)
    (hstep : allOps (StepOK P Q W a0.tmps dl ans) 0 ops.toList)
    (hend : ∀ (vals : Nat → Value) (w : World), Below W.heap.size W w → (∀ x ∈ dl, (ans.getD x.1 (.val undef)).is (vals x.1) w) → Q .normal ⟨dl.foldl (fun t x => t.setIfInBounds x.2 (vals x.1)) a0.tmps, a0.defers⟩ w) : (Code.region id ops true).wp P Q a0 W := by
  refine region_decl hm ha dl (fun i => (ans.getD i (.val undef)).is) (fun i v w w' h hb => Ans.later (a := ans.getD i (.val undef)) h hb) (fun i o ho => opsFit_at hop i o ho) hf hs (fun x hx => by simpa using List.all_eq_true.1 hz x hx) (fun i o ho a w hb h1 h2 => ?_) hend
  have h3 := allOps_at _ 0 hstep i o (by simpa using ho)
  rw [Nat.zero_add] at h3
  refine h3 a w hb (fun j d hj he => h1 j d hj ?_) h2
  obtain ⟨k, hk, he⟩ := List.any_eq_true.1 he
  simp only [Bool.and_eq_true, beq_iff_eq] at he
  exact ⟨k, by simpa using hk, he.1, he.2⟩
section
variable {P : Program} {Q : Exit → Act → World → Prop} {W : World} {t0 : Array Value} {dl : List (Nat × Nat)} {ans : List Ans} {i : Nat} {o : Oper}
/-- What an operation may read: answers that are values, and what lay in other slots. -/
structure Reads (dl : List (Nat × Nat)) (ans : List Ans) (t0 : Array Value) (o : Oper) (W : World) (ρ : Operand → Value) (v : World) : Prop where
  b : Below W.heap.size W v
  dep : ∀ j d u, (j, d) ∈ dl → (o.after.toList.any fun e => e.on == j && Region.binds .any e) = true → ans.getD j (.val undef) = .val u → ρ (.tmp d) = u
  row : ∀ j d n xs, (j, d) ∈ dl → (o.after.toList.any fun e => e.on == j && Region.binds .any e) = true → ans.getD j (.val undef) = .row n xs → ∃ b, ρ (.tmp d) = .slice (some ⟨b, 0, none⟩) n n ∧ Rd v (some ⟨b, 0, none⟩) .i64 xs
  old : ∀ s, s ∉ dl.map Prod.snd → ρ (.tmp s) = t0.getD s undef
  con : ∀ u, ρ (.const u) = u
  fn : ∀ f, ρ (.func f) = .func (.func f) #[] #[]
theorem reads {a : Act} {v : World} (hb : Below W.heap.size W v) (h1 : ∀ j d, (j, d) ∈ dl → (o.after.toList.any fun e => e.on == j && Region.binds .any e) = true → (ans.getD j (.val undef)).is (a.eval (.tmp d)) v) (h2 : ∀ s, s ∉ dl.map Prod.snd → a.eval (.tmp s) = t0.getD s undef) : Reads dl ans t0 o W a.eval v :=
  ⟨hb, fun j d u hj he hu => by have := h1 j d hj he; rw [hu] at this; exact this, fun j d n xs hj he hu => by have := h1 j d hj he; rw [hu] at this; exact this, h2, fun _ => rfl, fun _ => rfl⟩
/-- An operation that leaves memory as it is. -/
theorem ok_pure (u : Value) (hans : ans.getD i (.val undef) = .val u) (hrun : ∀ (ρ : Operand → Value) (v : World), Reads dl ans t0 o W ρ v → (execOp ρ o).run P v = .ok (.value u) v) : StepOK P Q W t0 dl ans i o := by
  intro a v hb h1 h2
  unfold Oper.wp
  rw [hrun a.eval v (reads hb h1 h2)]
  exact ⟨u, rfl, by rw [hans]; rfl, Below.refl _ _⟩
/-- A row of integers is built. -/
theorem ok_build (n : Nat) (xs : List Int) (t : TypeId) (hans : ans.getD i (.val undef) = .row n xs) (hrd : ∀ v : World, Rd (v.alloc (.cells ((xs.map (Value.int .i64)).toArray) t)) (some ⟨v.heap.size, 0, none⟩) .i64 xs)
    (hrun : ∀ (ρ : Operand → Value) (v : World), Reads dl ans t0 o W ρ v → (execOp ρ o).run P v = .ok (.value (.slice (some ⟨v.heap.size, 0, none⟩) n n)) (v.alloc (.cells ((xs.map (Value.int .i64)).toArray) t))) : StepOK P Q W t0 dl ans i o := by
  intro a v hb h1 h2
  unfold Oper.wp
  rw [hrun a.eval v (reads hb h1 h2)]
  exact ⟨_, rfl, by rw [hans]; exact ⟨v.heap.size, rfl, hrd v⟩, (Below.refl _ _).alloc (Nat.le_refl _) _⟩
/-- A call, by its contract. -/
theorem ok_call (f : Nat) (u : Value) (hans : ans.getD i (.val undef) = .val u) (hrun : ∀ (ρ : Operand → Value) (v : World), Reads dl ans t0 o W ρ v → ∃ args, (execOp ρ o).run P v = .ok (.enter f args) v ∧ Calls P f args v fun e w' => e = .returned u ∧ Below v.heap.size v w') : StepOK P Q W t0 dl ans i o := by
  intro a v hb h1 h2
  obtain ⟨args, h3, h4⟩ := hrun a.eval v (reads hb h1 h2)
  unfold Oper.wp
  rw [h3]
  refine h4.mono ?_
  rintro e w' ⟨rfl, hb'⟩
  exact ⟨u, rfl, by rw [hans]; rfl, hb'⟩
end
end Go.Proofs.YtcdfckjlmifjiaaGreat
/-
  estimate.Size, Mul; ore.size.
-/
namespace Go.Proofs.YtcdfckjlmifjiaaGreat
open Go.RowKit
set_option linter.unusedVariables false
set_option linter.unusedSimpArgs false

set_option maxHeartbeats 1000000 in
set_option maxRecDepth 100000 in
/-- estimate.Size. -/
theorem eSize_any (w : World) (r d k : Int) :
    Calls Tryz.prog 43 #[.int .i64 r, .int .i64 d, .int .i64 k] w fun e w' => e = .returned (.agg #[.int .i64 (max r 0), .int .i64 (max d 0), .int .i64 k]) ∧ Below w.heap.size w w' := by
  obtain ⟨R, hR⟩ : ∃ R, max r 0 = R := ⟨_, rfl⟩
  obtain ⟨D, hD⟩ : ∃ D, max d 0 = D := ⟨_, rfl⟩
  rw [hR, hD]
  have HR : Hid (max r 0 = R ∧ max d 0 = D) := ⟨hR, hD⟩
  go_enter Tryz.func43, Tryz.ntmps43
  go_wp2_with fail
  all_goals
    refine bodyPost_ret (v := .agg #[.int .i64 R, .int .i64 D, .int .i64 k]) ?_ rfl ⟨rfl, (Below.refl _ _).alloc (Nat.le_refl _) _⟩
    obtain ⟨h1, h2⟩ := HR.out
    simp [results, Tryz.results43, go_sem]
    try omega
theorem rd_lit (w : World) (xs : List Int) (t : TypeId) : Rd (w.alloc (.cells ((xs.map (Value.int .i64)).toArray) t)) (some ⟨w.heap.size, 0, none⟩) .i64 xs := fun _ => ⟨w.heap.size, 0, rfl, fun j hj => by
  simp only [World.cell?, heap_alloc_new, Nat.zero_add]
  simp [gx, hj]⟩
theorem sum_lit {w : World} {b : Nat} (xs : List Int) (n : Nat) (hl : xs.length = n) (hn : n ≤ 100) (h : Rd w (some ⟨b, 0, none⟩) .i64 xs) (hx : ∀ x ∈ xs, InI x) :
    Calls Tryz.prog 53 #[.slice (some ⟨b, 0, none⟩) n n] w fun e w' => e = .returned (.int .i64 (sms xs)) ∧ Below w.heap.size w w' :=
  eSum_any hl h (by omega) fun j hj => by
    rw [gx_mem xs j (by omega)]
    exact hx _ (List.getElem_mem _)
theorem prod_lit {w : World} {b : Nat} (xs : List Int) (n : Nat) (hl : xs.length = n) (hn : n ≤ 100) (h : Rd w (some ⟨b, 0, none⟩) .i64 xs) (hx : ∀ x ∈ xs, InI x) :
    Calls Tryz.prog 54 #[.slice (some ⟨b, 0, none⟩) n n] w fun e w' => e = .returned (.int .i64 (pms xs)) ∧ Below w.heap.size w w' :=
  eProduct_any hl h (by omega) fun j hj => by
    rw [gx_mem xs j (by omega)]
    exact hx _ (List.getElem_mem _)
theorem times_lit {w : World} {b : Nat} (xs : List Int) (n : Nat) (hl : xs.length = n) (hn : n ≤ 100) (h : Rd w (some ⟨b, 0, none⟩) .i64 xs) (hx : ∀ x ∈ xs, InI x) :
    Calls Tryz.prog 49 #[.slice (some ⟨b, 0, none⟩) n n] w fun e w' => e = .returned (.int .i64 (tms xs)) ∧ Below w.heap.size w w' :=
  eTimes_any hl h (by omega) fun j hj => by
    rw [gx_mem xs j (by omega)]
    exact (hx _ (List.getElem_mem _)).2
theorem inI_lit {x : Int} (h : (decide (0 ≤ x) && decide (x ≤ 9223372036854775807)) = true) : InI x := by
  simp only [Bool.and_eq_true, decide_eq_true_eq] at h
  exact h
theorem sms_in {xs : List Int} (h : ∀ x ∈ xs, InI x) : InI (sms xs) := by
  have := fold_inv smf InT InI smf_bd xs 0 ⟨by decide, by decide⟩ h
  exact ⟨this.1, by have := this.2; unfold sms; omega⟩
theorem pms_in {xs : List Int} (h : ∀ x ∈ xs, InI x) : InI (pms xs) := by
  have := fold_inv pmf InT InI pmf_bd xs 1 ⟨by decide, by decide⟩ h
  exact ⟨this.1, by have := this.2; unfold pms; omega⟩
theorem tms_in {xs : List Int} (h : ∀ x ∈ xs, InI x) : InI (tms xs) := by
  have := tms_bd xs 1 (by decide) (by decide)
  unfold tms
  exact ⟨by omega, by omega⟩
end Go.Proofs.YtcdfckjlmifjiaaGreat
/-
  Rows of slices that grow by append, whatever the slices hold.
-/
namespace Go.Proofs.YtcdfckjlmifjiaaGreat
open Go.RowKit
set_option linter.unusedVariables false
set_option linter.unusedSimpArgs false

/-- A slice's three words. -/
structure Hdr where
  p : Option Addr
  n : Nat
  c : Nat
instance : Inhabited Hdr := ⟨⟨none, 0, 0⟩⟩
def Hdr.val (h : Hdr) : Value := .slice h.p h.n h.c
def hdrOf : Value → Hdr
  | .slice p n c => ⟨p, n, c⟩
  | _ => default
def gh (hs : List Hdr) (j : Nat) : Hdr := hs.getD j default
/-- A row of slices, cell by cell. -/
def HL (w : World) (p : Option Addr) (hs : List Hdr) : Prop := 0 < hs.length → ∃ b o, p = some ⟨b, o, none⟩ ∧ ∀ j, j < hs.length → w.cell? ⟨b, o + j, none⟩ = some (gh hs j).val
theorem HL.below {w w' : World} {p : Option Addr} {hs : List Hdr} (h : HL w p hs) (hb : Below w.heap.size w w') : HL w' p hs := fun hp => by
  obtain ⟨b, o, e, hc⟩ := h hp
  refine ⟨b, o, e, fun j hj => ?_⟩
  have h1 := hc j hj
  rw [hb.cell (by
    rcases Nat.lt_or_ge b w.heap.size with h2 | h2
    · exact h2
    · simp [World.cell?, Array.getElem?_eq_none h2] at h1)]
  exact h1
theorem gh_append_left (a b : List Hdr) (i : Nat) (h : i < a.length) : gh (a ++ b) i = gh a i := by simp [gh, List.getElem?_append, h]
theorem gh_snoc (a : List Hdr) (e : Hdr) : gh (a ++ [e]) a.length = e := by simp [gh]
def gt {α : Type} [Inhabited α] (ts : List α) (j : Nat) : α := ts.getD j default
theorem gt_append_left {α : Type} [Inhabited α] (a b : List α) (i : Nat) (h : i < a.length) : gt (a ++ b) i = gt a i := by simp [gt, List.getElem?_append, h]
theorem gt_snoc {α : Type} [Inhabited α] (a : List α) (e : α) : gt (a ++ [e]) a.length = e := by simp [gt]
/-- What is said of an element, whose memory lies from B to T, lasts while that memory does. -/
structure LastsH {α : Type} (E : World → Nat → Nat → α → Hdr → Prop) : Prop where
  grown : ∀ {w w' : World} {B T : Nat} {z : α} {h : Hdr} {row : Option Nat}, E w B T z h → T ≤ w.heap.size → w.grownBy w' row → (∀ r, row = some r → r < B ∨ T ≤ r) → E w' B T z h
  wide : ∀ {w : World} {B T B' T' : Nat} {z : α} {h : Hdr}, E w B T z h → B' ≤ B → T ≤ T' → E w B' T' z h
theorem LastsH.below {α : Type} {E : World → Nat → Nat → α → Hdr → Prop} (L : LastsH E) {w w' : World} {B T : Nat} {z : α} {h : Hdr} (he : E w B T z h) (hT : T ≤ w.heap.size) (hb : Below w.heap.size w w') : E w' B T z h :=
  L.grown he hT (grownBy_below hb none) nofun
/-- A row of slices that is handed on. -/
structure HRow {α : Type} [Inhabited α] (D : Nat) (E : World → Nat → Nat → α → Hdr → Prop) (w : World) (B T : Nat) (ts : List α) (h : Hdr) (hs : List Hdr) : Prop where
  el : hs.length = h.n
  tl : ts.length = h.n
  cap : h.n ≤ h.c
  bnd : h.c ≤ maxLen
  pn : h.p = none → h.c = 0
  few : h.n ≤ D
  hl : HL w h.p hs
  at_ : ∀ a, h.p = some a → 0 < h.n → B ≤ a.block ∧ a.block < T
  ev : ∀ j, j < h.n → E w B T (gt ts j) (gh hs j)
def HR {α : Type} [Inhabited α] (D : Nat) (E : World → Nat → Nat → α → Hdr → Prop) (w : World) (B T : Nat) (ts : List α) (h : Hdr) : Prop := ∃ hs, HRow D E w B T ts h hs
theorem HL.same {w w' : World} {p : Option Addr} {hs : List Hdr} (h : HL w p hs) (hk : ∀ a, p = some a → 0 < hs.length → a.block < w.heap.size → w'.heap[a.block]? = w.heap[a.block]?) : HL w' p hs := fun hp => by
  obtain ⟨b, o, e, hc⟩ := h hp
  have hlt : b < w.heap.size := block_lt_of_cell (hc 0 hp)
  exact ⟨b, o, e, fun j hj => (World.cell?_of_block (a := ⟨b, o + j, none⟩) (hk ⟨b, o, none⟩ e hp hlt)).trans (hc j hj)⟩
theorem lasts_HR {α : Type} [Inhabited α] {D : Nat} {E : World → Nat → Nat → α → Hdr → Prop} (L : LastsH E) : LastsH (HR D E) := ⟨fun {w w' B T z h row} he hT hg hr => by
    obtain ⟨hs, k⟩ := he
    refine ⟨hs, k.el, k.tl, k.cap, k.bnd, k.pn, k.few, k.hl.same fun a ha hn hlt => hg.block a.block hlt fun e => ?_, k.at_, fun j hj => L.grown (k.ev j hj) hT hg hr⟩
    have h1 := k.at_ a ha (by rw [← k.el]; exact hn)
    have h2 := hr a.block e.symm
    omega, fun {w B T B' T' z h} he hB hT => by
    obtain ⟨hs, k⟩ := he
    exact ⟨hs, k.el, k.tl, k.cap, k.bnd, k.pn, k.few, k.hl, fun a ha hn => by have := k.at_ a ha hn; omega, fun j hj => L.wide (k.ev j hj) hB hT⟩⟩
/-- A row of slices that grows. -/
structure LH {α : Type} [Inhabited α] (base : Nat) (t : TypeId) (E : World → Nat → Nat → α → Hdr → Prop) (w : World) (v : Value) (hs : List Hdr) (ts : List α) : Prop where
  own : w.ownsRow base t 1 v hs.length (hs.map Hdr.val)
  tl : ts.length = hs.length
  ev : ∀ j, j < hs.length → ∃ B T, base ≤ B ∧ T ≤ w.heap.size ∧ E w B T (gt ts j) (gh hs j) ∧ ∀ r, v.ownBlock = some r → r < B ∨ T ≤ r
section
variable {α : Type} [Inhabited α] {base : Nat} {t : TypeId} {E : World → Nat → Nat → α → Hdr → Prop}
theorem LH.nil (base : Nat) (t : TypeId) (E : World → Nat → Nat → α → Hdr → Prop) (w : World) : LH base t E w (.slice none 0 0) [] [] := ⟨World.ownsRow_nil _ _ _ _, rfl, fun j hj => by simp at hj⟩
theorem LH.below (L : LastsH E) {w w' : World} {v : Value} {hs : List Hdr} {ts : List α} (h : LH base t E w v hs ts) (hb : Below w.heap.size w w') : LH base t E w' v hs ts :=
  ⟨own_below h.own hb, h.tl, fun j hj => by
    obtain ⟨B, T, h1, h2, h3, h4⟩ := h.ev j hj
    exact ⟨B, T, h1, Nat.le_trans h2 hb.size, L.below h3 h2 hb, h4⟩⟩
theorem LH.app (L : LastsH E) {wr w1 w3 : World} {v : Value} {hs : List Hdr} {ts : List α} {z : α} {h : Hdr} {o : Obj} {g cap k B T : Nat} (hk : hs.length = k) (H : LH base t E wr v hs ts) (hb1 : Below wr.heap.size wr w1) (hE : E w1 B T z h) (hB : wr.heap.size ≤ B) (hT : T ≤ w1.heap.size) (hbase : base ≤ wr.heap.size)
    (hown : w3.ownsRow base t 1 (.slice (some ⟨g, 0, none⟩) (k + 1) cap) (k + 1) (hs.map Hdr.val ++ [h.val])) (hgrow : (w1.alloc o).grownBy w3 v.ownBlock) (hat : v.ownBlock = some g ∨ g = (w1.alloc o).heap.size) :
    LH base t E w3 (.slice (some ⟨g, 0, none⟩) (k + 1) cap) (hs ++ [h]) (ts ++ [z]) := by
  subst hk
  have hal : Below w1.heap.size w1 (w1.alloc o) := (Below.refl _ _).alloc (Nat.le_refl _) o
  have hs1 := hb1.size
  have hs2 := hal.size
  have hs3 := hgrow.size
  have ob : ∀ r, (Value.slice (some ⟨g, 0, none⟩) (hs.length + 1) cap).ownBlock = some r → r = g := fun r hr => (Option.some.inj hr).symm
  refine ⟨by rw [List.length_append, List.map_append]; exact hown, by simp [H.tl], fun j hj => ?_⟩
  rcases Nat.lt_or_ge j hs.length with hlt | hge
  · rw [gh_append_left _ _ _ hlt, gt_append_left _ _ _ (by rw [H.tl]; exact hlt)]
    obtain ⟨B', T', h1, h2, h3, h4⟩ := H.ev j hlt
    have h5 := L.below (L.below h3 h2 hb1) (Nat.le_trans h2 hs1) hal
    refine ⟨B', T', h1, by omega, L.grown h5 (by omega) hgrow h4, fun r hr => ?_⟩
    obtain rfl := ob r hr
    rcases hat with h6 | h6
    · exact h4 _ h6
    · right; omega
  · have : j = hs.length := by simp at hj; omega
    subst this
    have e1 : gt (ts ++ [z]) hs.length = z := by rw [← H.tl]; exact gt_snoc ts z
    rw [gh_snoc, e1]
    have old : ∀ r, v.ownBlock = some r → r < B ∨ T ≤ r := fun r hr => by
      have := (H.own.lt r hr).2
      left; omega
    refine ⟨B, T, by omega, by omega, L.grown (L.below hE hT hal) (by omega) hgrow old, fun r hr => ?_⟩
    obtain rfl := ob r hr
    rcases hat with h6 | h6
    · exact old _ h6
    · right; omega
theorem owns1_form {w : World} {B n : Nat} {t : TypeId} {v : Value} {xs : List Value} (h : w.ownsRow B t 1 v n xs) : ∃ q cap, v = .slice q n cap ∧ n ≤ cap ∧ cap ≤ maxLen ∧ (q = none → cap = 0) ∧ ∀ a, q = some a → B ≤ a.block ∧ a.block < w.heap.size := by
  rcases h.2 with ⟨h1, h2⟩ | ⟨g, cap, cur, h1, h2, h3, h4, h5, _⟩
  · exact ⟨none, 0, by rw [h1, h2], by omega, Nat.zero_le _, fun _ => rfl, nofun⟩
  · exact ⟨_, cap, h1, h4, h5, nofun, fun a ha => by
      have h6 := h.lt g (by rw [h1]; rfl)
      cases ha
      exact ⟨h2, h6.2⟩⟩
theorem owns1_hl {w : World} {B cap : Nat} {t : TypeId} {q : Option Addr} {hs : List Hdr} (h : w.ownsRow B t 1 (.slice q hs.length cap) hs.length (hs.map Hdr.val)) : HL w q hs := fun hx => by
  obtain ⟨g, cap', h1, h2, _⟩ := h.form hx
  cases h1
  refine ⟨g, 0, rfl, fun j hj => ?_⟩
  have e0 := h.cells (g := g) rfl j (gh hs j).val (by simp [gh, hj])
  rw [Addr.add_mid] at e0
  exact e0
theorem LH.row (L : LastsH E) {w : World} {v : Value} {hs : List Hdr} {ts : List α} {D : Nat} (h : LH base t E w v hs ts) (hD : hs.length ≤ D) : ∃ q cap, v = .slice q hs.length cap ∧ HRow D E w base w.heap.size ts ⟨q, hs.length, cap⟩ hs := by
  obtain ⟨q, cap, h1, h2, h3, h4, h5⟩ := owns1_form h.own
  have ho := h.own
  rw [h1] at ho
  exact ⟨q, cap, h1, rfl, h.tl, h2, h3, h4, hD, owns1_hl ho, fun a ha _ => h5 a ha, fun j hj => by
    obtain ⟨B, T, k1, k2, k3, _⟩ := h.ev j hj
    exact L.wide k3 k1 k2⟩
end
/-- A polynomial among them. -/
def EZ (K D : Nat) (w : World) (B T : Nat) (zs : List Int) (h : Hdr) : Prop :=
  ∃ fs, PA w K h.p h.n h.c fs zs ∧ h.n ≤ D ∧ (∀ a, h.p = some a → 0 < h.n → B ≤ a.block ∧ a.block < T) ∧ ∀ j, j < h.n → 0 < (ge fs j).n → ∀ a, (ge fs j).p = some a → B ≤ a.block ∧ a.block < T
theorem lasts_EZ (K D : Nat) : LastsH (EZ K D) := ⟨fun {w w' B T z h row} he hT hg hr => by
    obtain ⟨fs, k, h1, h2, h3⟩ := he
    refine ⟨fs, ⟨k.el, k.zl, k.cap, k.bnd, k.pn, fun hx => (k.pl.same fun a ha hlt => hg.block a.block hlt fun e => ?_) hx, fun j hj => (lasts_EV K).grown (k.ev j hj) hg fun hn a ha e => ?_⟩, h1, h2, h3⟩
    · have h4 := h2 a ha (by rw [← k.el]; exact hx)
      have h5 := hr a.block e.symm
      omega
    · have h4 := h3 j hj hn a ha
      have h5 := hr a.block e.symm
      omega, fun {w B T B' T' z h} he hB hT => by
    obtain ⟨fs, k, h1, h2, h3⟩ := he
    exact ⟨fs, k, h1, fun a ha hn => by have := h2 a ha hn; omega, fun j hj hn a ha => by have := h3 j hj hn a ha; omega⟩⟩
end Go.Proofs.YtcdfckjlmifjiaaGreat
