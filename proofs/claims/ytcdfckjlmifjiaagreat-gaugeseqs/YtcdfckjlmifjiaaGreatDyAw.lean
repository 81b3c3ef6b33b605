/-
  A region by what each of its operations answers, in whatever order they come up.
-/
import Derived.Test.YtcdfckjlmifjiaaGreatRoUcVbDaVcDuOi
import Derived.Test.YtcdfckjlmifjiaaGreatPlMmKpOr
import Derived.Test.YtcdfckjlmifjiaaGreatAvWa
import Derived.Test.YtcdfckjlmifjiaaGreatNiUaOwPnWk
import Derived.Deep.DeepFit
import Derived.Deep.DeepCutAuto
import Derived.Deep.RegionHeld3
namespace Go.Proofs.YtcdfckjlmifjiaaGreat
open Go.RowKit
set_option linter.unusedVariables false
set_option linter.unusedSimpArgs false

/-- What the slots hold: of each listed operation its value. -/
def lay (listed : Array Bool) (vals : Nat → Value) : List (Nat × Nat) → Array Value → Array Value
  | [], t => t
  | (i, d) :: l, t => lay listed vals l (if listed.getD i false = true then t.setIfInBounds d (vals i) else t)
theorem lay_comm (listed : Array Bool) (vals : Nat → Value) (d : Nat) (v : Value) : ∀ (l : List (Nat × Nat)) (t : Array Value), d ∉ l.map Prod.snd → lay listed vals l (t.setIfInBounds d v) = (lay listed vals l t).setIfInBounds d v
  | [], t, _ => rfl
  | (i, e) :: l, t, h => by
    simp only [List.map_cons, List.mem_cons, not_or] at h
    rw [lay, lay]
    split
    · rw [← lay_comm listed vals d v l _ h.2, Array.setIfInBounds_comm _ _ h.1]
    · exact lay_comm listed vals d v l t h.2
theorem lay_other (listed : Array Bool) (vals : Nat → Value) (s : Nat) : ∀ (l : List (Nat × Nat)) (t : Array Value), s ∉ l.map Prod.snd → (lay listed vals l t).getD s undef = t.getD s undef
  | [], t, _ => rfl
  | (i, e) :: l, t, h => by
    simp only [List.map_cons, List.mem_cons, not_or] at h
    rw [lay, lay_other listed vals s l _ h.2]
    split
    · simp [Array.getElem?_setIfInBounds, Ne.symm h.1]
    · rfl
theorem lay_size (listed : Array Bool) (vals : Nat → Value) : ∀ (l : List (Nat × Nat)) (t : Array Value), (lay listed vals l t).size = t.size
  | [], t => rfl
  | (i, e) :: l, t => by
    rw [lay, lay_size listed vals l]
    split <;> simp
theorem lay_at (listed : Array Bool) (vals : Nat → Value) (i d : Nat) (hi : listed.getD i false = true) : ∀ (l : List (Nat × Nat)) (t : Array Value), (l.map Prod.snd).Nodup → (i, d) ∈ l → d < t.size → (lay listed vals l t).getD d undef = vals i
  | [], t, _, h, _ => by cases h
  | (j, e) :: l, t, hn, h, hd => by
    simp only [List.map_cons, List.nodup_cons] at hn
    rw [lay]
    rcases List.mem_cons.1 h with h1 | h1
    · cases h1
      rw [if_pos hi, lay_other listed vals d l _ hn.1]
      simp [hd]
    · refine lay_at listed vals i d hi l _ hn.2 h1 ?_
      split <;> simpa using hd
theorem lay_same (listed : Array Bool) (vals : Nat → Value) (j : Nat) (v : Value) : ∀ (l : List (Nat × Nat)) (t : Array Value), j ∉ l.map Prod.fst → lay (listed.setIfInBounds j true) (fun i => if i = j then v else vals i) l t = lay listed vals l t
  | [], t, _ => rfl
  | (i, e) :: l, t, h => by
    simp only [List.map_cons, List.mem_cons, not_or] at h
    have h1 : (listed.setIfInBounds j true).getD i false = listed.getD i false := by simp [Array.getElem?_setIfInBounds, h.1]
    rw [lay, lay, h1, if_neg (Ne.symm h.1), lay_same listed vals j v l _ h.2]
theorem lay_put (listed : Array Bool) (vals : Nat → Value) (j d : Nat) (v : Value) (hj : listed.getD j true = false) : ∀ (l : List (Nat × Nat)) (t : Array Value), (l.map Prod.fst).Nodup → (l.map Prod.snd).Nodup → (j, d) ∈ l → lay (listed.setIfInBounds j true) (fun i => if i = j then v else vals i) l t = (lay listed vals l t).setIfInBounds d v
  | [], t, _, _, h => by cases h
  | (i, e) :: l, t, hf, hs, h => by
    simp only [List.map_cons, List.nodup_cons] at hf hs
    have hlt : j < listed.size := by
      rcases Nat.lt_or_ge j listed.size with h' | h'
      · exact h'
      · simp [Array.getElem?_eq_none h'] at hj
    have hj' : listed.getD j false = false := by simpa [hlt] using hj
    have hnew : (listed.setIfInBounds j true).getD j false = true := by simp [hlt]
    rw [lay, lay]
    rcases List.mem_cons.1 h with h1 | h1
    · cases h1
      rw [if_pos hnew, if_pos rfl, hj', if_neg (by decide), lay_same listed vals j v l _ hf.1, lay_comm listed vals d v l t hs.1]
    · have hij : i ≠ j := fun e' => hf.1 (by rw [e']; exact List.mem_map.2 ⟨(j, d), h1, rfl⟩)
      have h2 : (listed.setIfInBounds j true).getD i false = listed.getD i false := by simp [Array.getElem?_setIfInBounds, Ne.symm hij]
      rw [h2, if_neg hij]
      exact lay_put listed vals j d v hj l _ hf.2 hs.2 h1
section
variable {P : Program} {ops : Array Oper} {Q : Exit → Act → World → Prop}
/-- A region by what each of its operations answers. -/
theorem region_decl {id : Nat} {a0 : Act} {W : World} (hm : P.follows .mixedOrders = true) (ha : ahead ops = true) (dl : List (Nat × Nat)) (V : Nat → Value → World → Prop)
    (hV : ∀ (i : Nat) (v : Value) (w w' : World), V i v w → Below w.heap.size w w' → V i v w')
    (hop : ∀ (i : Nat) (o : Oper), ops[i]? = some o → o.guard = none ∧ ∃ d, o.dst = some d ∧ (i, d) ∈ dl) (hf : (dl.map Prod.fst).Nodup) (hs : (dl.map Prod.snd).Nodup) (hz : ∀ x ∈ dl, x.2 < a0.tmps.size ∧ x.1 < ops.size)
    (hstep : ∀ (i : Nat) (o : Oper), ops[i]? = some o → ∀ (a : Act) (w : World), Below W.heap.size W w → (∀ j d, (j, d) ∈ dl → (∃ e ∈ o.after, e.on = j ∧ Region.binds .any e = true) → V j (a.tmps.getD d undef) w) → (∀ s, s ∉ dl.map Prod.snd → a.tmps.getD s undef = a0.tmps.getD s undef) → o.wp P a w (fun a' w' => ∃ v, a' = a.put o.dst v ∧ V i v w' ∧ Below w.heap.size w w') Q)
    (hend : ∀ (vals : Nat → Value) (w : World), Below W.heap.size W w → (∀ x ∈ dl, V x.1 (vals x.1) w) → Q .normal ⟨dl.foldl (fun t x => t.setIfInBounds x.2 (vals x.1)) a0.tmps, a0.defers⟩ w) : (Code.region id ops true).wp P Q a0 W := by
  have hall : ∀ (listed : Array Bool) (vals : Nat → Value) (l : List (Nat × Nat)) (t : Array Value), (∀ x ∈ l, listed.getD x.1 false = true) → lay listed vals l t = l.foldl (fun t x => t.setIfInBounds x.2 (vals x.1)) t := by
    intro listed vals l
    induction l with
    | nil => intro t _; rfl
    | cons x l ih =>
      intro t h
      obtain ⟨i, d⟩ := x
      rw [lay, if_pos (h (i, d) (by simp)), ih _ fun y hy => h y (by simp [hy])]
      rfl
  refine region_inv hm (fun listed a w => listed.size = ops.size ∧ Below W.heap.size W w ∧ ∃ vals, a = ⟨lay listed vals dl a0.tmps, a0.defers⟩ ∧ ∀ x ∈ dl, listed.getD x.1 false = true → V x.1 (vals x.1) w) ha ?_ ?_ ?_
  · rintro listed a w ⟨h1, h2, vals, rfl, h4⟩ hl
    have h5 : ∀ x ∈ dl, listed.getD x.1 false = true := fun x hx => by
      have h6 := hl x.1 (hz x hx).2
      have h7 : x.1 < listed.size := by rw [h1]; exact (hz x hx).2
      simpa [h7] using h6
    rw [hall listed vals dl _ h5]
    exact hend vals w h2 fun x hx => h4 x hx (h5 x hx)
  · rintro listed a w ⟨h1, h2, vals, rfl, h4⟩ i o ho hi hdep
    obtain ⟨hg, d, hd, hmem⟩ := hop i o ho
    have hst := hstep i o ho ⟨lay listed vals dl a0.tmps, a0.defers⟩ w h2 (fun j e hje ⟨x, hx, hxj, hb⟩ => by
      have hlj : listed.getD j false = true := by rw [← hxj]; exact hdep x hx hb
      rw [show (lay listed vals dl a0.tmps).getD e undef = vals j from lay_at listed vals j e hlj dl _ hs hje (hz (j, e) hje).1]
      exact h4 (j, e) hje hlj) (fun s hs' => lay_other listed vals s dl _ hs')
    unfold wpOp
    simp only [ho]
    have hw : Region.wanted o (yielded ops (lay listed vals dl a0.tmps)) = true := by simp [Region.wanted, hg]
    rw [if_pos hw]
    refine .inl (Oper.wp_mono (fun a' w' hh => ?_) hst)
    obtain ⟨v, rfl, hv, hb⟩ := hh
    refine ⟨by simpa using h1, h2.trans (hb.mono h2.size), fun k => if k = i then v else vals k, ?_, fun x hx hl => ?_⟩
    · rw [lay_put listed vals i d v hi dl _ hf hs hmem, hd]
      rfl
    · by_cases hxi : x.1 = i
      · show V x.1 (if x.1 = i then v else vals x.1) w'
        rw [if_pos hxi, hxi]
        exact hv
      · show V x.1 (if x.1 = i then v else vals x.1) w'
        rw [if_neg hxi]
        have hl' : listed.getD x.1 false = true := by
          simpa [Array.getElem?_setIfInBounds, Ne.symm hxi] using hl
        exact hV _ _ _ _ (h4 x hx hl') hb
  · refine ⟨by simp, ⟨rfl, rfl, rfl, Nat.le_refl _, fun _ _ => rfl⟩, fun _ => undef, ?_, fun x hx hl => ?_⟩
    · have hnone : ∀ (l : List (Nat × Nat)) (t : Array Value), lay (Array.replicate ops.size false) (fun _ => undef) l t = t := by
        intro l
        induction l with
        | nil => intro t; rfl
        | cons x l ih =>
          intro t
          obtain ⟨i, e⟩ := x
          rw [lay, if_neg (by simp [Array.getElem?_replicate]; split <;> simp), ih]
      rw [hnone]
    · exfalso
      simp [Array.getElem?_replicate] at hl
      split at hl <;> simp at hl
end
/-- What an operation answers: a value, or a new row of integers. -/
inductive Ans where
  | val (v : Value)
  | row (n : Nat) (xs : List Int)
def Ans.is : Ans → Value → World → Prop
  | .val v0, v, _ => v = v0
  | .row n xs, v, w => ∃ b, v = .slice (some ⟨b, 0, none⟩) n n ∧ Rd w (some ⟨b, 0, none⟩) .i64 xs
theorem Ans.later {a : Ans} {v : Value} {w w' : World} (h : a.is v w) (hb : Below w.heap.size w w') : a.is v w' := by
  cases a with
  | val v0 => exact h
  | row n xs =>
    obtain ⟨b, h1, h2⟩ := h
    exact ⟨b, h1, h2.below hb⟩
def allOps (S : Nat → Oper → Prop) : Nat → List Oper → Prop
  | _, [] => True
  | i, o :: l => S i o ∧ allOps S (i + 1) l
theorem allOps_at {S : Nat → Oper → Prop} : ∀ (l : List Oper) (k : Nat), allOps S k l → ∀ i o, l[i]? = some o → S (k + i) o
  | [], _, _, i, o, h => by simp at h
  | x :: l, k, h, 0, o, ho => by
    simp only [List.getElem?_cons_zero, Option.some.injEq] at ho
    subst ho
    exact h.1
  | x :: l, k, h, i + 1, o, ho => by
    have := allOps_at l (k + 1) h.2 i o (by simpa using ho)
    rwa [show k + 1 + i = k + (i + 1) by omega] at this
def opsFit (ops : Array Oper) (dl : List (Nat × Nat)) : Bool := (List.range ops.size).all fun i => match ops[i]? with
  | some o => o.guard.isNone && (match o.dst with | some d => dl.contains (i, d) | none => false)
  | none => false
theorem opsFit_at {ops : Array Oper} {dl : List (Nat × Nat)} (h : opsFit ops dl = true) (i : Nat) (o : Oper) (ho : ops[i]? = some o) : o.guard = none ∧ ∃ d, o.dst = some d ∧ (i, d) ∈ dl := by
  have hi : i < ops.size := (Array.getElem?_eq_some_iff.1 ho).1
  have h1 := List.all_eq_true.1 h i (List.mem_range.2 hi)
  simp only [ho, Bool.and_eq_true, Option.isNone_iff_eq_none] at h1
  refine ⟨h1.1, ?_⟩
  cases hd : o.dst with
  | none => simp [hd] at h1
  | some d => exact ⟨d, rfl, by simpa [hd] using h1.2⟩
/-- What a step of such a region must show. -/
def StepOK (P : Program) (Q : Exit → Act → World → Prop) (W : World) (t0 : Array Value) (dl : List (Nat × Nat)) (ans : List Ans) (i : Nat) (o : Oper) : Prop :=
  ∀ (a : Act) (w : World), Below W.heap.size W w → (∀ j d, (j, d) ∈ dl → (o.after.toList.any fun e => e.on == j && Region.binds .any e) = true → (ans.getD j (.val undef)).is (a.eval (.tmp d)) w) → (∀ s, s ∉ dl.map Prod.snd → a.eval (.tmp s) = t0.getD s undef) → o.wp P a w (fun a' w' => ∃ v, a' = a.put o.dst v ∧ (ans.getD i (.val undef)).is v w' ∧ Below w.heap.size w w') Q
/-- A region of reads, rows of integers and calls, in whatever order. -/
theorem region_ints {P : Program} {ops : Array Oper} {Q : Exit → Act → World → Prop} {id : Nat} {a0 : Act} {W : World} (dl : List (Nat × Nat)) (ans : List Ans) (hm : P.follows .mixedOrders = true) (ha : ahead ops = true) (hop : opsFit ops dl = true) (hf : (dl.map Prod.fst).Nodup) (hs : (dl.map Prod.snd).Nodup) (hz : (dl.all fun x => decide (x.2 < a0.tmps.size) && decide (x.1 < ops.size)) = true)
    (hstep : allOps (StepOK P Q W a0.tmps dl ans) 0 ops.toList)
    (hend : ∀ (vals : Nat → Value) (w : World), Below W.heap.size W w → (∀ x ∈ dl, (ans.getD x.1 (.val undef)).is (vals x.1) w) → Q .normal ⟨dl.foldl (fun t x => t.setIfInBounds x.2 (vals x.1)) a0.tmps, a0.defers⟩ w) : (Code.region id ops true).wp P Q a0 W := by
  refine region_decl hm ha dl (fun i => (ans.getD i (.val undef)).is) (fun i v w w' h hb => Ans.later (a := ans.getD i (.val undef)) h hb) (fun i o ho => opsFit_at hop i o ho) hf hs (fun x hx => by simpa using List.all_eq_true.1 hz x hx) (fun i o ho a w hb h1 h2 => ?_) hend
  have h3 := allOps_at _ 0 hstep i o (by simpa using ho)
  rw [Nat.zero_add] at h3
  refine h3 a w hb (fun j d hj he => h1 j d hj ?_) h2
  obtain ⟨k, hk, he⟩ := List.any_eq_true.1 he
  simp only [Bool.and_eq_true, beq_iff_eq] at he
  exact ⟨k, by simpa using hk, he.1, he.2⟩
section
variable {P : Program} {Q : Exit → Act → World → Prop} {W : World} {t0 : Array Value} {dl : List (Nat × Nat)} {ans : List Ans} {i : Nat} {o : Oper}
/-- What an operation may read: answers that are values, and what lay in other slots. -/
structure Reads (dl : List (Nat × Nat)) (ans : List Ans) (t0 : Array Value) (o : Oper) (W : World) (ρ : Operand → Value) (v : World) : Prop where
  b : Below W.heap.size W v
  dep : ∀ j d u, (j, d) ∈ dl → (o.after.toList.any fun e => e.on == j && Region.binds .any e) = true → ans.getD j (.val undef) = .val u → ρ (.tmp d) = u
  row : ∀ j d n xs, (j, d) ∈ dl → (o.after.toList.any fun e => e.on == j && Region.binds .any e) = true → ans.getD j (.val undef) = .row n xs → ∃ b, ρ (.tmp d) = .slice (some ⟨b, 0, none⟩) n n ∧ Rd v (some ⟨b, 0, none⟩) .i64 xs
  old : ∀ s, s ∉ dl.map Prod.snd → ρ (.tmp s) = t0.getD s undef
  con : ∀ u, ρ (.const u) = u
  fn : ∀ f, ρ (.func f) = .func (.func f) #[] #[]
theorem reads {a : Act} {v : World} (hb : Below W.heap.size W v) (h1 : ∀ j d, (j, d) ∈ dl → (o.after.toList.any fun e => e.on == j && Region.binds .any e) = true → (ans.getD j (.val undef)).is (a.eval (.tmp d)) v) (h2 : ∀ s, s ∉ dl.map Prod.snd → a.eval (.tmp s) = t0.getD s undef) : Reads dl ans t0 o W a.eval v :=
  ⟨hb, fun j d u hj he hu => by have := h1 j d hj he; rw [hu] at this; exact this, fun j d n xs hj he hu => by have := h1 j d hj he; rw [hu] at this; exact this, h2, fun _ => rfl, fun _ => rfl⟩
/-- An operation that leaves memory as it is. -/
theorem ok_pure (u : Value) (hans : ans.getD i (.val undef) = .val u) (hrun : ∀ (ρ : Operand → Value) (v : World), Reads dl ans t0 o W ρ v → (execOp ρ o).run P v = .ok (.value u) v) : StepOK P Q W t0 dl ans i o := by
  intro a v hb h1 h2
  unfold Oper.wp
  rw [hrun a.eval v (reads hb h1 h2)]
  exact ⟨u, rfl, by rw [hans]; rfl, Below.refl _ _⟩
/-- A row of integers is built. -/
theorem ok_build (n : Nat) (xs : List Int) (t : TypeId) (hans : ans.getD i (.val undef) = .row n xs) (hrd : ∀ v : World, Rd (v.alloc (.cells ((xs.map (Value.int .i64)).toArray) t)) (some ⟨v.heap.size, 0, none⟩) .i64 xs)
    (hrun : ∀ (ρ : Operand → Value) (v : World), Reads dl ans t0 o W ρ v → (execOp ρ o).run P v = .ok (.value (.slice (some ⟨v.heap.size, 0, none⟩) n n)) (v.alloc (.cells ((xs.map (Value.int .i64)).toArray) t))) : StepOK P Q W t0 dl ans i o := by
  intro a v hb h1 h2
  unfold Oper.wp
  rw [hrun a.eval v (reads hb h1 h2)]
  exact ⟨_, rfl, by rw [hans]; exact ⟨v.heap.size, rfl, hrd v⟩, (Below.refl _ _).alloc (Nat.le_refl _) _⟩
/-- A call, by its contract. -/
theorem ok_call (f : Nat) (u : Value) (hans : ans.getD i (.val undef) = .val u) (hrun : ∀ (ρ : Operand → Value) (v : World), Reads dl ans t0 o W ρ v → ∃ args, (execOp ρ o).run P v = .ok (.enter f args) v ∧ Calls P f args v fun e w' => e = .returned u ∧ Below v.heap.size v w') : StepOK P Q W t0 dl ans i o := by
  intro a v hb h1 h2
  obtain ⟨args, h3, h4⟩ := hrun a.eval v (reads hb h1 h2)
  unfold Oper.wp
  rw [h3]
  refine h4.mono ?_
  rintro e w' ⟨rfl, hb'⟩
  exact ⟨u, rfl, by rw [hans]; rfl, hb'⟩
end
end Go.Proofs.YtcdfckjlmifjiaaGreat
/-
  estimate.Size, Mul; ore.size.
-/
namespace Go.Proofs.YtcdfckjlmifjiaaGreat
open Go.RowKit
set_option linter.unusedVariables false
set_option linter.unusedSimpArgs false

set_option maxHeartbeats 1000000 in
set_option maxRecDepth 100000 in
/-- estimate.Size. -/
theorem eSize_any (w : World) (r d k : Int) :
    Calls Tryz.prog 43 #[.int .i64 r, .int .i64 d, .int .i64 k] w fun e w' => e = .returned (.agg #[.int .i64 (max r 0), .int .i64 (max d 0), .int .i64 k]) ∧ Below w.heap.size w w' := by
  obtain ⟨R, hR⟩ : ∃ R, max r 0 = R := ⟨_, rfl⟩
  obtain ⟨D, hD⟩ : ∃ D, max d 0 = D := ⟨_, rfl⟩
  rw [hR, hD]
  have HR : Hid (max r 0 = R ∧ max d 0 = D) := ⟨hR, hD⟩
  go_enter Tryz.func43, Tryz.ntmps43
  go_wp2_with fail
  all_goals
    refine bodyPost_ret (v := .agg #[.int .i64 R, .int .i64 D, .int .i64 k]) ?_ rfl ⟨rfl, (Below.refl _ _).alloc (Nat.le_refl _) _⟩
    obtain ⟨h1, h2⟩ := HR.out
    simp [results, Tryz.results43, go_sem]
    try omega
theorem rd_lit (w : World) (xs : List Int) (t : TypeId) : Rd (w.alloc (.cells ((xs.map (Value.int .i64)).toArray) t)) (some ⟨w.heap.size, 0, none⟩) .i64 xs := fun _ => ⟨w.heap.size, 0, rfl, fun j hj => by
  simp only [World.cell?, heap_alloc_new, Nat.zero_add]
  simp [gx, hj]⟩
theorem sum_lit {w : World} {b : Nat} (xs : List Int) (n : Nat) (hl : xs.length = n) (hn : n ≤ 100) (h : Rd w (some ⟨b, 0, none⟩) .i64 xs) (hx : ∀ x ∈ xs, InI x) :
    Calls Tryz.prog 53 #[.slice (some ⟨b, 0, none⟩) n n] w fun e w' => e = .returned (.int .i64 (sms xs)) ∧ Below w.heap.size w w' :=
  eSum_any hl h (by omega) fun j hj => by
    rw [gx_mem xs j (by omega)]
    exact hx _ (List.getElem_mem _)
theorem prod_lit {w : World} {b : Nat} (xs : List Int) (n : Nat) (hl : xs.length = n) (hn : n ≤ 100) (h : Rd w (some ⟨b, 0, none⟩) .i64 xs) (hx : ∀ x ∈ xs, InI x) :
    Calls Tryz.prog 54 #[.slice (some ⟨b, 0, none⟩) n n] w fun e w' => e = .returned (.int .i64 (pms xs)) ∧ Below w.heap.size w w' :=
  eProduct_any hl h (by omega) fun j hj => by
    rw [gx_mem xs j (by omega)]
    exact hx _ (List.getElem_mem _)
theorem times_lit {w : World} {b : Nat} (xs : List Int) (n : Nat) (hl : xs.length = n) (hn : n ≤ 100) (h : Rd w (some ⟨b, 0, none⟩) .i64 xs) (hx : ∀ x ∈ xs, InI x) :
    Calls Tryz.prog 49 #[.slice (some ⟨b, 0, none⟩) n n] w fun e w' => e = .returned (.int .i64 (tms xs)) ∧ Below w.heap.size w w' :=
  eTimes_any hl h (by omega) fun j hj => by
    rw [gx_mem xs j (by omega)]
    exact (hx _ (List.getElem_mem _)).2
theorem inI_lit {x : Int} (h : (decide (0 ≤ x) && decide (x ≤ 9223372036854775807)) = true) : InI x := by
  simp only [Bool.and_eq_true, decide_eq_true_eq] at h
  exact h
theorem sms_in {xs : List Int} (h : ∀ x ∈ xs, InI x) : InI (sms xs) := by
  have := fold_inv smf InT InI smf_bd xs 0 ⟨by decide, by decide⟩ h
  exact ⟨this.1, by have := this.2; unfold sms; omega⟩
theorem pms_in {xs : List Int} (h : ∀ x ∈ xs, InI x) : InI (pms xs) := by
  have := fold_inv pmf InT InI pmf_bd xs 1 ⟨by decide, by decide⟩ h
  exact ⟨this.1, by have := this.2; unfold pms; omega⟩
theorem tms_in {xs : List Int} (h : ∀ x ∈ xs, InI x) : InI (tms xs) := by
  have := tms_bd xs 1 (by decide) (by decide)
  unfold tms
  exact ⟨by omega, by omega⟩
set_option maxHeartbeats 4000000 in
set_option maxRecDepth 100000 in
/-- estimate.Mul. -/
theorem eMul_any (w : World) (r d k s e l m : Int) (hr : InI r) (hd : InI d) (hk : InI k) (hs : InI s) (he : InI e) (hl : InI l) (hm : InI m) :
    Calls Tryz.prog 47 #[.agg #[.int .i64 r, .int .i64 d, .int .i64 k], .agg #[.int .i64 s, .int .i64 e, .int .i64 l], .int .i64 m] w fun x w' => x = .returned (.int .i64 (tms [sms [r, 1], sms [s, 1], sms [d, e, 2], sms [k, l, sms [pms [sms [r, 1], sms [e, 1]], pms [r, sms [e, 1], m]], 8]])) ∧ Below w.heap.size w w' := by
  have hW : Below w.heap.size w ((w.alloc (.cells #[.int .i64 r, .int .i64 d, .int .i64 k] 45)).alloc (.cells #[.int .i64 s, .int .i64 e, .int .i64 l] 45)) := ((Below.refl _ _).alloc (Nat.le_refl _) _).alloc (by simp) _
  have xa : ((w.alloc (.cells #[.int .i64 r, .int .i64 d, .int .i64 k] 45)).alloc (.cells #[.int .i64 s, .int .i64 e, .int .i64 l] 45)).cell? ⟨w.heap.size, 0, none⟩ = some (.int .i64 r) := by simp [go_sem]
  have xad : ((w.alloc (.cells #[.int .i64 r, .int .i64 d, .int .i64 k] 45)).alloc (.cells #[.int .i64 s, .int .i64 e, .int .i64 l] 45)).cell? ⟨w.heap.size, 1, none⟩ = some (.int .i64 d) := by simp [go_sem]
  have xak : ((w.alloc (.cells #[.int .i64 r, .int .i64 d, .int .i64 k] 45)).alloc (.cells #[.int .i64 s, .int .i64 e, .int .i64 l] 45)).cell? ⟨w.heap.size, 2, none⟩ = some (.int .i64 k) := by simp [go_sem]
  have xbs : ((w.alloc (.cells #[.int .i64 r, .int .i64 d, .int .i64 k] 45)).alloc (.cells #[.int .i64 s, .int .i64 e, .int .i64 l] 45)).cell? ⟨w.heap.size + 1, 0, none⟩ = some (.int .i64 s) := by simp [go_sem]
  have xbl : ((w.alloc (.cells #[.int .i64 r, .int .i64 d, .int .i64 k] 45)).alloc (.cells #[.int .i64 s, .int .i64 e, .int .i64 l] 45)).cell? ⟨w.heap.size + 1, 2, none⟩ = some (.int .i64 l) := by simp [go_sem]
  have xb : ((w.alloc (.cells #[.int .i64 r, .int .i64 d, .int .i64 k] 45)).alloc (.cells #[.int .i64 s, .int .i64 e, .int .i64 l] 45)).cell? ⟨w.heap.size + 1, 1, none⟩ = some (.int .i64 e) := by simp [go_sem]
  go_enter Tryz.func47, Tryz.ntmps47
  go_wp2_with fail
  generalize (w.alloc (.cells #[.int .i64 r, .int .i64 d, .int .i64 k] 45)).alloc (.cells #[.int .i64 s, .int .i64 e, .int .i64 l] 45) = W at *
  have h1 : ∀ x ∈ [r, 1], InI x := by simp [hr]; simp [InI]
  have h2 : ∀ x ∈ [e, 1], InI x := by simp [he]; simp [InI]
  have k1 := sms_in h1
  have k2 := sms_in h2
  refine region_ints [(0, 10), (1, 11), (2, 12), (3, 13), (4, 14), (5, 15), (6, 16), (7, 17), (8, 7), (9, 8)]
    [.val (.pointer (some ⟨w.heap.size, 0, none⟩)), .val (.int .i64 r), .row 2 [r, 1], .val (.int .i64 (sms [r, 1])), .val (.pointer (some ⟨w.heap.size + 1, 1, none⟩)), .val (.int .i64 e), .row 2 [e, 1], .val (.int .i64 (sms [e, 1])), .val (.int .i64 (sms [r, 1])), .val (.int .i64 (sms [e, 1]))]
    (by kernel_rfl) (by kernel_rfl) (by kernel_rfl) (by decide) (by decide) (by rfl) ?_ ?_
  · refine ⟨?_, ?_, ?_, ?_, ?_, ?_, ?_, ?_, ?_, ?_, trivial⟩
    · exact ok_pure _ rfl fun ρ v R => by simp [execOp, go_sem, R.old 3 (by decide)]
    · exact ok_pure _ rfl fun ρ v R => by have x := cell_later R.b xa; simp [execOp, go_sem, R.dep 0 10 _ (by decide) rfl rfl, x]
    · exact ok_build 2 [r, 1] 3 rfl (fun v => rd_lit v _ _) fun ρ v R => by simp [execOp, go_sem, R.dep 1 11 _ (by decide) rfl rfl, R.con]
    · exact ok_call 53 _ rfl fun ρ v R => by
        obtain ⟨b, h3, h4⟩ := R.row 2 12 2 [r, 1] (by decide) rfl rfl
        exact ⟨_, by simp [execOp, go_sem, h3, R.fn], sum_lit [r, 1] 2 rfl (by decide) h4 h1⟩
    · exact ok_pure _ rfl fun ρ v R => by simp [execOp, go_sem, R.old 4 (by decide)]
    · exact ok_pure _ rfl fun ρ v R => by have x := cell_later R.b xb; simp [execOp, go_sem, R.dep 4 14 _ (by decide) rfl rfl, x]
    · exact ok_build 2 [e, 1] 3 rfl (fun v => rd_lit v _ _) fun ρ v R => by simp [execOp, go_sem, R.dep 5 15 _ (by decide) rfl rfl, R.con]
    · exact ok_call 53 _ rfl fun ρ v R => by
        obtain ⟨b, h3, h4⟩ := R.row 6 16 2 [e, 1] (by decide) rfl rfl
        exact ⟨_, by simp [execOp, go_sem, h3, R.fn], sum_lit [e, 1] 2 rfl (by decide) h4 h2⟩
    · exact ok_pure _ rfl fun ρ v R => by simp [execOp, go_sem, R.dep 3 13 _ (by decide) rfl rfl]
    · exact ok_pure _ rfl fun ρ v R => by simp [execOp, go_sem, R.dep 7 17 _ (by decide) rfl rfl]
  · intro vals w2 hb2 hv
    have v0 : vals 0 = _ := hv (0, 10) (by decide)
    have v1 : vals 1 = _ := hv (1, 11) (by decide)
    obtain ⟨b2, v2, -⟩ := hv (2, 12) (by decide)
    have v3 : vals 3 = _ := hv (3, 13) (by decide)
    have v4 : vals 4 = _ := hv (4, 14) (by decide)
    have v5 : vals 5 = _ := hv (5, 15) (by decide)
    obtain ⟨b6, v6, -⟩ := hv (6, 16) (by decide)
    have v7 : vals 7 = _ := hv (7, 17) (by decide)
    have v8 : vals 8 = _ := hv (8, 7) (by decide)
    have v9 : vals 9 = _ := hv (9, 8) (by decide)
    simp only at v2 v6
    simp only [List.foldl, v0, v1, v2, v3, v4, v5, v6, v7, v8, v9, List.setIfInBounds_toArray, List.set_cons_succ, List.set_cons_zero]
    clear hv v0 v1 v2 v3 v4 v5 v6 v7 v8 v9
    go_wp2_with fail
    have mb3 : ∀ x ∈ [sms [r, 1], sms [e, 1]], InI x := (List.forall_mem_cons.2 ⟨k1, (List.forall_mem_cons.2 ⟨k2, (List.forall_mem_nil _)⟩)⟩)
    have kb3 : InI (pms [sms [r, 1], sms [e, 1]]) := pms_in mb3
    have mb9 : ∀ x ∈ [r, sms [e, 1], m], InI x := (List.forall_mem_cons.2 ⟨hr, (List.forall_mem_cons.2 ⟨k2, (List.forall_mem_cons.2 ⟨hm, (List.forall_mem_nil _)⟩)⟩)⟩)
    have kb9 : InI (pms [r, sms [e, 1], m]) := pms_in mb9
    have mb11 : ∀ x ∈ [pms [sms [r, 1], sms [e, 1]], pms [r, sms [e, 1], m]], InI x := (List.forall_mem_cons.2 ⟨kb3, (List.forall_mem_cons.2 ⟨kb9, (List.forall_mem_nil _)⟩)⟩)
    have kb11 : InI (sms [pms [sms [r, 1], sms [e, 1]], pms [r, sms [e, 1], m]]) := sms_in mb11
    refine region_ints [(0, 18), (1, 19), (2, 20), (3, 21), (4, 22), (5, 23), (6, 24), (7, 25), (8, 26), (9, 27), (10, 28), (11, 29), (12, 9)]
      [.val (.int .i64 (sms [r, 1])), .val (.int .i64 (sms [e, 1])), .row 2 [sms [r, 1], sms [e, 1]], .val (.int .i64 (pms [sms [r, 1], sms [e, 1]])), .val (.pointer (some ⟨w.heap.size, 0, none⟩)), .val (.int .i64 (r)), .val (.int .i64 (sms [e, 1])), .val (.int .i64 (m)), .row 3 [r, sms [e, 1], m], .val (.int .i64 (pms [r, sms [e, 1], m])), .row 2 [pms [sms [r, 1], sms [e, 1]], pms [r, sms [e, 1], m]], .val (.int .i64 (sms [pms [sms [r, 1], sms [e, 1]], pms [r, sms [e, 1], m]])), .val (.int .i64 (sms [pms [sms [r, 1], sms [e, 1]], pms [r, sms [e, 1], m]]))]
      (by kernel_rfl) (by kernel_rfl) (by kernel_rfl) (by decide) (by decide) (by rfl) ?_ ?_
    · refine ⟨?_, ?_, ?_, ?_, ?_, ?_, ?_, ?_, ?_, ?_, ?_, ?_, ?_, trivial⟩
      · exact ok_pure _ rfl fun ρ v R => by simp [execOp, go_sem, R.old 7 (by decide)]
      · exact ok_pure _ rfl fun ρ v R => by simp [execOp, go_sem, R.old 8 (by decide)]
      · exact ok_build 2 [sms [r, 1], sms [e, 1]] 3 rfl (fun v => rd_lit v _ _) fun ρ v R => by simp [execOp, go_sem, R.dep 0 18 _ (by decide) rfl rfl, R.dep 1 19 _ (by decide) rfl rfl]
      · exact ok_call 54 _ rfl fun ρ v R => by
          obtain ⟨b, h3, h4⟩ := R.row 2 20 2 [sms [r, 1], sms [e, 1]] (by decide) rfl rfl
          exact ⟨_, by simp [execOp, go_sem, h3, R.fn], prod_lit [sms [r, 1], sms [e, 1]] 2 rfl (by decide) h4 mb3⟩
      · exact ok_pure _ rfl fun ρ v R => by simp [execOp, go_sem, R.old 3 (by decide)]
      · exact ok_pure _ rfl fun ρ v R => by have x := cell_later R.b (cell_later hb2 xa); simp [execOp, go_sem, R.dep 4 22 _ (by decide) rfl rfl, x]
      · exact ok_pure _ rfl fun ρ v R => by simp [execOp, go_sem, R.old 8 (by decide)]
      · exact ok_pure _ rfl fun ρ v R => by simp [execOp, go_sem, R.old 2 (by decide)]
      · exact ok_build 3 [r, sms [e, 1], m] 3 rfl (fun v => rd_lit v _ _) fun ρ v R => by simp [execOp, go_sem, R.dep 5 23 _ (by decide) rfl rfl, R.dep 6 24 _ (by decide) rfl rfl, R.dep 7 25 _ (by decide) rfl rfl]
      · exact ok_call 54 _ rfl fun ρ v R => by
          obtain ⟨b, h3, h4⟩ := R.row 8 26 3 [r, sms [e, 1], m] (by decide) rfl rfl
          exact ⟨_, by simp [execOp, go_sem, h3, R.fn], prod_lit [r, sms [e, 1], m] 3 rfl (by decide) h4 mb9⟩
      · exact ok_build 2 [pms [sms [r, 1], sms [e, 1]], pms [r, sms [e, 1], m]] 3 rfl (fun v => rd_lit v _ _) fun ρ v R => by simp [execOp, go_sem, R.dep 3 21 _ (by decide) rfl rfl, R.dep 9 27 _ (by decide) rfl rfl]
      · exact ok_call 53 _ rfl fun ρ v R => by
          obtain ⟨b, h3, h4⟩ := R.row 10 28 2 [pms [sms [r, 1], sms [e, 1]], pms [r, sms [e, 1], m]] (by decide) rfl rfl
          exact ⟨_, by simp [execOp, go_sem, h3, R.fn], sum_lit [pms [sms [r, 1], sms [e, 1]], pms [r, sms [e, 1], m]] 2 rfl (by decide) h4 mb11⟩
      · exact ok_pure _ rfl fun ρ v R => by simp [execOp, go_sem, R.dep 11 29 _ (by decide) rfl rfl]
    · intro vals w3 hb3 hv
      have v0 : vals 0 = _ := hv (0, 18) (by decide)
      have v1 : vals 1 = _ := hv (1, 19) (by decide)
      obtain ⟨b2, v2, -⟩ := hv (2, 20) (by decide)
      simp only at v2
      have v3 : vals 3 = _ := hv (3, 21) (by decide)
      have v4 : vals 4 = _ := hv (4, 22) (by decide)
      have v5 : vals 5 = _ := hv (5, 23) (by decide)
      have v6 : vals 6 = _ := hv (6, 24) (by decide)
      have v7 : vals 7 = _ := hv (7, 25) (by decide)
      obtain ⟨b8, v8, -⟩ := hv (8, 26) (by decide)
      simp only at v8
      have v9 : vals 9 = _ := hv (9, 27) (by decide)
      obtain ⟨b10, v10, -⟩ := hv (10, 28) (by decide)
      simp only at v10
      have v11 : vals 11 = _ := hv (11, 29) (by decide)
      have v12 : vals 12 = _ := hv (12, 9) (by decide)
      simp only [List.foldl, v0, v1, v2, v3, v4, v5, v6, v7, v8, v9, v10, v11, v12, List.setIfInBounds_toArray, List.set_cons_succ, List.set_cons_zero]
      clear hv v0 v1 v2 v3 v4 v5 v6 v7 v8 v9 v10 v11 v12
      go_wp2_with fail
      have mc4 : ∀ x ∈ [s, 1], InI x := (List.forall_mem_cons.2 ⟨hs, (List.forall_mem_cons.2 ⟨inI_lit rfl, (List.forall_mem_nil _)⟩)⟩)
      have kc4 : InI (sms [s, 1]) := sms_in mc4
      have mc10 : ∀ x ∈ [d, e, 2], InI x := (List.forall_mem_cons.2 ⟨hd, (List.forall_mem_cons.2 ⟨he, (List.forall_mem_cons.2 ⟨inI_lit rfl, (List.forall_mem_nil _)⟩)⟩)⟩)
      have kc10 : InI (sms [d, e, 2]) := sms_in mc10
      have mc17 : ∀ x ∈ [k, l, sms [pms [sms [r, 1], sms [e, 1]], pms [r, sms [e, 1], m]], 8], InI x := (List.forall_mem_cons.2 ⟨hk, (List.forall_mem_cons.2 ⟨hl, (List.forall_mem_cons.2 ⟨kb11, (List.forall_mem_cons.2 ⟨inI_lit rfl, (List.forall_mem_nil _)⟩)⟩)⟩)⟩)
      have kc17 : InI (sms [k, l, sms [pms [sms [r, 1], sms [e, 1]], pms [r, sms [e, 1], m]], 8]) := sms_in mc17
      have mc19 : ∀ x ∈ [sms [r, 1], sms [s, 1], sms [d, e, 2], sms [k, l, sms [pms [sms [r, 1], sms [e, 1]], pms [r, sms [e, 1], m]], 8]], InI x := (List.forall_mem_cons.2 ⟨k1, (List.forall_mem_cons.2 ⟨kc4, (List.forall_mem_cons.2 ⟨kc10, (List.forall_mem_cons.2 ⟨kc17, (List.forall_mem_nil _)⟩)⟩)⟩)⟩)
      have kc19 : InI (tms [sms [r, 1], sms [s, 1], sms [d, e, 2], sms [k, l, sms [pms [sms [r, 1], sms [e, 1]], pms [r, sms [e, 1], m]], 8]]) := tms_in mc19
      refine region_ints [(0, 30), (1, 31), (2, 32), (3, 33), (4, 34), (5, 35), (6, 36), (7, 37), (8, 38), (9, 39), (10, 40), (11, 41), (12, 42), (13, 43), (14, 44), (15, 45), (16, 46), (17, 47), (18, 48), (19, 49), (20, 6)]
        [.val (.int .i64 (sms [r, 1])), .val (.pointer (some ⟨w.heap.size + 1, 0, none⟩)), .val (.int .i64 (s)), .row 2 [s, 1], .val (.int .i64 (sms [s, 1])), .val (.pointer (some ⟨w.heap.size, 1, none⟩)), .val (.int .i64 (d)), .val (.pointer (some ⟨w.heap.size + 1, 1, none⟩)), .val (.int .i64 (e)), .row 3 [d, e, 2], .val (.int .i64 (sms [d, e, 2])), .val (.pointer (some ⟨w.heap.size, 2, none⟩)), .val (.int .i64 (k)), .val (.pointer (some ⟨w.heap.size + 1, 2, none⟩)), .val (.int .i64 (l)), .val (.int .i64 (sms [pms [sms [r, 1], sms [e, 1]], pms [r, sms [e, 1], m]])), .row 4 [k, l, sms [pms [sms [r, 1], sms [e, 1]], pms [r, sms [e, 1], m]], 8], .val (.int .i64 (sms [k, l, sms [pms [sms [r, 1], sms [e, 1]], pms [r, sms [e, 1], m]], 8])), .row 4 [sms [r, 1], sms [s, 1], sms [d, e, 2], sms [k, l, sms [pms [sms [r, 1], sms [e, 1]], pms [r, sms [e, 1], m]], 8]], .val (.int .i64 (tms [sms [r, 1], sms [s, 1], sms [d, e, 2], sms [k, l, sms [pms [sms [r, 1], sms [e, 1]], pms [r, sms [e, 1], m]], 8]])), .val (.int .i64 (tms [sms [r, 1], sms [s, 1], sms [d, e, 2], sms [k, l, sms [pms [sms [r, 1], sms [e, 1]], pms [r, sms [e, 1], m]], 8]]))]
        (by kernel_rfl) (by kernel_rfl) (by kernel_rfl) (by decide) (by decide) (by rfl) ?_ ?_
      · refine ⟨?_, ?_, ?_, ?_, ?_, ?_, ?_, ?_, ?_, ?_, ?_, ?_, ?_, ?_, ?_, ?_, ?_, ?_, ?_, ?_, ?_, trivial⟩
        · exact ok_pure _ rfl fun ρ v R => by simp [execOp, go_sem, R.old 7 (by decide)]
        · exact ok_pure _ rfl fun ρ v R => by simp [execOp, go_sem, R.old 4 (by decide)]
        · exact ok_pure _ rfl fun ρ v R => by have x := cell_later R.b (cell_later hb3 (cell_later hb2 xbs)); simp [execOp, go_sem, R.dep 1 31 _ (by decide) rfl rfl, x]
        · exact ok_build 2 [s, 1] 3 rfl (fun v => rd_lit v _ _) fun ρ v R => by simp [execOp, go_sem, R.con, R.dep 2 32 _ (by decide) rfl rfl]
        · exact ok_call 53 _ rfl fun ρ v R => by
            obtain ⟨b, h3, h4⟩ := R.row 3 33 2 [s, 1] (by decide) rfl rfl
            exact ⟨_, by simp [execOp, go_sem, h3, R.fn], sum_lit [s, 1] 2 rfl (by decide) h4 mc4⟩
        · exact ok_pure _ rfl fun ρ v R => by simp [execOp, go_sem, R.old 3 (by decide)]
        · exact ok_pure _ rfl fun ρ v R => by have x := cell_later R.b (cell_later hb3 (cell_later hb2 xad)); simp [execOp, go_sem, R.dep 5 35 _ (by decide) rfl rfl, x]
        · exact ok_pure _ rfl fun ρ v R => by simp [execOp, go_sem, R.old 4 (by decide)]
        · exact ok_pure _ rfl fun ρ v R => by have x := cell_later R.b (cell_later hb3 (cell_later hb2 xb)); simp [execOp, go_sem, R.dep 7 37 _ (by decide) rfl rfl, x]
        · exact ok_build 3 [d, e, 2] 3 rfl (fun v => rd_lit v _ _) fun ρ v R => by simp [execOp, go_sem, R.con, R.dep 6 36 _ (by decide) rfl rfl, R.dep 8 38 _ (by decide) rfl rfl]
        · exact ok_call 53 _ rfl fun ρ v R => by
            obtain ⟨b, h3, h4⟩ := R.row 9 39 3 [d, e, 2] (by decide) rfl rfl
            exact ⟨_, by simp [execOp, go_sem, h3, R.fn], sum_lit [d, e, 2] 3 rfl (by decide) h4 mc10⟩
        · exact ok_pure _ rfl fun ρ v R => by simp [execOp, go_sem, R.old 3 (by decide)]
        · exact ok_pure _ rfl fun ρ v R => by have x := cell_later R.b (cell_later hb3 (cell_later hb2 xak)); simp [execOp, go_sem, R.dep 11 41 _ (by decide) rfl rfl, x]
        · exact ok_pure _ rfl fun ρ v R => by simp [execOp, go_sem, R.old 4 (by decide)]
        · exact ok_pure _ rfl fun ρ v R => by have x := cell_later R.b (cell_later hb3 (cell_later hb2 xbl)); simp [execOp, go_sem, R.dep 13 43 _ (by decide) rfl rfl, x]
        · exact ok_pure _ rfl fun ρ v R => by simp [execOp, go_sem, R.old 9 (by decide)]
        · exact ok_build 4 [k, l, sms [pms [sms [r, 1], sms [e, 1]], pms [r, sms [e, 1], m]], 8] 3 rfl (fun v => rd_lit v _ _) fun ρ v R => by simp [execOp, go_sem, R.con, R.dep 12 42 _ (by decide) rfl rfl, R.dep 14 44 _ (by decide) rfl rfl, R.dep 15 45 _ (by decide) rfl rfl]
        · exact ok_call 53 _ rfl fun ρ v R => by
            obtain ⟨b, h3, h4⟩ := R.row 16 46 4 [k, l, sms [pms [sms [r, 1], sms [e, 1]], pms [r, sms [e, 1], m]], 8] (by decide) rfl rfl
            exact ⟨_, by simp [execOp, go_sem, h3, R.fn], sum_lit [k, l, sms [pms [sms [r, 1], sms [e, 1]], pms [r, sms [e, 1], m]], 8] 4 rfl (by decide) h4 mc17⟩
        · exact ok_build 4 [sms [r, 1], sms [s, 1], sms [d, e, 2], sms [k, l, sms [pms [sms [r, 1], sms [e, 1]], pms [r, sms [e, 1], m]], 8]] 3 rfl (fun v => rd_lit v _ _) fun ρ v R => by simp [execOp, go_sem, R.dep 0 30 _ (by decide) rfl rfl, R.dep 10 40 _ (by decide) rfl rfl, R.dep 17 47 _ (by decide) rfl rfl, R.dep 4 34 _ (by decide) rfl rfl]
        · exact ok_call 49 _ rfl fun ρ v R => by
            obtain ⟨b, h3, h4⟩ := R.row 18 48 4 [sms [r, 1], sms [s, 1], sms [d, e, 2], sms [k, l, sms [pms [sms [r, 1], sms [e, 1]], pms [r, sms [e, 1], m]], 8]] (by decide) rfl rfl
            exact ⟨_, by simp [execOp, go_sem, h3, R.fn], times_lit [sms [r, 1], sms [s, 1], sms [d, e, 2], sms [k, l, sms [pms [sms [r, 1], sms [e, 1]], pms [r, sms [e, 1], m]], 8]] 4 rfl (by decide) h4 mc19⟩
        · exact ok_pure _ rfl fun ρ v R => by simp [execOp, go_sem, R.dep 19 49 _ (by decide) rfl rfl]
      · intro vals w4 hb4 hv
        have v0 : vals 0 = _ := hv (0, 30) (by decide)
        have v1 : vals 1 = _ := hv (1, 31) (by decide)
        have v2 : vals 2 = _ := hv (2, 32) (by decide)
        obtain ⟨b3, v3, -⟩ := hv (3, 33) (by decide)
        simp only at v3
        have v4 : vals 4 = _ := hv (4, 34) (by decide)
        have v5 : vals 5 = _ := hv (5, 35) (by decide)
        have v6 : vals 6 = _ := hv (6, 36) (by decide)
        have v7 : vals 7 = _ := hv (7, 37) (by decide)
        have v8 : vals 8 = _ := hv (8, 38) (by decide)
        obtain ⟨b9, v9, -⟩ := hv (9, 39) (by decide)
        simp only at v9
        have v10 : vals 10 = _ := hv (10, 40) (by decide)
        have v11 : vals 11 = _ := hv (11, 41) (by decide)
        have v12 : vals 12 = _ := hv (12, 42) (by decide)
        have v13 : vals 13 = _ := hv (13, 43) (by decide)
        have v14 : vals 14 = _ := hv (14, 44) (by decide)
        have v15 : vals 15 = _ := hv (15, 45) (by decide)
        obtain ⟨b16, v16, -⟩ := hv (16, 46) (by decide)
        simp only at v16
        have v17 : vals 17 = _ := hv (17, 47) (by decide)
        obtain ⟨b18, v18, -⟩ := hv (18, 48) (by decide)
        simp only at v18
        have v19 : vals 19 = _ := hv (19, 49) (by decide)
        have v20 : vals 20 = _ := hv (20, 6) (by decide)
        simp only [List.foldl, v0, v1, v2, v3, v4, v5, v6, v7, v8, v9, v10, v11, v12, v13, v14, v15, v16, v17, v18, v19, v20, List.setIfInBounds_toArray, List.set_cons_succ, List.set_cons_zero]
        clear hv v0 v1 v2 v3 v4 v5 v6 v7 v8 v9 v10 v11 v12 v13 v14 v15 v16 v17 v18 v19 v20
        have HBE : Hid (Below w.heap.size w w4) := bnext' hW (bnext' hb2 (bnext' hb3 hb4))
        go_wp2
        go_ret
        exact ⟨rfl, HBE.out⟩
end Go.Proofs.YtcdfckjlmifjiaaGreat
