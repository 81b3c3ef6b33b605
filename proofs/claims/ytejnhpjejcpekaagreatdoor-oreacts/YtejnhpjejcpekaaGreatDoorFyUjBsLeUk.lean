/-
  Eq's regions within a fence (in a round of a range over a function).
-/
import Derived.Test.YtejnhpjejcpekaaGreatDoorDyEoEq
import Derived.OrdersIn
import Derived.CallsIn
import Derived.Test.YtejnhpjejcpekaaGreatDoorUeUfUgHdNb
import Derived.Test.YtejnhpjejcpekaaGreatDoorLnWrIbWg
namespace Go.Proofs.YtejnhpjejcpekaaGreatDoor
open Go.RowKit
set_option linter.unusedVariables false
set_option linter.unusedSimpArgs false
set_option maxHeartbeats 8000000
theorem wpAnyIn_invB {F : Fence} {n : Nat} {P : Program} {ops : Array Oper} {Q : Exit → Act → World → Prop} (I : Array Bool → Act → World → Prop) (ha : aheadB ops = true)
    (hend : ∀ listed a w, I listed a w → (∀ j, j < ops.size → listed.getD j true = true) → Q .normal a w)
    (hstep : ∀ listed a w, I listed a w → ∀ i o, ops[i]? = some o → listed.getD i true = false → (∀ e ∈ o.after, Region.binds .any e = true → listed.getD e.on false = true) → wpOpIn F n P ops Q i (fun a' w' => I (listed.setIfInBounds i true) a' w') a w) :
    ∀ (fuel : Nat) (listed : Array Bool) (a : Act) (w : World), listed.toList.count false ≤ fuel → I listed a w → wpAnyIn F n P .any ops Q fuel listed a w := by
  intro fuel
  induction fuel with
  | zero =>
    intro listed a w hc hI
    have hr : Region.ready .any ops listed = [] := by
      rw [List.eq_nil_iff_forall_not_mem]
      intro j hj
      have h1 := count_down (mem_ready.1 hj).1
      omega
    exact ⟨hr, hend _ _ _ hI (all_listedB ha hr)⟩
  | succ fuel ih =>
    intro listed a w hc hI
    refine ⟨fun hr => hend _ _ _ hI (all_listedB ha hr), fun i hi => ?_⟩
    obtain ⟨h0, o, ho, hd⟩ := mem_ready.1 hi
    exact wpOpIn_mono (fun a' w' h => ih _ _ _ (by have := count_down h0; omega) h) (hstep _ _ _ hI i o ho h0 hd)
theorem regionIn_invB {F : Fence} {n : Nat} {P : Program} {ops : Array Oper} {Q : Exit → Act → World → Prop} {id : Nat} {a : Act} {w : World} (hm : P.follows .mixedOrders = true) (I : Array Bool → Act → World → Prop) (ha : aheadB ops = true)
    (hend : ∀ listed a w, I listed a w → (∀ j, j < ops.size → listed.getD j true = true) → Q .normal a w)
    (hstep : ∀ listed a w, I listed a w → ∀ i o, ops[i]? = some o → listed.getD i true = false → (∀ e ∈ o.after, Region.binds .any e = true → listed.getD e.on false = true) → wpOpIn F n P ops Q i (fun a' w' => I (listed.setIfInBounds i true) a' w') a w)
    (h : I (Array.replicate ops.size false) a { w with drawn := w.drawn + 1 }) : (Code.region id ops true).wpIn F n P Q a w :=
  wpIn_region_any hm (wpAnyIn_invB I ha hend hstep _ _ _ _ (by simp) h)
def EndsDIn (F : Fence) (n : Nat) (P : Program) (Q : Exit → Act → World → Prop) (ops : Array Oper) (N : Nat) (a : Act) (w : World) : Prop := match ops[N]? with
  | none => Q .normal a w
  | some o => o.wpIn F n P a w (fun a' w' => Q .normal a' w') Q
structure EndsIn (F : Fence) (n : Nat) (P : Program) (Q : Exit → Act → World → Prop) (ops : Array Oper) (N : Nat) (a : Act) (w : World) : Prop where
  out : EndsDIn F n P Q ops N a w
theorem endsIn_some {F : Fence} {n : Nat} {P : Program} {Q : Exit → Act → World → Prop} {ops : Array Oper} {N : Nat} {a : Act} {w : World} {o : Oper} (h : ops[N]? = some o) (k : o.wpIn F n P a w (fun a' w' => Q .normal a' w') Q) : EndsIn F n P Q ops N a w := by
  refine ⟨?_⟩
  rw [EndsDIn, h]
  exact k
def StepXIn (F : Fence) (n : Nat) (P : Program) (Q : Exit → Act → World → Prop) (W : World) (ops : Array Oper) (t0 : Array Value) (dl : List (Nat × Nat)) (al : List Nat) (ans : List Ax) (i : Nat) (o : Oper) : Prop :=
  ∀ (a : Act) (w : World) (X : Nat → Prop), SeesX ops dl al ans t0 i W X a.eval w → o.wpIn F n P a w (fun a' w' => ∃ v, a' = a.put o.dst v ∧ (ans.getD i default).is X v w' ∧ Below w.heap.size w w' ∧ (al.contains i = true → v = .pointer (some ⟨w.heap.size, 0, none⟩) ∧ w.heap.size < w'.heap.size)) Q
theorem regionIn_openX {F : Fence} {n : Nat} {P : Program} {ops : Array Oper} {Q : Exit → Act → World → Prop} {id : Nat} {a0 : Act} {W : World} (N : Nat) (dl : List (Nat × Nat)) (al : List Nat) (gl : List (Nat × Bool)) (ans : List Ax) (hm : P.follows .mixedOrders = true) (ha : aheadB ops = true) (hop : opsFitG ops dl gl N = true) (hgl : allG ans gl) (hl : lastFit ops N = true) (hf : (dl.map Prod.fst).Nodup) (hs : (dl.map Prod.snd).Nodup) (hz : (dl.all fun x => decide (x.2 < a0.tmps.size) && decide (x.1 < N)) = true)
    (hstep : allUpto (StepXIn F n P Q W ops a0.tmps dl al ans) N 0 ops.toList)
    (hend : ∀ (vals : Nat → Value) (w : World), Below W.heap.size W w → (∀ x ∈ dl, (ans.getD x.1 default).is (XA dl al vals x.1) (vals x.1) w) → EndsIn F n P Q ops N ⟨dl.foldl (fun t x => t.setIfInBounds x.2 (vals x.1)) a0.tmps, a0.defers⟩ w) : (Code.region id ops true).wpIn F n P Q a0 W := by
  have hz' : ∀ x ∈ dl, x.2 < a0.tmps.size ∧ x.1 < N := fun x hx => by simpa using List.all_eq_true.1 hz x hx
  have hNs : N ≤ ops.size := by
    unfold lastFit at hl
    simp only [Bool.or_eq_true, Bool.and_eq_true, decide_eq_true_eq] at hl
    omega
  have hNu : ops.size ≤ N + 1 := by
    unfold lastFit at hl
    simp only [Bool.or_eq_true, Bool.and_eq_true, decide_eq_true_eq] at hl
    omega
  have hall : ∀ (listed : Array Bool) (vals : Nat → Value) (l : List (Nat × Nat)) (t : Array Value), (∀ x ∈ l, listed.getD x.1 false = true) → lay listed vals l t = l.foldl (fun t x => t.setIfInBounds x.2 (vals x.1)) t := by
    intro listed vals l
    induction l with
    | nil => intro t _; rfl
    | cons x l ih =>
      intro t h
      obtain ⟨i, d⟩ := x
      rw [lay, if_pos (h (i, d) (by simp)), ih _ fun y hy => h y (by simp [hy])]
      rfl
  have tf : ∀ {l : Array Bool} {i : Nat}, i < l.size → l.getD i true = l.getD i false := fun {l i} hi => by simp [hi]
  have hin : ∀ {i : Nat} {o : Oper}, ops[i]? = some o → i < ops.size := fun ho => (Array.getElem?_eq_some_iff.1 ho).1
  have hxa : ∀ (listed : Array Bool) (vals : Nat → Value) (i b : Nat), XA dl al vals i b → (∀ x ∈ dl, listed.getD x.1 false = true) → XS dl al listed vals i b := fun listed vals i b ⟨y, h1, h2, h3, h4⟩ h => ⟨y, h1, h2, h y h1, h3, h4⟩
  refine regionIn_invB hm (fun listed a w => listed.size = ops.size ∧ (∀ i o, ops[i]? = some o → listed.getD i false = true → ∀ e ∈ o.after, Region.binds .any e = true → listed.getD e.on false = true) ∧ (if listed.getD N false = true then Q .normal a w else Below W.heap.size W w ∧ ∃ vals, a = ⟨lay listed vals dl a0.tmps, a0.defers⟩ ∧ (∀ x ∈ dl, listed.getD x.1 false = true → (ans.getD x.1 default).is (XS dl al listed vals x.1) (vals x.1) w) ∧ ∀ x ∈ dl, listed.getD x.1 false = true → al.contains x.1 = true → ∃ b, vals x.1 = .pointer (some ⟨b, 0, none⟩) ∧ W.heap.size ≤ b ∧ b < w.heap.size)) ha ?_ ?_ ?_
  · rintro listed a w ⟨h1, h2, h3⟩ hlst
    split at h3
    · exact h3
    · rename_i hn
      have hsz : ops.size = N := by
        rcases Nat.lt_or_ge N ops.size with h | h
        · exact absurd (by rw [← tf (by omega)]; exact hlst N h) hn
        · omega
      obtain ⟨hb, vals, rfl, hv, hva⟩ := h3
      have h5 : ∀ x ∈ dl, listed.getD x.1 false = true := fun x hx => by
        rw [← tf (by have := (hz' x hx).2; omega)]
        exact hlst x.1 (by have := (hz' x hx).2; omega)
      have := (hend vals w hb fun x hx => (ans.getD x.1 default).sub (hv x hx (h5 x hx)) fun b hb' => hxa listed vals x.1 b hb' h5).out
      rw [EndsDIn, Array.getElem?_eq_none (by omega)] at this
      rw [hall listed vals dl _ h5]
      exact this
  · rintro listed a w ⟨h1, h2, h3⟩ i o ho hi hdep
    have hi' : listed.getD i false = false := by rw [← tf (by rw [h1]; exact hin ho)]; exact hi
    have hlN : ∀ j, j < N → ops.size = N + 1 → waits ops N j = true := fun j hj hsz => by
      unfold lastFit at hl
      simp only [Bool.or_eq_true, Bool.and_eq_true, decide_eq_true_eq] at hl
      rcases hl with h | ⟨_, h⟩
      · omega
      · exact List.all_eq_true.1 h j (List.mem_range.2 hj)
    have hNn : listed.getD N false = false := by
      cases hc : listed.getD N false with
      | false => rfl
      | true =>
        exfalso
        have hNlt : N < ops.size := by
          rcases Nat.lt_or_ge N ops.size with h | h
          · exact h
          · simp [Array.getElem?_eq_none (show listed.size ≤ N by omega)] at hc
        rcases Nat.lt_or_ge i N with h | h
        · obtain ⟨o', ho', e, he, h4, h5⟩ := waits_at (hlN i h (by omega))
          have := h2 N o' ho' hc e he h5
          rw [h4, hi'] at this
          cases this
        · have := hin ho
          obtain rfl : i = N := by omega
          rw [hi'] at hc
          cases hc
    have hne : ∀ x : Nat, listed.getD x false = true → x ≠ i := fun x hx e => by
      rw [e, hi'] at hx
      cases hx
    have hcl : ∀ k o', ops[k]? = some o' → (listed.setIfInBounds i true).getD k false = true → ∀ e ∈ o'.after, Region.binds .any e = true → (listed.setIfInBounds i true).getD e.on false = true := by
      intro k o' ho' hk e he hbn
      have hup : ∀ x, listed.getD x false = true → (listed.setIfInBounds i true).getD x false = true := fun x hx => by
        have hxi := hne x hx
        simpa [Array.getElem?_setIfInBounds, Ne.symm hxi] using hx
      by_cases hki : k = i
      · subst hki
        rw [ho] at ho'
        cases ho'
        exact hup _ (hdep e he hbn)
      · exact hup _ (h2 k o' ho' (by simpa [Array.getElem?_setIfInBounds, Ne.symm hki] using hk) e he hbn)
    rw [if_neg (by rw [hNn]; decide)] at h3
    obtain ⟨hb, vals, rfl, hv, hva⟩ := h3
    unfold wpOpIn
    simp only [ho]
    rcases Nat.lt_or_ge i N with hiN | hiN
    · obtain ⟨hg, d, hd, hmem⟩ := opsFitG_at hop i hiN o ho
      have hst := allUpto_at _ 0 hstep i o (by simpa using ho) (by omega)
      rw [Nat.zero_add] at hst
      have hdp : ∀ j e, (j, e) ∈ dl → waits ops i j = true → listed.getD j false = true ∧ (ans.getD j default).is (XS dl al listed vals j) ((lay listed vals dl a0.tmps).getD e undef) w := fun j e hje hw => by
        obtain ⟨o', ho', x, hx, hxj, hbn⟩ := waits_at hw
        rw [ho] at ho'
        cases ho'
        have hlj : listed.getD j false = true := by rw [← hxj]; exact hdep x hx hbn
        refine ⟨hlj, ?_⟩
        rw [lay_at listed vals j e hlj dl _ hs hje (hz' (j, e) hje).1]
        exact hv (j, e) hje hlj
      have hst' := hst ⟨lay listed vals dl a0.tmps, a0.defers⟩ w (XS dl al listed vals i) ⟨hb, fun c ⟨y, g1, g2, g3, g4, g5⟩ => by
        obtain ⟨b, k1, k2, k3⟩ := hva y g1 g3 g4
        rw [g5] at k1
        cases k1
        exact ⟨k2, k3⟩, fun j e hje hw haj => (ans.getD j default).sub (hdp j e hje hw).2 fun b ⟨y, g1, g2, g3, g4, g5⟩ => ⟨y, g1, (fun ej => by rw [ej, haj] at g4; cases g4), g3, g4, g5⟩,
        fun j e hje hw => (ans.getD j default).sub (hdp j e hje hw).2 fun b hb' => False.elim hb', fun s hs' => lay_other listed vals s dl _ hs', fun s k hks hw => by
        obtain ⟨o', ho', x, hx, hxj, hbn⟩ := waits_at hw
        have hk : listed.getD k false = false := by
          cases hc : listed.getD k false with
          | false => rfl
          | true =>
            have := h2 k o' ho' hc x hx hbn
            rw [hxj, hi'] at this
            cases this
        exact lay_unlisted listed vals k s hk dl _ hs hks, fun _ => rfl, fun _ => rfl⟩
      have hw : Region.wanted o (yielded ops (lay listed vals dl a0.tmps)) = true := by
        rcases hg with hg | ⟨j, b, hg, hjb, hwj, hjN⟩
        · simp [Region.wanted, hg]
        · obtain ⟨oj, hoj⟩ : ∃ oj, ops[j]? = some oj := ⟨_, Array.getElem?_eq_getElem (by omega)⟩
          obtain ⟨-, dj, hdj, hmj⟩ := opsFitG_at hop j hjN oj hoj
          have h7 := allG_at hgl (j, b) hjb _ _ _ (hdp j dj hmj hwj).2
          have h8 : dj < (lay listed vals dl a0.tmps).size := by rw [lay_size]; exact (hz' (j, dj) hmj).1
          have h9 : (lay listed vals dl a0.tmps)[dj]? = some (.bool b) := by
            rw [Array.getElem?_eq_getElem h8]
            rw [Array.getD_eq_getD_getElem?, Array.getElem?_eq_getElem h8] at h7
            exact congrArg some h7
          simp [Region.wanted, hg, yielded, hoj, hdj, h9]
      rw [if_pos hw]
      refine (Oper.wpIn_mono (fun a' w' hh => ?_) hst')
      obtain ⟨v, rfl, hvv, hb', hal⟩ := hh
      refine ⟨by simpa using h1, hcl, ?_⟩
      have hNi : (listed.setIfInBounds i true).getD N false = false := by
        have : i ≠ N := by omega
        simpa [Array.getElem?_setIfInBounds, this] using hNn
      rw [if_neg (by rw [hNi]; decide)]
      have hlo : ∀ x : Nat, x ≠ i → (listed.setIfInBounds i true).getD x false = listed.getD x false := fun x hx => by simp [Array.getElem?_setIfInBounds, Ne.symm hx]
      -- what the set of variables becomes
      have hXo : ∀ x b, x ≠ i → XS dl al (listed.setIfInBounds i true) (fun k => if k = i then v else vals k) x b → XS dl al listed vals x b ∨ (al.contains i = true ∧ b = w.heap.size) := by
        rintro x b hxi ⟨y, g1, g2, g3, g4, g5⟩
        by_cases hyi : y.1 = i
        · right
          have ha' : al.contains i = true := by rw [← hyi]; exact g4
          simp only [hyi, if_true] at g5
          obtain ⟨e1, -⟩ := hal ha'
          rw [e1] at g5
          cases g5
          exact ⟨ha', rfl⟩
        · left
          rw [hlo y.1 hyi] at g3
          simp only [hyi, if_false] at g5
          exact ⟨y, g1, g2, g3, g4, g5⟩
      have hXi : ∀ b, XS dl al (listed.setIfInBounds i true) (fun k => if k = i then v else vals k) i b → XS dl al listed vals i b := by
        rintro b ⟨y, g1, g2, g3, g4, g5⟩
        rw [hlo y.1 g2] at g3
        simp only [g2, if_false] at g5
        exact ⟨y, g1, g2, g3, g4, g5⟩
      refine ⟨hb.trans (hb'.mono hb.size), fun k => if k = i then v else vals k, ?_, fun x hx hl' => ?_, fun x hx hl' hal' => ?_⟩
      · rw [lay_put listed vals i d v hi dl _ hf hs hmem, hd]
        rfl
      · by_cases hxi : x.1 = i
        · show (ans.getD x.1 default).is _ (if x.1 = i then v else vals x.1) w'
          rw [if_pos hxi, hxi]
          exact (ans.getD i default).sub hvv hXi
        · show (ans.getD x.1 default).is _ (if x.1 = i then v else vals x.1) w'
          rw [if_neg hxi]
          have hl'' : listed.getD x.1 false = true := by rw [← hlo x.1 hxi]; exact hl'
          refine (ans.getD x.1 default).sub ((ans.getD x.1 default).later ((ans.getD x.1 default).add (hv x hx hl'') (Nat.le_refl w.heap.size)) hb') fun b hX => ?_
          rcases hXo x.1 b hxi hX with h | ⟨-, h⟩
          · exact .inl h
          · exact .inr h
      · by_cases hxi : x.1 = i
        · show ∃ b, (if x.1 = i then v else vals x.1) = _ ∧ _
          rw [if_pos hxi]
          obtain ⟨e1, e2⟩ := hal (by rw [← hxi]; exact hal')
          exact ⟨w.heap.size, e1, hb.size, e2⟩
        · show ∃ b, (if x.1 = i then v else vals x.1) = _ ∧ _
          rw [if_neg hxi]
          obtain ⟨b, k1, k2, k3⟩ := hva x hx (by rw [← hlo x.1 hxi]; exact hl') hal'
          exact ⟨b, k1, k2, Nat.lt_of_lt_of_le k3 hb'.size⟩
    · have := hin ho
      obtain rfl : i = N := by omega
      have hg : o.guard = none := by
        unfold lastFit at hl
        simp only [Bool.or_eq_true, Bool.and_eq_true, decide_eq_true_eq] at hl
        rcases hl with h | ⟨⟨_, h⟩, _⟩
        · omega
        · simpa [ho] using h
      have h5 : ∀ x ∈ dl, listed.getD x.1 false = true := fun x hx => by
        obtain ⟨o', ho', e, he, h6, h7⟩ := waits_at (hlN x.1 (hz' x hx).2 (by omega))
        rw [ho] at ho'
        cases ho'
        rw [← h6]
        exact hdep e he h7
      have he := (hend vals w hb fun x hx => (ans.getD x.1 default).sub (hv x hx (h5 x hx)) fun b hb' => hxa listed vals x.1 b hb' h5).out
      rw [EndsDIn, ho] at he
      have hw : Region.wanted o (yielded ops (lay listed vals dl a0.tmps)) = true := by simp [Region.wanted, hg]
      rw [if_pos hw, hall listed vals dl _ h5]
      refine (Oper.wpIn_mono (fun a' w' hh => ?_) he)
      refine ⟨by simpa using h1, hcl, ?_⟩
      have : (listed.setIfInBounds i true).getD i false = true := by simp [h1, hin ho]
      rw [if_pos this]
      exact hh
  · have hno : ∀ j, (Array.replicate ops.size false).getD j false = false := fun j => by
      simp [Array.getElem?_replicate]
      split <;> simp
    refine ⟨by simp, fun i o ho h => ?_, ?_⟩
    · rw [hno] at h
      cases h
    · rw [if_neg (by rw [hno]; decide)]
      refine ⟨⟨rfl, rfl, rfl, Nat.le_refl _, fun _ _ => rfl⟩, fun _ => undef, ?_, fun x hx hl' => ?_, fun x hx hl' => ?_⟩
      · have hnone : ∀ (l : List (Nat × Nat)) (t : Array Value), lay (Array.replicate ops.size false) (fun _ => undef) l t = t := by
          intro l
          induction l with
          | nil => intro t; rfl
          | cons x l ih =>
            intro t
            obtain ⟨i, e⟩ := x
            rw [lay, if_neg (by rw [hno]; decide), ih]
        rw [hnone]
      · rw [hno] at hl'
        cases hl'
      · rw [hno] at hl'
        cases hl'
section
variable {F : Fence} {n : Nat} {P : Program} {Q : Exit → Act → World → Prop} {W : World} {ops : Array Oper} {t0 : Array Value} {dl : List (Nat × Nat)} {al : List Nat} {ans : List Ax} {i : Nat} {o : Oper}
theorem oxi_pure (hF : ∀ f, F.fn f) (hna : al.contains i = false) (hrun : ∀ (X : Nat → Prop) (ρ : Operand → Value) (v : World), SeesX ops dl al ans t0 i W X ρ v → ∃ u, (o.semAt F.round ρ).run P v = .ok (.value u) v ∧ (ans.getD i default).is X u v) : StepXIn F n P Q W ops t0 dl al ans i o := by
  intro a v X R
  obtain ⟨u, h1, h2⟩ := hrun X a.eval v R
  refine ⟨fun f _ => hF f, ?_⟩
  rw [h1]
  exact ⟨u, rfl, h2, Below.refl _ _, fun h => by rw [hna] at h; cases h⟩
theorem oxi_call (hF : ∀ f, F.fn f) (f : Nat) (hna : al.contains i = false) (hn : F.depth.isSome = true → 1 ≤ n) (hrun : ∀ (X : Nat → Prop) (ρ : Operand → Value) (v : World), SeesX ops dl al ans t0 i W X ρ v → ∃ args, (o.semAt F.round ρ).run P v = .ok (.enter f args) v ∧ CallsIn F (n - 1) P f args v fun e w' => ∃ u, e = .returned u ∧ (ans.getD i default).is X u w' ∧ Below v.heap.size v w') : StepXIn F n P Q W ops t0 dl al ans i o := by
  intro a v X R
  obtain ⟨args, h3, h4⟩ := hrun X a.eval v R
  refine ⟨fun f _ => hF f, ?_⟩
  rw [h3]
  refine ⟨hn, h4.mono ?_⟩
  rintro e w' ⟨u, rfl, hu, hb'⟩
  exact ⟨u, rfl, hu, hb', fun h => by rw [hna] at h; cases h⟩
end
def zb (z : Int) : Nat := if z = 0 then 0 else z.natAbs.log2 + 1
theorem zb_ib (z : Int) : IB (zb z) (z.natAbs : Int) := by
  unfold zb
  split
  · rename_i h; subst h; exact ⟨by decide, by decide, .inl rfl⟩
  · rename_i h
    have h0 : z.natAbs ≠ 0 := by omega
    refine ⟨by omega, ?_, .inr ?_⟩
    · have := Nat.lt_log2_self (n := z.natAbs)
      exact_mod_cast this
    · have := Nat.log2_self_le h0
      simp only [Nat.add_sub_cancel]
      exact_mod_cast this
theorem nbits_zb {s : Bool} {xs : List Int} (hU : U32 xs) : nbits xs = (zb (ival s xs) : Int) := by
  obtain ⟨b, hb, hI⟩ := nbits_ib hU
  have e : ((ival s xs).natAbs : Int) = val xs := by
    have := val_nonneg hU
    rw [ival]
    split <;> omega
  have hz := zb_ib (ival s xs)
  rw [e] at hz
  rw [hb, hI.uniq hz]
theorem Bits_ev {w : World} {K : Nat} {z : Int} {e : Ent} (h : EV w K z e) : Calls Tryz.prog 61 #[.agg #[.bool e.s, .slice e.p e.n e.c]] w fun r w' => r = .returned (.int .i64 (zb z)) ∧ Below w.heap.size w w' := by
  obtain ⟨xs, h1, rfl, h3⟩ := h
  rw [← nbits_zb (s := e.s) h1.u]
  exact Bits_any e.s e.p e.n e.c xs w h1
def pb (zs : List Int) : Nat := zs.foldl (fun m z => max m (zb z)) 0
theorem pb_take (zs : List Int) (j : Nat) (h : j < zs.length) : pb (zs.take (j + 1)) = max (pb (zs.take j)) (zb (gx zs j)) := by
  rw [gx_mem zs j h, List.take_succ_eq_append_getElem h, pb, List.foldl_append]
  rfl
theorem zb_le {w : World} {K : Nat} {z : Int} {e : Ent} (h : EV w K z e) : zb z ≤ 32 * K := by
  obtain ⟨xs, h1, rfl, h3⟩ := h
  obtain ⟨q1, q2, q3⟩ := nbits_len h1.u
  rw [nbits_zb (s := e.s) h1.u] at q3
  have := tlen_le xs
  have := h1.len
  omega
set_option maxRecDepth 100000 in
theorem isZero_any {w : World} {K : Nat} {z : Int} {e : Ent} (h : EV w K z e) : Calls Tryz.prog 208 #[.agg #[.bool e.s, .slice e.p e.n e.c]] w fun r w' => r = .returned (.bool (decide (z = 0))) ∧ Below w.heap.size w w' := by
  have hd : Hid ((isgn z == 0) = decide (z = 0)) := by
    show (isgn z == 0) = decide (z = 0)
    unfold isgn
    split
    · rename_i h; rw [decide_eq_true h]; rfl
    · rename_i h; rw [decide_eq_false h]; split <;> rfl
  go_enter Tryz.func208, Tryz.ntmps208
  go_wp2_with fail
  have hW : Below w.heap.size w (w.alloc (.cells #[.bool e.s, .slice e.p e.n e.c] 26)) := (Below.refl _ _).alloc (Nat.le_refl _) _
  generalize w.alloc (.cells #[.bool e.s, .slice e.p e.n e.c] 26) = W at *
  refine (Sign_ev (h.below hW)).mono ?_
  rintro r w1 ⟨rfl, hb1⟩
  go_wp2
  go_ret
  exact ⟨by rw [hd.out]; rfl, bnext' hW hb1⟩
set_option maxRecDepth 100000 in
theorem uBits_any {w : World} {K : Nat} {p : Option Addr} {n nc : Nat} {es : List Ent} {zs : List Int} (h : PA w K p n nc es zs) (hn : n ≤ 1000000) (hK : K ≤ 1000) :
    Calls Tryz.prog 75 #[.slice p n nc] w fun r w' => r = .returned (.int .i64 (pb zs)) ∧ pb zs ≤ 32 * K ∧ Below w.heap.size w w' := by
  have hel := h.el
  have hzl := h.zl
  go_enter Tryz.func75, Tryz.ntmps75
  go_wp2_with fail
  go_loopw [3, 5, 8] (fun mv cv kv wr => ∃ j : Nat, j ≤ n ∧ kv = .int .i64 j ∧ mv = .int .i64 (pb (zs.take j)) ∧ Hid (pb (zs.take j) ≤ 32 * K ∧ Below w.heap.size w wr)) (fun _ _ kv _ => n - (intOf kv).toNat)
  case atStart => exact ⟨0, Nat.zero_le _, by go_num, by simp [pb], by simp [pb], Below.refl _ _⟩
  case round =>
    obtain ⟨j, hj, rfl, rfl, H⟩ := hrel
    rcases Nat.lt_or_ge j n with hlt | hge
    · have hh := h.below H.out.2
      have hv := hh.ev j hlt
      obtain ⟨b, o, hp, hc⟩ := hh.pl (by omega)
      subst hp
      obtain ⟨c0, c1⟩ := hc j (by omega)
      have hz := zb_le hv
      have HT : Hid (pb (zs.take (j + 1)) = max (pb (zs.take j)) (zb (gx zs j))) := pb_take zs j (by omega)
      clear hc hh
      go_wp2_with fail
      have hal := bel_al (o := .cells #[.bool (ge es j).s, .slice (ge es j).p (ge es j).n (ge es j).c] 26) (Below.refl wr.heap.size wr)
      refine (Bits_ev (hv.below hal)).mono ?_
      rintro e w1 ⟨rfl, hb1⟩
      have hB := bnext' H.out.2 (bnext' hal hb1)
      have hmx : max (pb (zs.take j) : Int) (zb (gx zs j) : Int) = ((pb (zs.take (j + 1)) : Nat) : Int) := by rw [HT.out]; omega
      clear c0 c1 hv hal hb1
      go_wp2
      go_roundw
      case rel => exact ⟨j + 1, by omega, by go_num, rfl, by rw [HT.out]; have := H.out.1; omega, hB⟩
      case measure => simp [intOf]; omega
    · obtain rfl : j = n := by omega
      have HT : Hid (zs.take j = zs) := List.take_of_length_le (by omega)
      clear hge
      go_wp2
      go_ret
      obtain ⟨h1, h2⟩ := H.out
      rw [HT.out] at h1
      exact ⟨by rw [HT.out]; rfl, h1, h2⟩
def zl (z : Int) : Nat := (zb z + 31) / 32
def cnt (zs : List Int) : Nat := zs.foldl (fun m z => if z = 0 then m else m + 1) 0
def sl (zs : List Int) : Nat := zs.foldl (fun m z => m + zl z) 0
theorem cnt_take (zs : List Int) (j : Nat) (h : j < zs.length) : cnt (zs.take (j + 1)) = if gx zs j = 0 then cnt (zs.take j) else cnt (zs.take j) + 1 := by
  rw [gx_mem zs j h, List.take_succ_eq_append_getElem h, cnt, List.foldl_append]
  rfl
theorem sl_take (zs : List Int) (j : Nat) (h : j < zs.length) : sl (zs.take (j + 1)) = sl (zs.take j) + zl (gx zs j) := by
  rw [gx_mem zs j h, List.take_succ_eq_append_getElem h, sl, List.foldl_append]
  rfl
theorem EN.zl {w : World} {K : Nat} {z : Int} {e : Ent} (h : EN w K z e) : e.n = zl z ∧ zl z ≤ K := by
  obtain ⟨xs, h1, rfl, h3, h4, h5⟩ := h
  obtain ⟨q1, q2, q3⟩ := nbits_len h1.u
  rw [nbits_zb (s := e.s) h1.u] at q1
  have : Go.Proofs.YtejnhpjejcpekaaGreatDoor.zl (ival e.s xs) = e.n := by unfold Go.Proofs.YtejnhpjejcpekaaGreatDoor.zl; omega
  exact ⟨this.symm, by omega⟩
set_option maxRecDepth 100000 in
theorem weigh_any {B : Nat} {w : World} {K : Nat} {p : Option Addr} {n : Nat} {es : List Ent} {zs : List Int} (h : PB B w K p n es zs) (hn : n ≤ 1000000) (hK : K ≤ 1000) :
    Calls Tryz.prog 286 #[.slice p n n] w fun r w' => r = .returned (.tuple #[.int .i64 (cnt zs), .int .i64 (sl zs)]) ∧ cnt zs ≤ n ∧ sl zs ≤ n * K ∧ Below w.heap.size w w' := by
  have hel := h.el
  have hzl := h.zl
  go_enter Tryz.func286, Tryz.ntmps286
  go_wp2_with fail
  go_loopw [4, 5, 7, 10] (fun nv sv cv kv wr => ∃ j : Nat, j ≤ n ∧ kv = .int .i64 j ∧ nv = .int .i64 (cnt (zs.take j)) ∧ sv = .int .i64 (sl (zs.take j)) ∧ Hid (cnt (zs.take j) ≤ j ∧ sl (zs.take j) ≤ j * K ∧ Below w.heap.size w wr)) (fun _ _ _ kv _ => n - (intOf kv).toNat)
  case atStart => exact ⟨0, Nat.zero_le _, by go_num, by simp [cnt], by simp [sl], by simp [cnt], by simp [sl], Below.refl _ _⟩
  case round =>
    obtain ⟨j, hj, rfl, rfl, rfl, H⟩ := hrel
    rcases Nat.lt_or_ge j n with hlt | hge
    · have hh := h.below H.out.2.2
      have hv := hh.ev j hlt
      obtain ⟨b, o, hp, hc⟩ := hh.pl (by omega)
      subst hp
      obtain ⟨c0, c1⟩ := hc j (by omega)
      obtain ⟨z1, z2⟩ := hv.zl
      have HT : Hid (cnt (zs.take (j + 1)) = (if gx zs j = 0 then cnt (zs.take j) else cnt (zs.take j) + 1)) := cnt_take zs j (by omega)
      have HS : Hid (sl (zs.take (j + 1)) = sl (zs.take j) + zl (gx zs j)) := sl_take zs j (by omega)
      have hjK : Hid (sl (zs.take j) + zl (gx zs j) ≤ (j + 1) * K) := by
        show _ ≤ _
        have := H.out.2.1
        rw [Nat.add_mul]
        omega
      have hle1 : cnt (zs.take j) ≤ 1000000 := by have := H.out.1; omega
      have hle2 : sl (zs.take j) ≤ 1000000000 := by
        have h1 := H.out.2.1
        have h2 : j * K ≤ 1000000 * 1000 := Nat.mul_le_mul (by omega) hK
        omega
      rw [z1] at c1
      have hvn : EV wr K (gx zs j) (ge es j) := hv.ev
      have v1 : IntKind.i64.wrap ((sl (zs.take j) : Int) + (zl (gx zs j) : Int)) = ((sl (zs.take (j + 1)) : Nat) : Int) := by rw [IntKind.wrap_i64, HS.out]; omega
      have v2 : IntKind.i64.wrap ((cnt (zs.take j) : Int) + 1) = (cnt (zs.take j) : Int) + 1 := by rw [IntKind.wrap_i64]; omega
      clear hc hh hv
      have HB0 : Hid (Below w.heap.size w wr) := H.out.2.2
      have HC : Hid (cnt (zs.take j) ≤ j) := H.out.1
      go_wp2_with fail
      have hal := bel_al (o := .cells #[.bool (ge es j).s, .slice (ge es j).p (zl (gx zs j)) (ge es j).c] 26) (Below.refl wr.heap.size wr)
      have hz0 := isZero_any (hvn.below hal)
      rw [z1] at hz0
      refine hz0.mono ?_
      rintro e w1 ⟨rfl, hb1⟩
      have hB := bnext' HB0.out (bnext' hal hb1)
      have hcs : Hid (gx zs j = 0 ∨ ¬ gx zs j = 0) := Classical.em _
      clear hz0 c0 c1 hvn hal hb1 H
      rcases hcs.out with hz | hz
      · rw [decide_eq_true hz]
        have HE : Hid (cnt (zs.take (j + 1)) = cnt (zs.take j)) := by show _ = _; rw [HT.out, if_pos hz]
        clear hz hcs
        go_wp2
        go_roundw
        case rel => exact ⟨j + 1, by omega, by go_num, by rw [HE.out], rfl, by rw [HE.out]; have := HC.out; omega, by rw [HS.out]; exact hjK.out, hB⟩
        case measure => simp [intOf]; omega
      · rw [decide_eq_false hz]
        have HE : Hid (cnt (zs.take (j + 1)) = cnt (zs.take j) + 1) := by show _ = _; rw [HT.out, if_neg hz]
        clear hz hcs
        go_wp2
        go_roundw
        case rel => exact ⟨j + 1, by omega, by go_num, by rw [HE.out]; rfl, rfl, by rw [HE.out]; have := HC.out; omega, by rw [HS.out]; exact hjK.out, hB⟩
        case measure => simp [intOf]; omega
    · obtain rfl : j = n := by omega
      have HT : Hid (zs.take j = zs) := List.take_of_length_le (by omega)
      clear hge
      go_wp2
      go_ret2
      obtain ⟨h1, h2, h3⟩ := H.out
      rw [HT.out] at h1 h2
      exact ⟨by rw [HT.out]; rfl, h1, h2, h3⟩
theorem pb_trim (zs : List Int) : pb (tr zs) = pb zs := by
  have step : ∀ j, tlen zs ≤ j → j ≤ zs.length → pb (zs.take j) = pb (tr zs) := by
    intro j
    induction j with
    | zero => intro h1 _; have : tlen zs = 0 := by omega
              rw [tr, this]
    | succ j ih =>
      intro h1 h2
      rcases Nat.lt_or_ge j (tlen zs) with h | h
      · have : tlen zs = j + 1 := by omega
        rw [tr, this]
      · rw [pb_take zs j (by omega), ih h (by omega), tlen_zero zs j h, show zb 0 = 0 from rfl, Nat.max_zero]
  have := step zs.length (tlen_le zs) (Nat.le_refl _)
  rw [List.take_length] at this
  exact this.symm
theorem pb_few {w : World} {K : Nat} {p : Option Addr} {n nc : Nat} {es : List Ent} {zs : List Int} (h : PA w K p n nc es zs) : pb zs ≤ 32 * K := by
  have key : ∀ j, j ≤ zs.length → pb (zs.take j) ≤ 32 * K := by
    intro j
    induction j with
    | zero => intro _; simp [pb]
    | succ j ih =>
      intro hj
      rw [pb_take zs j (by omega)]
      have h1 := ih (by omega)
      have h2 := zb_le (h.ev j (by have := h.zl; omega))
      omega
  have := key zs.length (Nat.le_refl _)
  rw [List.take_length] at this
  exact this
theorem pb_le_of (zs : List Int) (K : Nat) (h : ∀ j, j < zs.length → zb (gx zs j) ≤ K) : ∀ j, j ≤ zs.length → pb (zs.take j) ≤ K
  | 0, _ => by simp [pb]
  | j + 1, hj => by
    rw [pb_take zs j (by omega)]
    have := pb_le_of zs K h j (by omega)
    have := h j (by omega)
    omega
open Go.Shelf
def renLen : Go.Shelf.Ren := ⟨fun | 125 => 281 | 128 => 132 | 129 => 326 | n => n, fun | 3 => 3 | 4 => 4 | 5 => 5 | 9 => 9 | 46 => 228 | 51 => 88 | 53 => 204 | n => n, fun n => n⟩
theorem laysLen : Lays.n125 Tryz.prog renLen :=
  { mixed := by kernel_rfl
    f125 := by kernel_rfl
    f128 := by kernel_rfl
    f129 := by kernel_rfl
    t3 := by kernel_rfl
    a3 := fun _ => by kernel_rfl
    z3 := fun _ => by kernel_rfl
    v3 := fun _ => by kernel_rfl
    t4 := by kernel_rfl
    a4 := fun _ => by kernel_rfl
    z4 := fun _ => by kernel_rfl
    v4 := fun _ => by kernel_rfl
    t5 := by kernel_rfl
    a5 := fun _ => by kernel_rfl
    z5 := fun _ => by kernel_rfl
    v5 := fun _ => by kernel_rfl
    t9 := by kernel_rfl
    a9 := fun _ => by kernel_rfl
    z9 := fun _ => by kernel_rfl
    v9 := fun _ => by kernel_rfl
    t46 := by kernel_rfl
    a46 := fun _ => by kernel_rfl
    z46 := fun _ => by kernel_rfl
    v46 := fun _ => by kernel_rfl
    t51 := by kernel_rfl
    a51 := fun _ => by kernel_rfl
    z51 := fun _ => by kernel_rfl
    v51 := fun _ => by kernel_rfl
    t53 := by kernel_rfl
    a53 := fun _ => by kernel_rfl
    z53 := fun _ => by kernel_rfl
    v53 := fun _ => by kernel_rfl }
theorem Len_any (x : Int) (w : World) (h0 : 0 ≤ x) (h1 : x ≤ 18446744073709551615) :
    Calls Tryz.prog 281 #[.int .u64 x] w fun e w' => e = .returned (.int .i64 (Lib.bitLen x.toNat)) ∧ w' = w := Any.bits_Len laysLen x w h0 h1
set_option maxRecDepth 100000 in
theorem rowsCost_any {B C : Nat} {w : World} {K L : Nat} {p q : Option Addr} {n m : Nat} {es fs : List Ent} {zs ys : List Int} (h : PB B w K p n es zs) (k : PB C w L q m fs ys) (hn : n ≤ 1000000) (hm : m ≤ 1000000) (hK : K ≤ 1000) (hL : L ≤ 1000) :
    Calls Tryz.prog 221 #[.slice p n n, .slice q m m] w fun r w' => r = .returned (.int .i64 ((sl zs * sl ys + 80 * cnt zs * cnt ys : Nat) : Int)) ∧ Below w.heap.size w w' := by
  go_enter Tryz.func221, Tryz.ntmps221
  go_wp2_with fail
  refine (weigh_any h hn hK).mono ?_
  rintro e w1 ⟨rfl, c1, s1, hb1⟩
  go_wp2_with fail
  refine (weigh_any (k.below hb1) hm hL).mono ?_
  rintro e w2 ⟨rfl, c2, s2, hb2⟩
  have a1 : n * K ≤ 1000000 * 1000 := Nat.mul_le_mul hn hK
  have a2 : m * L ≤ 1000000 * 1000 := Nat.mul_le_mul hm hL
  have a3 : sl zs * sl ys ≤ 1000000000 * 1000000000 := Nat.mul_le_mul (by omega) (by omega)
  have a4 : cnt zs * cnt ys ≤ 1000000 * 1000000 := Nat.mul_le_mul (by omega) (by omega)
  have e1 : 80 * cnt zs * cnt ys = 80 * (cnt zs * cnt ys) := Nat.mul_assoc _ _ _
  have v1 : IntKind.i64.wrap ((sl zs : Int) * (sl ys : Int)) = ((sl zs * sl ys : Nat) : Int) := by rw [IntKind.wrap_i64]; push_cast; rw [← Int.natCast_mul]; omega
  have v2 : IntKind.i64.wrap (80 * (cnt zs : Int)) = 80 * (cnt zs : Int) := by rw [IntKind.wrap_i64]; omega
  have v3 : IntKind.i64.wrap (80 * (cnt zs : Int) * (cnt ys : Int)) = ((80 * cnt zs * cnt ys : Nat) : Int) := by rw [IntKind.wrap_i64]; push_cast; rw [Int.mul_assoc, ← Int.natCast_mul]; omega
  have v4 : IntKind.i64.wrap (((sl zs * sl ys : Nat) : Int) + ((80 * cnt zs * cnt ys : Nat) : Int)) = ((sl zs * sl ys + 80 * cnt zs * cnt ys : Nat) : Int) := by rw [IntKind.wrap_i64]; omega
  have HF : Hid (((sl zs * sl ys + 80 * cnt zs * cnt ys : Nat) : Int) = (sl zs : Int) * (sl ys : Int) + 80 * ((cnt zs : Int) * (cnt ys : Int))) := by
    show _ = _
    push_cast
    rw [Int.mul_assoc]
  go_wp2
  go_ret
  exact ⟨by rw [HF.out]; rfl, bnext' hb1 hb2⟩
def wd (zs ys : List Int) : Nat := (pb zs + pb ys + Lib.bitLen (min zs.length ys.length)) / 32 + 1
theorem bitLen_le (x : Nat) : Lib.bitLen x ≤ 64 := bitLenAux_le 64 x
set_option maxRecDepth 100000 in
theorem digitWidth_any {w : World} {K L : Nat} {p q : Option Addr} {n nc m mc : Nat} {es fs : List Ent} {zs ys : List Int} (h : PA w K p n nc es zs) (k : PA w L q m mc fs ys) (hn : n ≤ 1000000) (hm : m ≤ 1000000) (hK : K ≤ 1000) (hL : L ≤ 1000) :
    Calls Tryz.prog 220 #[.slice p n nc, .slice q m mc] w fun r w' => r = .returned (.int .i64 (wd zs ys)) ∧ Below w.heap.size w w' := by
  have HW : Hid (wd zs ys = (pb zs + pb ys + Lib.bitLen (min n m)) / 32 + 1) := by show _ = _; rw [wd, h.zl, k.zl]
  obtain ⟨M, hM1, hM2⟩ : ∃ M : Nat, min (n : Int) (m : Int) = (M : Int) ∧ M = min n m := ⟨min n m, by omega, rfl⟩
  have HM : Hid (M = min n m) := hM2
  have hM3 : M ≤ 1000000 := by omega
  have vM : IntKind.u64.wrap (M : Int) = (M : Int) := by rw [IntKind.wrap_u64]; omega
  have hbl := bitLen_le M
  clear hM2
  go_enter Tryz.func220, Tryz.ntmps220
  go_wp2_with fail
  refine (uBits_any h hn hK).mono ?_
  rintro e w1 ⟨rfl, l1, hb1⟩
  go_wp2_with fail
  refine (uBits_any (k.below hb1) hm hL).mono ?_
  rintro e w2 ⟨rfl, l2, hb2⟩
  have v1 : IntKind.i64.wrap ((pb zs : Int) + (pb ys : Int)) = (pb zs : Int) + (pb ys : Int) := by rw [IntKind.wrap_i64]; omega
  go_wp2_with fail
  have hle := Len_any (M : Int) w2 (by omega) (by omega)
  rw [Int.toNat_natCast] at hle
  refine hle.mono ?_
  rintro e w3 ⟨rfl, rfl⟩
  clear hle
  have HW2 : Hid (wd zs ys = (pb zs + pb ys + Lib.bitLen M) / 32 + 1) := by show _ = _; rw [HW.out, HM.out]
  clear HW
  generalize Lib.bitLen M = bl at *
  have v2 : IntKind.i64.wrap ((pb zs : Int) + (pb ys : Int) + (bl : Int)) = (pb zs : Int) + (pb ys : Int) + (bl : Int) := by rw [IntKind.wrap_i64]; omega
  have v3 : ((pb zs : Int) + (pb ys : Int) + (bl : Int)).tdiv 32 = (((pb zs + pb ys + bl) / 32 : Nat) : Int) := by rw [Int.tdiv_eq_ediv_of_nonneg (by omega)]; omega
  have v4 : IntKind.i64.wrap (((pb zs + pb ys + bl) / 32 : Nat) : Int) = (((pb zs + pb ys + bl) / 32 : Nat) : Int) := by rw [IntKind.wrap_i64]; omega
  have v5 : IntKind.i64.wrap ((((pb zs + pb ys + bl) / 32 : Nat) : Int) + 1) = (((pb zs + pb ys + bl) / 32 : Nat) : Int) + 1 := by rw [IntKind.wrap_i64]; omega
  go_wp2
  go_ret
  exact ⟨by rw [HW2.out, Int.natCast_add]; rfl, bnext' hb1 hb2⟩
end Go.Proofs.YtejnhpjejcpekaaGreatDoor
