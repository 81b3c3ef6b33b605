/-
  Eq's regions within a fence (in a round of a range over a function).
-/
import Derived.Test.YtejnhpjejcpekaaGreatDoorDyEoEq
import Derived.OrdersIn
import Derived.CallsIn
import Derived.Test.YtejnhpjejcpekaaGreatDoorUlUmVsUoDmVtAfBpBnBoAh
import Derived.Test.YtejnhpjejcpekaaGreatDoorAdBsDtAgWvUh
import Derived.Test.YtejnhpjejcpekaaGreatDoorUiVqDcUj
import Derived.Test.YtejnhpjejcpekaaGreatDoorVbDaCxRbCyViDsAeVuWxUpUqRmRpDkDlDbRiRjRgRk
import Derived.Deep.DeepFit
import Derived.Test.YtejnhpjejcpekaaGreatDoorRaWmBeRdLnWrIbWg
import Derived.Test.YtejnhpjejcpekaaGreatDoorLeUkWiWj
import Derived.Test.YtejnhpjejcpekaaGreatDoorUaVgOnWhPn
import Derived.Test.YtejnhpjejcpekaaGreatDoorWkWlBxBbCvNjUbUcUdOw
namespace Go.Proofs.YtejnhpjejcpekaaGreatDoor
open Go.RowKit
set_option linter.unusedVariables false
set_option linter.unusedSimpArgs false
set_option maxHeartbeats 8000000
theorem wpAnyIn_invB {F : Fence} {n : Nat} {P : Program} {ops : Array Oper} {Q : Exit → Act → World → Prop} (I : Array Bool → Act → World → Prop) (ha : aheadB ops = true)
    (hend : ∀ listed a w, I listed a w → (∀ j, j < ops.size → listed.getD j true = true) → Q .normal a w)
    (hstep : ∀ listed a w, I listed a w → ∀ i o, ops[i]? = some o → listed.getD i true = false → (∀ e ∈ o.after, Region.binds .any e = true → listed.getD e.on false = true) → wpOpIn F n P ops Q i (fun a' w' => I (listed.setIfInBounds i true) a' w') a w) :
    ∀ (fuel : Nat) (listed : Array Bool) (a : Act) (w : World), listed.toList.count false ≤ fuel → I listed a w → wpAnyIn F n P .any ops Q fuel listed a w := by
  intro fuel
  induction fuel with
  | zero =>
    intro listed a w hc hI
    have hr : Region.ready .any ops listed = [] := by
      rw [List.eq_nil_iff_forall_not_mem]
      intro j hj
      have h1 := count_down (mem_ready.1 hj).1
      omega
    exact ⟨hr, hend _ _ _ hI (all_listedB ha hr)⟩
  | succ fuel ih =>
    intro listed a w hc hI
    refine ⟨fun hr => hend _ _ _ hI (all_listedB ha hr), fun i hi => ?_⟩
    obtain ⟨h0, o, ho, hd⟩ := mem_ready.1 hi
    exact wpOpIn_mono (fun a' w' h => ih _ _ _ (by have := count_down h0; omega) h) (hstep _ _ _ hI i o ho h0 hd)
theorem regionIn_invB {F : Fence} {n : Nat} {P : Program} {ops : Array Oper} {Q : Exit → Act → World → Prop} {id : Nat} {a : Act} {w : World} (hm : P.follows .mixedOrders = true) (I : Array Bool → Act → World → Prop) (ha : aheadB ops = true)
    (hend : ∀ listed a w, I listed a w → (∀ j, j < ops.size → listed.getD j true = true) → Q .normal a w)
    (hstep : ∀ listed a w, I listed a w → ∀ i o, ops[i]? = some o → listed.getD i true = false → (∀ e ∈ o.after, Region.binds .any e = true → listed.getD e.on false = true) → wpOpIn F n P ops Q i (fun a' w' => I (listed.setIfInBounds i true) a' w') a w)
    (h : I (Array.replicate ops.size false) a { w with drawn := w.drawn + 1 }) : (Code.region id ops true).wpIn F n P Q a w :=
  wpIn_region_any hm (wpAnyIn_invB I ha hend hstep _ _ _ _ (by simp) h)
def EndsDIn (F : Fence) (n : Nat) (P : Program) (Q : Exit → Act → World → Prop) (ops : Array Oper) (N : Nat) (a : Act) (w : World) : Prop := match ops[N]? with
  | none => Q .normal a w
  | some o => o.wpIn F n P a w (fun a' w' => Q .normal a' w') Q
structure EndsIn (F : Fence) (n : Nat) (P : Program) (Q : Exit → Act → World → Prop) (ops : Array Oper) (N : Nat) (a : Act) (w : World) : Prop where
  out : EndsDIn F n P Q ops N a w
theorem endsIn_some {F : Fence} {n : Nat} {P : Program} {Q : Exit → Act → World → Prop} {ops : Array Oper} {N : Nat} {a : Act} {w : World} {o : Oper} (h : ops[N]? = some o) (k : o.wpIn F n P a w (fun a' w' => Q .normal a' w') Q) : EndsIn F n P Q ops N a w := by
  refine ⟨?_⟩
  rw [EndsDIn, h]
  exact k
def StepXIn (F : Fence) (n : Nat) (P : Program) (Q : Exit → Act → World → Prop) (W : World) (ops : Array Oper) (t0 : Array Value) (dl : List (Nat × Nat)) (al : List Nat) (ans : List Ax) (i : Nat) (o : Oper) : Prop :=
  ∀ (a : Act) (w : World) (X : Nat → Prop), SeesX ops dl al ans t0 i W X a.eval w → o.wpIn F n P a w (fun a' w' => ∃ v, a' = a.put o.dst v ∧ (ans.getD i default).is X v w' ∧ Below w.heap.size w w' ∧ (al.contains i = true → v = .pointer (some ⟨w.heap.size, 0, none⟩) ∧ w.heap.size < w'.heap.size)) Q
theorem regionIn_openX {F : Fence} {n : Nat} {P : Program} {ops : Array Oper} {Q : Exit → Act → World → Prop} {id : Nat} {a0 : Act} {W : World} (N : Nat) (dl : List (Nat × Nat)) (al : List Nat) (gl : List (Nat × Bool)) (ans : List Ax) (hm : P.follows .mixedOrders = true) (ha : aheadB ops = true) (hop : opsFitG ops dl gl N = true) (hgl : allG ans gl) (hl : lastFit ops N = true) (hf : (dl.map Prod.fst).Nodup) (hs : (dl.map Prod.snd).Nodup) (hz : (dl.all fun x => decide (x.2 < a0.tmps.size) && decide (x.1 < N)) = true)
    (hstep : allUpto (StepXIn F n P Q W ops a0.tmps dl al ans) N 0 ops.toList)
    (hend : ∀ (vals : Nat → Value) (w : World), Below W.heap.size W w → (∀ x ∈ dl, (ans.getD x.1 default).is (XA dl al vals x.1) (vals x.1) w) → EndsIn F n P Q ops N ⟨dl.foldl (fun t x => t.setIfInBounds x.2 (vals x.1)) a0.tmps, a0.defers⟩ w) : (Code.region id ops true).wpIn F n P Q a0 W := by
  have hz' : ∀ x ∈ dl, x.2 < a0.tmps.size ∧ x.1 < N := fun x hx => by simpa using List.all_eq_true.1 hz x hx
  have hNs : N ≤ ops.size := by
    unfold lastFit at hl
    simp only [Bool.or_eq_true, Bool.and_eq_true, decide_eq_true_eq] at hl
    omega
  have hNu : ops.size ≤ N + 1 := by
    unfold lastFit at hl
    simp only [Bool.or_eq_true, Bool.and_eq_true, decide_eq_true_eq] at hl
    omega
  have hall : ∀ (listed : Array Bool) (vals : Nat → Value) (l : List (Nat × Nat)) (t : Array Value), (∀ x ∈ l, listed.getD x.1 false = true) → lay listed vals l t = l.foldl (fun t x => t.setIfInBounds x.2 (vals x.1)) t := by
    intro listed vals l
    induction l with
    | nil => intro t _; rfl
    | cons x l ih =>
      intro t h
      obtain ⟨i, d⟩ := x
      rw [lay, if_pos (h (i, d) (by simp)), ih _ fun y hy => h y (by simp [hy])]
      rfl
  have tf : ∀ {l : Array Bool} {i : Nat}, i < l.size → l.getD i true = l.getD i false := fun {l i} hi => by simp [hi]
  have hin : ∀ {i : Nat} {o : Oper}, ops[i]? = some o → i < ops.size := fun ho => (Array.getElem?_eq_some_iff.1 ho).1
  have hxa : ∀ (listed : Array Bool) (vals : Nat → Value) (i b : Nat), XA dl al vals i b → (∀ x ∈ dl, listed.getD x.1 false = true) → XS dl al listed vals i b := fun listed vals i b ⟨y, h1, h2, h3, h4⟩ h => ⟨y, h1, h2, h y h1, h3, h4⟩
  refine regionIn_invB hm (fun listed a w => listed.size = ops.size ∧ (∀ i o, ops[i]? = some o → listed.getD i false = true → ∀ e ∈ o.after, Region.binds .any e = true → listed.getD e.on false = true) ∧ (if listed.getD N false = true then Q .normal a w else Below W.heap.size W w ∧ ∃ vals, a = ⟨lay listed vals dl a0.tmps, a0.defers⟩ ∧ (∀ x ∈ dl, listed.getD x.1 false = true → (ans.getD x.1 default).is (XS dl al listed vals x.1) (vals x.1) w) ∧ ∀ x ∈ dl, listed.getD x.1 false = true → al.contains x.1 = true → ∃ b, vals x.1 = .pointer (some ⟨b, 0, none⟩) ∧ W.heap.size ≤ b ∧ b < w.heap.size)) ha ?_ ?_ ?_
  · rintro listed a w ⟨h1, h2, h3⟩ hlst
    split at h3
    · exact h3
    · rename_i hn
      have hsz : ops.size = N := by
        rcases Nat.lt_or_ge N ops.size with h | h
        · exact absurd (by rw [← tf (by omega)]; exact hlst N h) hn
        · omega
      obtain ⟨hb, vals, rfl, hv, hva⟩ := h3
      have h5 : ∀ x ∈ dl, listed.getD x.1 false = true := fun x hx => by
        rw [← tf (by have := (hz' x hx).2; omega)]
        exact hlst x.1 (by have := (hz' x hx).2; omega)
      have := (hend vals w hb fun x hx => (ans.getD x.1 default).sub (hv x hx (h5 x hx)) fun b hb' => hxa listed vals x.1 b hb' h5).out
      rw [EndsDIn, Array.getElem?_eq_none (by omega)] at this
      rw [hall listed vals dl _ h5]
      exact this
  · rintro listed a w ⟨h1, h2, h3⟩ i o ho hi hdep
    have hi' : listed.getD i false = false := by rw [← tf (by rw [h1]; exact hin ho)]; exact hi
    have hlN : ∀ j, j < N → ops.size = N + 1 → waits ops N j = true := fun j hj hsz => by
      unfold lastFit at hl
      simp only [Bool.or_eq_true, Bool.and_eq_true, decide_eq_true_eq] at hl
      rcases hl with h | ⟨_, h⟩
      · omega
      · exact List.all_eq_true.1 h j (List.mem_range.2 hj)
    have hNn : listed.getD N false = false := by
      cases hc : listed.getD N false with
      | false => rfl
      | true =>
        exfalso
        have hNlt : N < ops.size := by
          rcases Nat.lt_or_ge N ops.size with h | h
          · exact h
          · simp [Array.getElem?_eq_none (show listed.size ≤ N by omega)] at hc
        rcases Nat.lt_or_ge i N with h | h
        · obtain ⟨o', ho', e, he, h4, h5⟩ := waits_at (hlN i h (by omega))
          have := h2 N o' ho' hc e he h5
          rw [h4, hi'] at this
          cases this
        · have := hin ho
          obtain rfl : i = N := by omega
          rw [hi'] at hc
          cases hc
    have hne : ∀ x : Nat, listed.getD x false = true → x ≠ i := fun x hx e => by
      rw [e, hi'] at hx
      cases hx
    have hcl : ∀ k o', ops[k]? = some o' → (listed.setIfInBounds i true).getD k false = true → ∀ e ∈ o'.after, Region.binds .any e = true → (listed.setIfInBounds i true).getD e.on false = true := by
      intro k o' ho' hk e he hbn
      have hup : ∀ x, listed.getD x false = true → (listed.setIfInBounds i true).getD x false = true := fun x hx => by
        have hxi := hne x hx
        simpa [Array.getElem?_setIfInBounds, Ne.symm hxi] using hx
      by_cases hki : k = i
      · subst hki
        rw [ho] at ho'
        cases ho'
        exact hup _ (hdep e he hbn)
      · exact hup _ (h2 k o' ho' (by simpa [Array.getElem?_setIfInBounds, Ne.symm hki] using hk) e he hbn)
    rw [if_neg (by rw [hNn]; decide)] at h3
    obtain ⟨hb, vals, rfl, hv, hva⟩ := h3
    unfold wpOpIn
    simp only [ho]
    rcases Nat.lt_or_ge i N with hiN | hiN
    · obtain ⟨hg, d, hd, hmem⟩ := opsFitG_at hop i hiN o ho
      have hst := allUpto_at _ 0 hstep i o (by simpa using ho) (by omega)
      rw [Nat.zero_add] at hst
      have hdp : ∀ j e, (j, e) ∈ dl → waits ops i j = true → listed.getD j false = true ∧ (ans.getD j default).is (XS dl al listed vals j) ((lay listed vals dl a0.tmps).getD e undef) w := fun j e hje hw => by
        obtain ⟨o', ho', x, hx, hxj, hbn⟩ := waits_at hw
        rw [ho] at ho'
        cases ho'
        have hlj : listed.getD j false = true := by rw [← hxj]; exact hdep x hx hbn
        refine ⟨hlj, ?_⟩
        rw [lay_at listed vals j e hlj dl _ hs hje (hz' (j, e) hje).1]
        exact hv (j, e) hje hlj
      have hst' := hst ⟨lay listed vals dl a0.tmps, a0.defers⟩ w (XS dl al listed vals i) ⟨hb, fun c ⟨y, g1, g2, g3, g4, g5⟩ => by
        obtain ⟨b, k1, k2, k3⟩ := hva y g1 g3 g4
        rw [g5] at k1
        cases k1
        exact ⟨k2, k3⟩, fun j e hje hw haj => (ans.getD j default).sub (hdp j e hje hw).2 fun b ⟨y, g1, g2, g3, g4, g5⟩ => ⟨y, g1, (fun ej => by rw [ej, haj] at g4; cases g4), g3, g4, g5⟩,
        fun j e hje hw => (ans.getD j default).sub (hdp j e hje hw).2 fun b hb' => False.elim hb', fun s hs' => lay_other listed vals s dl _ hs', fun s k hks hw => by
        obtain ⟨o', ho', x, hx, hxj, hbn⟩ := waits_at hw
        have hk : listed.getD k false = false := by
          cases hc : listed.getD k false with
          | false => rfl
          | true =>
            have := h2 k o' ho' hc x hx hbn
            rw [hxj, hi'] at this
            cases this
        exact lay_unlisted listed vals k s hk dl _ hs hks, fun _ => rfl, fun _ => rfl⟩
      have hw : Region.wanted o (yielded ops (lay listed vals dl a0.tmps)) = true := by
        rcases hg with hg | ⟨j, b, hg, hjb, hwj, hjN⟩
        · simp [Region.wanted, hg]
        · obtain ⟨oj, hoj⟩ : ∃ oj, ops[j]? = some oj := ⟨_, Array.getElem?_eq_getElem (by omega)⟩
          obtain ⟨-, dj, hdj, hmj⟩ := opsFitG_at hop j hjN oj hoj
          have h7 := allG_at hgl (j, b) hjb _ _ _ (hdp j dj hmj hwj).2
          have h8 : dj < (lay listed vals dl a0.tmps).size := by rw [lay_size]; exact (hz' (j, dj) hmj).1
          have h9 : (lay listed vals dl a0.tmps)[dj]? = some (.bool b) := by
            rw [Array.getElem?_eq_getElem h8]
            rw [Array.getD_eq_getD_getElem?, Array.getElem?_eq_getElem h8] at h7
            exact congrArg some h7
          simp [Region.wanted, hg, yielded, hoj, hdj, h9]
      rw [if_pos hw]
      refine (Oper.wpIn_mono (fun a' w' hh => ?_) hst')
      obtain ⟨v, rfl, hvv, hb', hal⟩ := hh
      refine ⟨by simpa using h1, hcl, ?_⟩
      have hNi : (listed.setIfInBounds i true).getD N false = false := by
        have : i ≠ N := by omega
        simpa [Array.getElem?_setIfInBounds, this] using hNn
      rw [if_neg (by rw [hNi]; decide)]
      have hlo : ∀ x : Nat, x ≠ i → (listed.setIfInBounds i true).getD x false = listed.getD x false := fun x hx => by simp [Array.getElem?_setIfInBounds, Ne.symm hx]
      -- what the set of variables becomes
      have hXo : ∀ x b, x ≠ i → XS dl al (listed.setIfInBounds i true) (fun k => if k = i then v else vals k) x b → XS dl al listed vals x b ∨ (al.contains i = true ∧ b = w.heap.size) := by
        rintro x b hxi ⟨y, g1, g2, g3, g4, g5⟩
        by_cases hyi : y.1 = i
        · right
          have ha' : al.contains i = true := by rw [← hyi]; exact g4
          simp only [hyi, if_true] at g5
          obtain ⟨e1, -⟩ := hal ha'
          rw [e1] at g5
          cases g5
          exact ⟨ha', rfl⟩
        · left
          rw [hlo y.1 hyi] at g3
          simp only [hyi, if_false] at g5
          exact ⟨y, g1, g2, g3, g4, g5⟩
      have hXi : ∀ b, XS dl al (listed.setIfInBounds i true) (fun k => if k = i then v else vals k) i b → XS dl al listed vals i b := by
        rintro b ⟨y, g1, g2, g3, g4, g5⟩
        rw [hlo y.1 g2] at g3
        simp only [g2, if_false] at g5
        exact ⟨y, g1, g2, g3, g4, g5⟩
      refine ⟨hb.trans (hb'.mono hb.size), fun k => if k = i then v else vals k, ?_, fun x hx hl' => ?_, fun x hx hl' hal' => ?_⟩
      · rw [lay_put listed vals i d v hi dl _ hf hs hmem, hd]
        rfl
      · by_cases hxi : x.1 = i
        · show (ans.getD x.1 default).is _ (if x.1 = i then v else vals x.1) w'
          rw [if_pos hxi, hxi]
          exact (ans.getD i default).sub hvv hXi
        · show (ans.getD x.1 default).is _ (if x.1 = i then v else vals x.1) w'
          rw [if_neg hxi]
          have hl'' : listed.getD x.1 false = true := by rw [← hlo x.1 hxi]; exact hl'
          refine (ans.getD x.1 default).sub ((ans.getD x.1 default).later ((ans.getD x.1 default).add (hv x hx hl'') (Nat.le_refl w.heap.size)) hb') fun b hX => ?_
          rcases hXo x.1 b hxi hX with h | ⟨-, h⟩
          · exact .inl h
          · exact .inr h
      · by_cases hxi : x.1 = i
        · show ∃ b, (if x.1 = i then v else vals x.1) = _ ∧ _
          rw [if_pos hxi]
          obtain ⟨e1, e2⟩ := hal (by rw [← hxi]; exact hal')
          exact ⟨w.heap.size, e1, hb.size, e2⟩
        · show ∃ b, (if x.1 = i then v else vals x.1) = _ ∧ _
          rw [if_neg hxi]
          obtain ⟨b, k1, k2, k3⟩ := hva x hx (by rw [← hlo x.1 hxi]; exact hl') hal'
          exact ⟨b, k1, k2, Nat.lt_of_lt_of_le k3 hb'.size⟩
    · have := hin ho
      obtain rfl : i = N := by omega
      have hg : o.guard = none := by
        unfold lastFit at hl
        simp only [Bool.or_eq_true, Bool.and_eq_true, decide_eq_true_eq] at hl
        rcases hl with h | ⟨⟨_, h⟩, _⟩
        · omega
        · simpa [ho] using h
      have h5 : ∀ x ∈ dl, listed.getD x.1 false = true := fun x hx => by
        obtain ⟨o', ho', e, he, h6, h7⟩ := waits_at (hlN x.1 (hz' x hx).2 (by omega))
        rw [ho] at ho'
        cases ho'
        rw [← h6]
        exact hdep e he h7
      have he := (hend vals w hb fun x hx => (ans.getD x.1 default).sub (hv x hx (h5 x hx)) fun b hb' => hxa listed vals x.1 b hb' h5).out
      rw [EndsDIn, ho] at he
      have hw : Region.wanted o (yielded ops (lay listed vals dl a0.tmps)) = true := by simp [Region.wanted, hg]
      rw [if_pos hw, hall listed vals dl _ h5]
      refine (Oper.wpIn_mono (fun a' w' hh => ?_) he)
      refine ⟨by simpa using h1, hcl, ?_⟩
      have : (listed.setIfInBounds i true).getD i false = true := by simp [h1, hin ho]
      rw [if_pos this]
      exact hh
  · have hno : ∀ j, (Array.replicate ops.size false).getD j false = false := fun j => by
      simp [Array.getElem?_replicate]
      split <;> simp
    refine ⟨by simp, fun i o ho h => ?_, ?_⟩
    · rw [hno] at h
      cases h
    · rw [if_neg (by rw [hno]; decide)]
      refine ⟨⟨rfl, rfl, rfl, Nat.le_refl _, fun _ _ => rfl⟩, fun _ => undef, ?_, fun x hx hl' => ?_, fun x hx hl' => ?_⟩
      · have hnone : ∀ (l : List (Nat × Nat)) (t : Array Value), lay (Array.replicate ops.size false) (fun _ => undef) l t = t := by
          intro l
          induction l with
          | nil => intro t; rfl
          | cons x l ih =>
            intro t
            obtain ⟨i, e⟩ := x
            rw [lay, if_neg (by rw [hno]; decide), ih]
        rw [hnone]
      · rw [hno] at hl'
        cases hl'
      · rw [hno] at hl'
        cases hl'
section
variable {F : Fence} {n : Nat} {P : Program} {Q : Exit → Act → World → Prop} {W : World} {ops : Array Oper} {t0 : Array Value} {dl : List (Nat × Nat)} {al : List Nat} {ans : List Ax} {i : Nat} {o : Oper}
theorem oxi_pure (hF : ∀ f, F.fn f) (hna : al.contains i = false) (hrun : ∀ (X : Nat → Prop) (ρ : Operand → Value) (v : World), SeesX ops dl al ans t0 i W X ρ v → ∃ u, (o.semAt F.round ρ).run P v = .ok (.value u) v ∧ (ans.getD i default).is X u v) : StepXIn F n P Q W ops t0 dl al ans i o := by
  intro a v X R
  obtain ⟨u, h1, h2⟩ := hrun X a.eval v R
  refine ⟨fun f _ => hF f, ?_⟩
  rw [h1]
  exact ⟨u, rfl, h2, Below.refl _ _, fun h => by rw [hna] at h; cases h⟩
theorem oxi_call (hF : ∀ f, F.fn f) (f : Nat) (hna : al.contains i = false) (hn : F.depth.isSome = true → 1 ≤ n) (hrun : ∀ (X : Nat → Prop) (ρ : Operand → Value) (v : World), SeesX ops dl al ans t0 i W X ρ v → ∃ args, (o.semAt F.round ρ).run P v = .ok (.enter f args) v ∧ CallsIn F (n - 1) P f args v fun e w' => ∃ u, e = .returned u ∧ (ans.getD i default).is X u w' ∧ Below v.heap.size v w') : StepXIn F n P Q W ops t0 dl al ans i o := by
  intro a v X R
  obtain ⟨args, h3, h4⟩ := hrun X a.eval v R
  refine ⟨fun f _ => hF f, ?_⟩
  rw [h3]
  refine ⟨hn, h4.mono ?_⟩
  rintro e w' ⟨u, rfl, hu, hb'⟩
  exact ⟨u, rfl, hu, hb', fun h => by rw [hna] at h; cases h⟩
end
theorem ps_past (zs ys : List Int) (t : Nat) : ∀ m, ps zs ys (zs.length + m) t = ps zs ys zs.length t
  | 0 => rfl
  | m + 1 => by rw [← Nat.add_assoc, ps_none zs ys _ t (gx_past zs _ (Nat.le_refl _) _ (by omega)), ps_past zs ys t m]
theorem ps_late (zs ys : List Int) (t : Nat) : ∀ m, ps zs ys (t + 1 + m) t = ps zs ys (t + 1) t
  | 0 => rfl
  | m + 1 => by
    rw [← Nat.add_assoc, ps, ps_late zs ys t m, if_neg (by omega), Int.add_zero]
theorem ps_nil (zs : List Int) (t : Nat) : ∀ i, ps zs [] i t = 0
  | 0 => rfl
  | i + 1 => by rw [ps, ps_nil zs t i]; simp [gx]
theorem gx_mulp (zs ys : List Int) (t : Nat) : gx (mulp zs ys) t = ps zs ys (t + 1) t := by
  have h0 : ps zs ys (t + 1) t = ps zs ys zs.length t := by
    have h1 := ps_late zs ys t (zs.length)
    have h2 := ps_past zs ys t (t + 1)
    rw [Nat.add_comm] at h2
    rw [← h1, h2]
  rw [h0, mulp]
  by_cases h : zs.length = 0 ∨ ys.length = 0
  · rw [if_pos h]
    rcases h with h | h
    · rw [h]; rfl
    · rw [List.eq_nil_of_length_eq_zero h, ps_nil]; rfl
  · rw [if_neg h]
    rcases Nat.lt_or_ge t (zs.length + ys.length - 1) with h1 | h1
    · rw [gx_mulz _ _ _ h1]
    · rw [gx_past _ (zs.length + ys.length - 1) (by rw [length_mulz]; exact Nat.le_refl _) t h1, ps_far zs ys t zs.length (by omega)]
def sq (f : Nat → Int) : Nat → Int
  | 0 => 0
  | n + 1 => sq f n + f n
theorem ps_sq (zs ys : List Int) (t : Nat) : ∀ n, n ≤ t + 1 → ps zs ys n t = sq (fun i => gx zs i * gx ys (t - i)) n
  | 0, _ => rfl
  | n + 1, h => by
    rw [ps, sq, ps_sq zs ys t n (by omega)]
    first | rw [if_pos (by omega)] | rw [if_neg (by omega)]
theorem gx_derz' (zs : List Int) (j : Nat) : gx (derz zs) j = ((j : Int) + 1) * gx zs (j + 1) := by
  rcases Nat.lt_or_ge j (zs.length - 1) with h | h
  · exact gx_derz zs j h
  · rw [gx_past _ (zs.length - 1) (by rw [length_derz]; exact Nat.le_refl _) j h, gx_past zs zs.length (Nat.le_refl _) (j + 1) (by omega), Int.mul_zero]
def co (a : Int) : List Int → Nat → Int
  | [], _ => 0
  | c :: cs, 0 => c + a * co a cs 0
  | c :: cs, j + 1 => co a cs j + a * co a cs (j + 1)
def hor (a : Int) : List Int → List Int
  | [] => []
  | c :: cs => (c + a * gx (hor a cs) 0) :: hor a cs
theorem length_hor (a : Int) : ∀ zs, (hor a zs).length = zs.length
  | [] => rfl
  | c :: cs => by simp [hor, length_hor a cs]
theorem gx_cons_zero (c : Int) (cs : List Int) : gx (c :: cs) 0 = c := by simp [gx]
theorem gx_cons_succ (c : Int) (cs : List Int) (j : Nat) : gx (c :: cs) (j + 1) = gx cs j := by simp [gx]
theorem gx_hor (a : Int) : ∀ (zs : List Int) (j : Nat), gx (hor a zs) j = gx zs j + a * gx (hor a zs) (j + 1)
  | [], j => by simp [hor, gx]
  | c :: cs, 0 => by rw [hor, gx_cons_zero, gx_cons_zero, gx_cons_succ]
  | c :: cs, j + 1 => by rw [hor, gx_cons_succ, gx_cons_succ, gx_cons_succ]; exact gx_hor a cs j
theorem co_hor (a : Int) : ∀ (cs : List Int) (c : Int), (∀ j, co a (c :: cs) (j + 1) = co a (hor a cs) j) ∧ co a (c :: cs) 0 = c + a * gx (hor a cs) 0
  | [], c => ⟨fun j => by simp [co, hor], by simp [co, hor, gx]⟩
  | d :: ds, c => by
    obtain ⟨h1, h2⟩ := co_hor a ds d
    have h0 : co a (d :: ds) 0 = gx (hor a (d :: ds)) 0 := by rw [h2, hor, gx_cons_zero]
    refine ⟨fun j => ?_, by rw [co, h0]⟩
    have e : co a (c :: d :: ds) (j + 1) = co a (d :: ds) j + a * co a (d :: ds) (j + 1) := rfl
    rw [e, h1, hor]
    cases j with
    | zero => rw [h2]; rfl
    | succ j => rw [h1]; rfl
def shr (a : Int) : Nat → List Int → List Int
  | 0, zs => zs
  | i + 1, zs => (shr a i zs).take i ++ hor a ((shr a i zs).drop i)
theorem length_shr (a : Int) (zs : List Int) : ∀ i, (shr a i zs).length = zs.length
  | 0 => rfl
  | i + 1 => by rw [shr, List.length_append, length_hor, List.length_take, List.length_drop, length_shr a zs i]; omega
theorem gx_app_lo (xs ys : List Int) (j : Nat) (h : j < xs.length) : gx (xs ++ ys) j = gx xs j := by simp [gx, List.getElem?_append_left h]
theorem gx_app_hi (xs ys : List Int) (j : Nat) : gx (xs ++ ys) (xs.length + j) = gx ys j := by
  simp [gx, List.getElem?_append_right]
theorem co_shr (a : Int) (zs : List Int) : ∀ i, i ≤ zs.length → (∀ j, j < i → gx (shr a i zs) j = co a zs j) ∧ (∀ j, co a ((shr a i zs).drop i) j = co a zs (i + j))
  | 0, _ => ⟨fun j hj => by omega, fun j => by rw [shr, List.drop_zero, Nat.zero_add]⟩
  | i + 1, h => by
    obtain ⟨h1, h2⟩ := co_shr a zs i (by omega)
    have hl := length_shr a zs i
    have hlt : ((shr a i zs).take i).length = i := by rw [List.length_take, hl]; omega
    obtain ⟨c, cs, hc⟩ : ∃ c cs, (shr a i zs).drop i = c :: cs := by
      cases hd : (shr a i zs).drop i with
      | nil => have := congrArg List.length hd; rw [List.length_drop, hl, List.length_nil] at this; omega
      | cons c cs => exact ⟨c, cs, rfl⟩
    obtain ⟨g1, g2⟩ := co_hor a cs c
    have hdrop : (shr a (i + 1) zs).drop (i + 1) = hor a cs := by
      rw [shr, hc, hor, List.drop_append, hlt, List.drop_eq_nil_of_le (by rw [hlt]; omega)]
      simp
    refine ⟨fun j hj => ?_, fun j => ?_⟩
    · rw [shr]
      rcases Nat.lt_or_ge j i with h3 | h3
      · rw [gx_app_lo _ _ _ (by omega), gx_take _ _ _ h3]
        exact h1 j h3
      · obtain rfl : j = i := by omega
        have h4 := gx_app_hi ((shr a j zs).take j) (hor a ((shr a j zs).drop j)) 0
        rw [hlt, Nat.add_zero] at h4
        rw [h4, hc, hor, gx_cons_zero, ← g2, ← hc, h2]
        rfl
    · rw [hdrop, ← g1, ← hc, h2]
      congr 1
      omega
theorem gx_shr_all (a : Int) (zs : List Int) (j : Nat) : gx (shr a zs.length zs) j = co a zs j := by
  obtain ⟨h1, h2⟩ := co_shr a zs zs.length (Nat.le_refl _)
  rcases Nat.lt_or_ge j zs.length with h | h
  · exact h1 j h
  · have h3 := h2 (j - zs.length)
    rw [List.drop_eq_nil_of_le (by rw [length_shr]; exact Nat.le_refl _), show zs.length + (j - zs.length) = j by omega] at h3
    rw [gx_past _ zs.length (by rw [length_shr]; exact Nat.le_refl _) j h, ← h3]
    rfl
theorem co_zero : ∀ (zs : List Int) (j : Nat), co 0 zs j = gx zs j
  | [], j => by simp [co, gx]
  | c :: cs, 0 => by rw [co, gx_cons_zero]; omega
  | c :: cs, j + 1 => by rw [co, gx_cons_succ, co_zero cs j]; omega
theorem co_past (a : Int) : ∀ (zs : List Int) (j : Nat), zs.length ≤ j → co a zs j = 0
  | [], _, _ => rfl
  | c :: cs, 0, h => by simp at h
  | c :: cs, j + 1, h => by
    simp only [List.length_cons] at h
    rw [co, co_past a cs j (by omega), co_past a cs (j + 1) (by omega)]
    omega
theorem co_top (a : Int) : ∀ (cs : List Int) (c : Int), co a (c :: cs) cs.length = gx (c :: cs) cs.length
  | [], c => by rw [List.length_nil, co, gx_cons_zero]; simp [co]
  | d :: ds, c => by
    rw [List.length_cons, co, gx_cons_succ, co_top a ds d, co_past a (d :: ds) (ds.length + 1) (by simp)]
    omega
theorem shr_top' (a : Int) (zs : List Int) (h : tlen zs = zs.length) : tlen (shr a zs.length zs) = zs.length := by
  refine tlen_eq _ _ (fun j hj => gx_past _ zs.length (by rw [length_shr]; exact Nat.le_refl _) j hj) ?_
  cases zs with
  | nil => exact .inl rfl
  | cons c cs =>
    refine .inr ?_
    rw [gx_shr_all, List.length_cons, Nat.add_sub_cancel, co_top]
    have h1 := tlen_top (c :: cs) (by rw [h]; simp)
    rw [h, List.length_cons, Nat.add_sub_cancel] at h1
    exact h1
def coz (a : Int) (zs : List Int) : List Int := tr ((List.range zs.length).map (co a zs))
theorem gx_coz (a : Int) (zs : List Int) (t : Nat) : gx (coz a zs) t = co a zs t := by
  rw [coz, gx_tr]
  rcases Nat.lt_or_ge t zs.length with h | h
  · rw [gx_mem _ _ (by simpa using h)]
    simp
  · rw [gx_past _ zs.length (by simp) t h, co_past a zs t h]
theorem coz_nrm (a : Int) (zs : List Int) : tlen (coz a zs) = (coz a zs).length := by rw [coz, tlen_tr, length_tr]
theorem coz_shr (a : Int) (zs : List Int) (h : tlen zs = zs.length) : coz a zs = shr a zs.length zs := by
  have h1 : tr (shr a zs.length zs) = shr a zs.length zs := by rw [tr, shr_top' a zs h]; exact List.take_of_length_le (by rw [length_shr]; exact Nat.le_refl _)
  rw [← h1, coz]
  refine tr_same fun t => ?_
  have h2 := gx_coz a zs t
  rw [coz, gx_tr] at h2
  rw [h2, gx_shr_all]
theorem co_lt {a : Int} {K L : Nat} (ha : (a.natAbs : Int) < pw L) : ∀ (zs : List Int), (∀ t, ((gx zs t).natAbs : Int) < pw K) → ∀ t, ((co a zs t).natAbs : Int) < pw (K + zs.length * (L + 1))
  | [], _, t => by simpa [co] using pw_pos _
  | c :: cs, h, t => by
    have ih := co_lt ha cs (fun j => by have := h (j + 1); rwa [gx_cons_succ] at this)
    have hB : pw K ≤ pw (K + cs.length * (L + 1)) := pw_mono (by omega)
    have e : K + (c :: cs).length * (L + 1) = K + cs.length * (L + 1) + L + 1 := by
      simp only [List.length_cons]
      rw [Nat.succ_mul]
      omega
    rw [e]
    generalize K + cs.length * (L + 1) = B at *
    have h1 : ∀ t, ((a * co a cs t).natAbs : Int) ≤ pw (B + L) := fun t => by
      rw [Int.natAbs_mul, pw_add, Int.mul_comm (pw B)]
      push_cast
      exact Int.mul_le_mul (Int.le_of_lt ha) (Int.le_of_lt (ih t)) (by omega) (Int.le_of_lt (pw_pos _))
    have h3 : pw B ≤ pw (B + L) := pw_mono (by omega)
    have h4 := pw_pos (B + L)
    rw [pw_succ]
    cases t with
    | zero =>
      have h2 := h 0
      rw [gx_cons_zero] at h2
      have h5 := h1 0
      show ((c + a * co a cs 0).natAbs : Int) < _
      omega
    | succ t =>
      have h2 := ih t
      have h5 := h1 (t + 1)
      show ((co a cs t + a * co a cs (t + 1)).natAbs : Int) < _
      omega
def dl (a : Int) : List Int → Nat → Int
  | [], _ => 0
  | c :: _, 0 => c
  | _ :: cs, t + 1 => a * dl a cs t
theorem dl_past (a : Int) : ∀ (zs : List Int) (t : Nat), zs.length ≤ t → dl a zs t = 0
  | [], _, _ => rfl
  | c :: cs, 0, h => by simp at h
  | c :: cs, t + 1, h => by
    rw [dl, dl_past a cs t (by simpa using h), Int.mul_zero]
theorem dl_pow (a : Int) : ∀ (zs : List Int) (t : Nat), dl a zs t = gx zs t * a ^ t
  | [], t => by simp [dl, gx]
  | c :: cs, 0 => by rw [dl, gx_cons_zero, Int.pow_zero, Int.mul_one]
  | c :: cs, t + 1 => by
    rw [dl, dl_pow a cs t, gx_cons_succ, Int.pow_succ]
    grind
def dlz (a : Int) (zs : List Int) : List Int := tr ((List.range zs.length).map (dl a zs))
theorem gx_dlz (a : Int) (zs : List Int) (t : Nat) : gx (dlz a zs) t = dl a zs t := by
  rw [dlz, gx_tr]
  rcases Nat.lt_or_ge t zs.length with h | h
  · rw [gx_mem _ _ (by simpa using h)]
    simp
  · rw [gx_past _ zs.length (by simp) t h, dl_past a zs t h]
theorem dlz_nrm (a : Int) (zs : List Int) : tlen (dlz a zs) = (dlz a zs).length := by rw [dlz, tlen_tr, length_tr]
theorem length_dlz (a : Int) (zs : List Int) : (dlz a zs).length ≤ zs.length := by
  rw [dlz, length_tr]
  refine Nat.le_trans (tlen_le _) ?_
  simp
theorem dl_lt {a : Int} {K L : Nat} (ha : (a.natAbs : Int) < pw L) : ∀ (zs : List Int), (∀ t, ((gx zs t).natAbs : Int) < pw K) → ∀ t, ((dl a zs t).natAbs : Int) < pw (K + zs.length * (L + 1))
  | [], _, t => by simpa [dl] using pw_pos _
  | c :: cs, h, 0 => by
    have h2 := h 0
    rw [gx_cons_zero] at h2
    rw [dl]
    exact Int.lt_of_lt_of_le h2 (pw_mono (by omega))
  | c :: cs, h, t + 1 => by
    have ih := dl_lt ha cs (fun j => by have := h (j + 1); rwa [gx_cons_succ] at this) t
    have e : K + (c :: cs).length * (L + 1) = L + (K + cs.length * (L + 1)) + 1 := by
      simp only [List.length_cons]
      rw [Nat.succ_mul]
      omega
    rw [e, dl, Int.natAbs_mul]
    generalize K + cs.length * (L + 1) = B at *
    push_cast
    have h1 : (a.natAbs : Int) * ((dl a cs t).natAbs : Int) ≤ pw L * pw B := Int.mul_le_mul (Int.le_of_lt ha) (Int.le_of_lt ih) (by omega) (Int.le_of_lt (pw_pos _))
    rw [← pw_add] at h1
    have h2 := pw_pos (L + B)
    rw [pw_succ]
    omega
open Go.Shelf
theorem and1_i64 (i : Nat) (hi : i < 9223372036854775808) : bits BinOp.and IntKind.i64 (i : Int) 1 = ((i % 2 : Nat) : Int) := by
  have h2 : (2 : Int) ^ 63 = 9223372036854775808 := by decide
  have h := bits_mask .i64 63 (by decide) (fun n h0 h1 => by rw [h2] at h1; rw [IntKind.wrap_i64]; omega) 1 (by decide) (i : Int) (by omega) (by rw [h2]; omega)
  rw [show ((2 : Int) ^ 1 - 1) = 1 by decide] at h
  rw [h]
  omega
theorem bit_of (e t : Nat) (he : e ≤ 1048576) : bits BinOp.and IntKind.i64 ((e : Int) / 2 ^ t) 1 = ((e / 2 ^ t % 2 : Nat) : Int) := by
  rw [← and1_i64 _ (by have := Nat.div_le_self e (2 ^ t); omega)]
  simp
theorem bit_step (e j : Nat) : e / 2 ^ j = 2 * (e / 2 ^ (j + 1)) + e / 2 ^ j % 2 := by
  rw [Nat.pow_succ, ← Nat.div_div_eq_div_mul]; omega
theorem lasts_NV (B K : Nat) : Lasts (fun w z e => NV B w K z e) := ⟨fun h hg hne => by
    obtain ⟨xs, h1, h2⟩ := h
    exact ⟨xs, ⟨h1.len, rd_grown h1.rd hg (by rw [h1.len]; exact hne), h1.u, h1.nrm, h1.sg, h1.pn, h1.v, h1.fr, h1.fz.kept hg (fun a ha => hne (Nat.pos_of_ne_zero fun h0 => by rw [h1.pn h0] at ha; cases ha) a ha)⟩, h2⟩, fun h hn => by
    obtain ⟨xs, h1, h2⟩ := h
    exact rd_lt h1.rd (by rw [h1.len]; exact hn)⟩
theorem Of_e (a : Int) (w : World) (h0 : -9223372036854775808 ≤ a) (h1 : a ≤ 9223372036854775807) : Calls Tryz.prog 136 #[.int .i64 a] w fun r w' => ∃ u : Ent, r = .returned (.agg #[.bool u.s, .slice u.p u.n u.c]) ∧ NV w.heap.size w' 2 a u ∧ Below w.heap.size w w' := by
  refine (Of_any a w h0 h1).mono ?_
  rintro e w' ⟨s', p', n', zs, rfl, g1, g2, g3⟩
  exact ⟨⟨s', p', n', n'⟩, rfl, ⟨zs, g1, rfl, g2⟩, g3⟩
end Go.Proofs.YtejnhpjejcpekaaGreatDoor
