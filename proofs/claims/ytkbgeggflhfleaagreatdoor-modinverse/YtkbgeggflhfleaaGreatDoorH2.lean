/-
  The runner with a table of known calls, and what its runs say.
-/
import Derived.Test.YtkbgeggflhfleaaGreatDoorH1
namespace Go.Proofs.YtkbgeggflhfleaaGreatDoor.Ev
open Go.RowKit
noncomputable section
abbrev Tab := Tr (List Ent)
def callT (T : Tab) (P : Program) (rec : Task → St → Option (Ans × St)) (f : FuncId) (args : List LV) (s : St) : Option (Ans × St) :=
  match T.get f with
  | none => runCall P rec f args s
  | some es => match hit es args s with
    | none => runCall P rec f args s
    | some r => some r
def taskT (T : Tab) : Task → Program → (Task → St → Option (Ans × St)) → St → Option (Ans × St)
  | .call f args => fun P rec s => callT T P rec f args s
  | .code c fr => fun P rec s => codeF c P rec fr s
def runT (P : Program) (T : Tab) : Nat → Task → St → Option (Ans × St) :=
  fun n => Nat.rec (fun _ _ => none) (fun _ ih t => taskT T t P ih) n
def restL (l : List Nat) (k : Nat) : List Nat := Nat.rec l (fun _ ih => ih.tail) k
def allGe (k : Nat) (l : List Nat) : Bool := List.rec true (fun a _ ih => Nat.ble k a && ih) l
def entFit (e : Ent) (v1 : LV) (s1 : St) (names : List Nat) : Bool :=
  s1.wr.isEmpty && (eqv3 (List.range e.blks.length ++ names) e.v v1 && (blksOK s1.heap (List.range e.blks.length ++ names) e.news names && (apartN names && allGe e.blks.length names)))
def entRun (P : Program) (T : Tab) (n : Nat) (f : FuncId) (e : Ent) : Bool :=
  Nat.ble e.blks.length 1000000000 && match runT P T n (.call f e.args) e.st with
    | some (.call v1, s1) => entFit e v1 s1 (restL (reach s1.heap 100000 (nms3 v1) (List.range e.blks.length)) e.blks.length)
    | _ => false
def tabAdd (T : Tab) (f : FuncId) (e : Ent) : Tab := T.put 40 f (some (e :: (T.get f).getD []))
end
def TabOK (P : Program) (T : Tab) : Prop := ∀ f es, T.get f = some es → ∀ e ∈ es, EntOK P f e
section
variable {P : Program} {T : Tab}
theorem hitM_ok {f : FuncId} {m : List Nat} {args : List LV} {s : St} (hw : WF s) : ∀ {es : List Ent}, (∀ e ∈ es, EntOK P f e) → ∀ {r : Ans} {s' : St}, hitM m args s es = some (r, s') → TaskOK P (.call f args) s r s'
  | [], _, _, _, h => by cases h
  | e :: es, he, r, s', h => by
    have h' : sel (fits e m args s) (some (e.ans m s)) (hitM m args s es) = some (r, s') := h
    cases hf : fits e m args s with
    | true =>
      rw [hf, sel_true] at h'
      have h2 : e.ans m s = (r, s') := Option.some.inj h'
      have := ent_ok (he e (List.mem_cons_self ..)) hw hf
      rw [h2] at this
      exact this
    | false =>
      rw [hf, sel_false] at h'
      exact hitM_ok hw (fun e h => he e (List.mem_cons_of_mem _ h)) h'
theorem runT_ok (hng : NoNG P) (hmix : P.follows .mixedOrders = true) (hT : TabOK P T) : ∀ n, Good P (runT P T n)
  | 0 => fun _ _ _ _ _ h => by cases h
  | n + 1 => fun t s r s' hw h => by
    have ih := runT_ok hng hmix hT n
    have h' : taskT T t P (runT P T n) s = some (r, s') := h
    cases t with
    | code c fr =>
      have h2 : taskF (.code c fr) P (runT P T n) s = some (r, s') := h'
      rw [taskF_eq] at h2
      exact runTask_ok ih hng hmix _ s r s' hw h2
    | call f args =>
      have h3 : callT T P (runT P T n) f args s = some (r, s') := h'
      unfold callT at h3
      split at h3
      · have h2 : taskF (.call f args) P (runT P T n) s = some (r, s') := h3
        rw [taskF_eq] at h2
        exact runTask_ok ih hng hmix _ s r s' hw h2
      · rename_i es hes
        split at h3
        · have h2 : taskF (.call f args) P (runT P T n) s = some (r, s') := h3
          rw [taskF_eq] at h2
          exact runTask_ok ih hng hmix _ s r s' hw h2
        · rename_i a ha
          cases h3
          exact hitM_ok hw (hT f es hes) ha
theorem allGe_ok {k : Nat} : ∀ {l : List Nat}, allGe k l = true → ∀ n ∈ l, k ≤ n
  | [], _, _, h => by cases h
  | a :: l, h, n, hn => by
    have h' : (Nat.ble k a && allGe k l) = true := h
    rw [Bool.and_eq_true] at h'
    rcases List.mem_cons.1 hn with rfl | hn
    · exact Nat.le_of_ble_eq_true h'.1
    · exact allGe_ok h'.2 n hn
theorem tab_nil : TabOK P .e := fun f es h => by rw [Tr.get_e] at h; cases h
theorem tab_add (hng : NoNG P) (hmix : P.follows .mixedOrders = true) (hT : TabOK P T) {n : Nat} {f : FuncId} {e : Ent} (hf : Nat.ble f 1000000000 = true) (h : entRun P T n f e = true) : TabOK P (tabAdd T f e) := by
  have hE : EntOK P f e := by
    unfold entRun at h
    rw [Bool.and_eq_true] at h
    obtain ⟨hk, h⟩ := h
    have hk := Nat.le_of_ble_eq_true hk
    split at h
    · rename_i v1 s1 hr
      unfold entFit at h
      simp only [Bool.and_eq_true] at h
      obtain ⟨h1, h2, h3, h4, h5⟩ := h
      exact ⟨v1, s1, _, runT_ok hng hmix hT n _ _ _ _ (st_wf e hk) hr, hk, by simpa using h1, h2, h3, h4, allGe_ok h5⟩
    · cases h
  intro f' es hes e' he'
  have hf := Nat.le_of_ble_eq_true hf
  unfold tabAdd at hes
  rw [Tr.get_put 40 _ _ _ _ (by omega)] at hes
  by_cases hff : f' = f
  · subst hff
    rw [if_pos rfl] at hes
    cases hes
    rcases List.mem_cons.1 he' with rfl | he'
    · exact hE
    · cases hg : T.get f' with
      | none => rw [hg] at he'; cases he'
      | some es => rw [hg] at he'; exact hT f' es hg e' he'
  · rw [if_neg hff] at hes
    exact hT f' es hes e' he'
theorem ent_call {f : FuncId} {args : List LV} {v : LV} (hv : eqv3 [] v v = true) (hc : ∀ (ρ : Ren) (w : World) (xs : Array Value), TZ w → VRs ρ args xs.toList → Calls P f xs w fun r w' => ∃ x, r = .returned x ∧ VR ρ v x ∧ w = w') : EntOK P f ⟨args, [], v, []⟩ := by
  refine ⟨v, St.start, [], ⟨Mono.refl _, fun G ρ w xs hG hr hf hx => ?_⟩, Nat.zero_le _, rfl, hv, rfl, rfl, fun n hn => by cases hn⟩
  refine ((callsIn_wide (n := 0)).2 (hc ρ w xs hr.tz hx)).mono ?_
  rintro e w' ⟨x, rfl, h1, rfl⟩
  exact ⟨ρ, x, rfl, h1, ext_refl hr⟩
theorem tab_ent (hT : TabOK P T) {f : FuncId} {e : Ent} (hf : Nat.ble f 1000000000 = true) (hE : EntOK P f e) : TabOK P (tabAdd T f e) := by
  intro f' es hes e' he'
  have hf := Nat.le_of_ble_eq_true hf
  unfold tabAdd at hes
  rw [Tr.get_put 40 _ _ _ _ (by omega)] at hes
  by_cases hff : f' = f
  · subst hff
    rw [if_pos rfl] at hes
    cases hes
    rcases List.mem_cons.1 he' with rfl | he'
    · exact hE
    · cases hg : T.get f' with
      | none => rw [hg] at he'; cases he'
      | some es => rw [hg] at he'; exact hT f' es hg e' he'
  · rw [if_neg hff] at hes
    exact hT f' es hes e' he'
theorem closed_callT (hng : NoNG P) (hmix : P.follows .mixedOrders = true) (hT : TabOK P T) {n : Nat} {f : FuncId} (h : isTrue (runT P T n (.call f []) St.start) = true) (w : World) (hT0 : TZ w) : Calls P f #[] w fun r w' => r = .returned (.bool true) ∧ Below w.heap.size w w' := by
  cases hrun : runT P T n (.call f []) St.start with
  | none => rw [hrun] at h; cases h
  | some p =>
    obtain ⟨a, s'⟩ := p
    rw [hrun] at h
    unfold isTrue at h
    split at h
    · rename_i s2 e
      simp only [Option.some.injEq, Prod.mk.injEq] at e
      obtain ⟨rfl, rfl⟩ := e
      have hw : WF St.start := ⟨fun n _ => Tr.get_e n, by decide, by decide⟩
      obtain ⟨_, hc⟩ := runT_ok hng hmix hT n _ _ _ _ hw hrun
      have hr : RepOn (fun _ => True) (fun _ => none) St.start.heap w := ⟨fun n b _ hb => (by rw [show St.start.heap.get n = none from Tr.get_e n] at hb; cases hb), fun n m _ _ hl => absurd (Tr.get_e n) hl, hT0, fun n p _ hl => absurd (Tr.get_e n) hl⟩
      refine (callsIn_wide (n := 0)).1 ((hc (fun _ => True) (fun _ => none) w #[] ⟨fun _ _ => trivial, fun _ _ _ => trivial⟩ hr (fun _ _ _ => rfl) .nil).mono ?_)
      rintro e w' ⟨ρ', x, rfl, hx, he⟩
      cases hx
      exact ⟨rfl, he.os, he.tape, he.output, he.size, fun k hk => he.frame k hk fun n p _ hl => absurd (Tr.get_e n) hl⟩
    · cases h
end
end Go.Proofs.YtkbgeggflhfleaaGreatDoor.Ev
