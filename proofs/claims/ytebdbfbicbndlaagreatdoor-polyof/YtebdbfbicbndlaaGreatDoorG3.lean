/-
  Code: rows of operations, loops, calls.
-/
import Derived.Test.YtebdbfbicbndlaaGreatDoorG2
namespace Go.Proofs.YtebdbfbicbndlaaGreatDoor.Ev
open Go.RowKit
section
variable {P : Program}
theorem LoopIn.round {F : Fence} {n : Nat} {c : Code} {Q : Exit → Act → World → Prop} {a : Act} {w : World} (h : c.wpIn F n P (Exit.then (LoopIn F n P c Q) Q) a w) : LoopIn F n P c Q a w := by
  intro b k cs hro hb hr
  obtain ⟨e, a₁, w₁, hq, harr⟩ := h b (.inLoop c :: k) cs hro hb hr
  cases e with
  | normal =>
    obtain ⟨e₂, a₂, w₂, hq₂, harr₂⟩ := hq b k cs hro hb hr
    exact ⟨e₂, a₂, w₂, hq₂, .of_steps (StepsIn.trans harr (.one (fenced_calm hb hr rfl) stepR_inLoop)) harr₂⟩
  | exit id => exact ⟨_, a₁, w₁, hq, .pass (x := .inLoop c) rfl (fun _ _ => .inl (by simp)) harr⟩
  | goto l => exact ⟨_, a₁, w₁, hq, .pass (x := .inLoop c) rfl (fun _ _ => .inl (by simp)) harr⟩
  | ret => exact ⟨_, a₁, w₁, hq, .pass (x := .inLoop c) rfl (fun _ _ => .inl (by simp)) harr⟩
  | panic ch => exact ⟨_, a₁, w₁, hq, .pass (x := .inLoop c) rfl (fun _ _ => .inl (by simp)) harr⟩
  | outgrown => exact ⟨_, a₁, w₁, hq, .pass (x := .inLoop c) rfl (fun _ _ => .inl (by simp)) harr⟩
theorem runOps_ok {rec : Task → St → Option (Ans × St)} (hg : Good P rec) (hng : NoNG P) {ops : Array Oper} : ∀ (os : List Oper) (k : Nat) (fr fr' : Fr) (s s' : St), ops.toList.drop k = os → WF s → runOps P rec ops os fr s = some (fr', s') →
    Mono s s' ∧ fr'.rnd = fr.rnd ∧ ∀ (ro : Option Nat) (G : Nat → Prop) (ρ : Ren) (w : World) (a : Act) (Q : Exit → Act → World → Prop), Gok G s' → RepOn G ρ s.heap w → Fresh ρ s s' → TmRel ρ fr a →
      (∀ ρ' w' a', Ext G s s' ρ ρ' w w' → TmRel ρ' fr' a' → Q .normal a' w') → wpOpsIn (Fw ro) 0 P ops Q (List.range' k os.length) a w
  | [], k, fr, fr', s, s', _, hw, h => by
    cases h
    exact ⟨Mono.refl _, rfl, fun ro G ρ w a Q hG hr hf ht hQ => hQ ρ w a (ext_refl hr) ht⟩
  | o :: os, k, fr, fr', s, s', hd, hw, h => by
    simp only [runOps] at h
    split at h
    · rename_i f1 s1 h1
      obtain ⟨hm1, hn1, ho⟩ := runOp_ok hg hng hw h1
      have hk : ops[k]? = some o := by
        have : (ops.toList.drop k)[0]? = some o := by rw [hd]; rfl
        simpa using this
      have hd' : ops.toList.drop (k + 1) = os := by
        have := congrArg (List.drop 1) hd
        simpa [List.drop_drop] using this
      obtain ⟨hm2, hn2, hos⟩ := runOps_ok hg hng os (k + 1) f1 fr' s1 s' hd' (hm1.wf hw) h
      refine ⟨hm1.trans hm2, hn2.trans hn1.2.2, fun ro G ρ w a Q hG hr hf ht hQ => ?_⟩
      simp only [List.length_cons, List.range'_succ]
      rw [wpOpsIn_cons]
      unfold wpOpIn
      rw [hk]
      refine ho ro G ρ w a _ Q (hG.back hm2) hr (hf.left hm2) ht fun ρ1 w1 a1 e1 ht1 => ?_
      exact hos ro G ρ1 w1 a1 Q hG e1.rep (hf.right hm1 e1) ht1 fun ρ2 w2 a2 e2 ht2 => hQ ρ2 w2 a2 (e1.trans hw hm1 hm2 e2) ht2
    · cases h
theorem frOf_get : ∀ (args : List LV) (i : Nat) (t : Tr LV) (j : Nat), i + args.length < 1000000000 → (frOf args i t).get j = if i ≤ j ∧ j < i + args.length then args[j - i]? else t.get j
  | [], i, t, j, _ => by simp [frOf]; omega
  | v :: vs, i, t, j, h => by
    simp only [List.length_cons] at h
    simp only [frOf]
    rw [frOf_get vs (i + 1) _ j (by omega), Tr.get_put 40 _ _ _ _ (by omega)]
    by_cases e : j = i
    · subst e
      rw [if_neg (by omega), if_pos rfl, if_pos (by simp)]
      simp
    · by_cases e2 : i + 1 ≤ j ∧ j < i + 1 + vs.length
      · rw [if_pos e2, if_pos (by simp; omega)]
        have : j - i = (j - (i + 1)) + 1 := by omega
        rw [this]
        simp
      · rw [if_neg e2, if_neg e, if_neg (by simp; omega)]
theorem enter_rel {ρ : Ren} {args : List LV} {xs : Array Value} {nt : Nat} (hx : VRs ρ args xs.toList) (hl : args.length ≤ nt) (hn : nt < 1000000000) :
    TmRel ρ ⟨frOf args 0 .e, nt, [], false⟩ { tmps := xs ++ Array.replicate (nt - xs.size) undef, defers := [] } := by
  have hlen : xs.size = args.length := by have := hx.length; simpa using this
  refine ⟨by simp; omega, fun t => ?_, hn, .nil⟩
  unfold Fr.get
  dsimp only
  rw [frOf_get args 0 .e t (by omega), Array.getD_eq_getD_getElem?]
  by_cases h : t < args.length
  · rw [if_pos (by omega), Array.getElem?_append_left (by omega)]
    have hv : args[t]? = some args[t] := List.getElem?_eq_getElem h
    obtain ⟨x, hx1, hvr⟩ := hx.get hv
    have hx2 : xs[t]? = some x := by simpa using hx1
    rw [hx2]
    simpa [hv] using hvr
  · rw [if_neg (by omega), Tr.get_e, Array.getElem?_append_right (by omega)]
    have : (Array.replicate (nt - xs.size) undef)[t - xs.size]?.getD undef = undef := by
      rw [Array.getElem?_replicate]
      split <;> rfl
    rw [this]
    exact vr_un
/-- A result that is read off. -/
def resOf (tmps : Array Value) : ResultVar → Sem Value
  | .tmp t => pure (tmps.getD t undef)
  | .cell q t => do loadVar t (← asAddr (tmps.getD q undef))
theorem results_eq (fn : Func) (tmps : Array Value) : results fn tmps = (do let vs ← fn.results.mapM (resOf tmps); pure (if h : vs.size = 1 then vs[0] else .tuple vs)) := rfl
theorem resultL_ok {fr : Fr} : ∀ {rs : List ResultVar} {s s' : St} {vs : List LV}, WF s → resultL P fr s rs = some (vs, s') →
    Mono s s' ∧ ∀ (G : Nat → Prop) (ρ : Ren) (w : World) (a : Act), Gok G s' → RepOn G ρ s.heap w → TmRel ρ fr a →
      ∃ xs : List Value, (rs.mapM (resOf a.tmps)).run P w = .ok xs w ∧ VRs ρ vs xs ∧ Ext G s s' ρ ρ w w
  | [], s, s', vs, hw, h => by
    cases h
    exact ⟨Mono.refl _, fun G ρ w a hG hr ht => ⟨[], by simp, .nil, ext_refl hr⟩⟩
  | .tmp t :: rs, s, s', vs, hw, h => by
    simp only [resultL] at h
    split at h
    · rename_i us s1 h1
      cases h
      obtain ⟨hm, hk⟩ := resultL_ok hw h1
      refine ⟨hm, fun G ρ w a hG hr ht => ?_⟩
      obtain ⟨xs, h2, h3, h4⟩ := hk G ρ w a hG hr ht
      exact ⟨_ :: xs, by simp only [List.mapM_cons, resOf, Sem.run_bind, Sem.run_pure, Result.andThen_ok]; rw [h2]; rfl, .cons (ht.val t) h3, h4⟩
    · cases h
  | .cell q t :: rs, s, s', vs, hw, h => by
    simp only [resultL] at h
    split at h
    · rename_i v s1 h1
      split at h
      · rename_i us s2 h2
        cases h
        have hm1 := doLoad_mono h1
        obtain ⟨hm, hk⟩ := resultL_ok (hm1.wf hw) h2
        refine ⟨hm1.trans hm, fun G ρ w a hG hr ht => ?_⟩
        obtain ⟨v', hv', _, y, h3, h4, h5⟩ := doLoad_ok (P := P) h1 (ht.val q) hw (hG.back hm) hr
        cases hv'
        obtain ⟨xs, h6, h7, h8⟩ := hk G ρ w a hG h4.rep ht
        refine ⟨y :: xs, ?_, .cons h5 h7, h4.trans hw hm1 hm h8⟩
        have hq : (do loadVar t (← asAddr (a.tmps.getD q undef)) : Sem Value).run P w = .ok y w := by
          have hvq := ht.val q
          generalize a.tmps.getD q undef = qv at hvq h3 ⊢
          generalize fr.get q = ql at hvq h1
          cases hvq with
          | ptr hp => simpa [Instr.loadAt, Instr.sureAddr, asAddr] using h3
          | _ => unfold doLoad at h1; cases h1
        have hq' : (resOf a.tmps (.cell q t)).run P w = .ok y w := hq
        rw [List.mapM_cons, Sem.run_bind, hq', Result.andThen_ok, Sem.run_bind, h6]
        rfl
      · cases h
    · cases h
/-- A name goes, and its block with it. -/
theorem ext_drop {G : Nat → Prop} {s : St} {n : Nat} {p : Pl} {ρ : Ren} {w w' : World} (hw : WF s) (hl : Live s.heap n) (hG : G n) (hr : RepOn G ρ s.heap w) (hp : ρ n = some p)
    (hother : ∀ k, k ≠ p.blk → w'.heap[k]? = w.heap[k]?) (hsz : w'.heap.size = w.heap.size) (hos : w'.os = w.os) (hta : w'.tape = w.tape) (hou : w'.output = w.output) : Ext G s (s.set n none) ρ ρ w w' := by
  have hlt := live_lt hw hl
  have h9 := Nat.lt_of_lt_of_le hlt hw.lt
  have old : ∀ k, Live (s.set n none).heap k → k ≠ n ∧ Live s.heap k := fun k h => by
    unfold Live at h
    rw [set_heap _ h9] at h
    split at h
    · exact absurd rfl h
    · rename_i e; exact ⟨e, h⟩
  refine ⟨fun _ _ => rfl, ⟨fun k c hGk hc => ?_, fun k j h1 h2 h3 h4 => hr.sep k j h1 h2 (old k h3).2 (old j h4).2⟩, fun k hk hne => hother k fun e => hne n p hG hl hp e.symm, by rw [hsz]; exact Nat.le_refl _, hos, hta, hou, fun k q h1 h2 _ _ => by rw [set_next] at h2; omega⟩
  have hlk : Live (s.set n none).heap k := by unfold Live; rw [hc]; simp
  have hk := old k hlk
  rw [set_heap _ h9, if_neg hk.1] at hc
  have hb := hr.rep k c hGk hc
  exact hb.keep (fun _ _ h => h) fun q hq => hother _ (hr.sep k n hGk hG hk.2 hl hk.1 q p hq hp)
theorem isMark_eq {b : Option Blk} (h : isMark b = true) : ∃ c, b = some c ∧ c.lp = some .marks := by
  unfold isMark at h
  split at h
  · rename_i c
    split at h
    · rename_i hl; exact ⟨c, rfl, hl⟩
    · cases h
  · cases h
theorem drops_ok : ∀ {ns : List Nat} {s : St}, marksOk s ns = true → WF s → Mono s (s.drops ns) ∧ ∀ (G : Nat → Prop) (ρ : Ren) (w : World) (ds : List Deferred) (fn : Func) (tmps : Array Value) (R : Ending → World → Prop), Gok G (s.drops ns) → RepOn G ρ s.heap w → DfR ρ ns ds →
    (∀ w', Ext G s (s.drops ns) ρ ρ w w' → ∃ v, (results fn tmps).run P w' = .ok v w' ∧ R (.returned v) w') → LeavesInM Fence.wide 0 P fn tmps R ds .returning w
  | [], s, h, hw => ⟨Mono.refl _, fun G ρ w ds fn tmps R hG hr hd hR => by
      cases hd
      exact hR w (ext_refl hr)⟩
  | n :: ns, s, h, hw => by
    simp only [marksOk, Bool.and_eq_true] at h
    obtain ⟨c, hc, hlp⟩ := isMark_eq h.1
    have hl : Live s.heap n := by unfold Live; rw [hc]; simp
    have hlt := live_lt hw hl
    have hm1 : Mono s (s.set n none) := mono_set none (Nat.lt_of_lt_of_le hlt hw.lt) hl hlt
    obtain ⟨hm2, hk⟩ := drops_ok h.2 (hm1.wf hw)
    refine ⟨hm1.trans hm2, fun G ρ w ds fn tmps R hG hr hd hR => ?_⟩
    obtain _ | ⟨hp, hd⟩ := hd
    rename_i p ds
    have hGn : G n := gok_set hw hl (hG.back hm2)
    obtain ⟨q, hq, hmk⟩ := (hr.rep n c hGn hc).other _ hlp
    rw [hp] at hq
    cases hq
    have hblk := (Array.getElem?_eq_some_iff.1 hmk).1
    have hrun : (Instr.takeDeferred p.blk).run P w = .ok [] (w.putObj p.blk (.deferred none)) := by
      have hmk' : w.heap[p.blk]? = some (.deferred (some [])) := hmk
      simp [Instr.takeDeferred, getObj, setObj, Sem.run_bind, Sem.run, hmk', World.putObj, Result.andThen]
    have e1 : Ext G s (s.set n none) ρ ρ w (w.putObj p.blk (.deferred none)) := ext_drop hw hl hGn hr hp (fun k hk => World.putObj_heap_other hk) (by simp) rfl rfl rfl
    refine ⟨by simp, .inl ⟨p.blk, _, rfl, hrun, ?_⟩⟩
    exact hk G ρ _ ds fn tmps R hG e1.rep hd fun w' e2 => hR w' (e1.trans hw hm1 hm2 e2)
theorem runCall_ok {rec : Task → St → Option (Ans × St)} (hg : Good P rec) {f : FuncId} {args : List LV} {s s' : St} {r : Ans} (hw : WF s) (h : runCall P rec f args s = some (r, s')) : TaskOK P (.call f args) s r s' := by
  unfold runCall at h
  split at h
  · cases h
  · rename_i fn hfn
    split at h
    · cases h
    · rename_i c hb
      obtain ⟨hc, h⟩ := cond_some h
      simp only [Bool.and_eq_true] at hc
      have hl := Nat.le_of_ble_eq_true hc.1
      have hn : fn.ntmps < 1000000000 := Nat.le_of_ble_eq_true hc.2
      split at h
      · rename_i e fr s1 hrec
        obtain ⟨hm1, hn1, hcode⟩ := hg _ _ _ _ hw hrec
        have hw1 := hm1.wf hw
        obtain ⟨hmk, h⟩ := cond_some h
        obtain ⟨hmd, hdrop⟩ := drops_ok (P := P) hmk hw1
        have fin : ∀ vs s2 v, resultL P fr (s1.drops fr.marks) fn.results.toList = some (vs, s2) → (∀ xs : List Value, ∀ ρ, VRs ρ vs xs → VR ρ v (if h : xs.toArray.size = 1 then xs.toArray[0] else .tuple xs.toArray)) → toExit e = .normal ∨ toExit e = .ret → Mono s s2 ∧ CallOK P f args s v s2 := by
          intro vs s2 v hres hv he
          obtain ⟨hm2, hk⟩ := resultL_ok (hmd.wf hw1) hres
          refine ⟨hm1.trans (hmd.trans hm2), fun G ρ w xs hG hr hf hx => ?_⟩
          refine callsIn_of_wp_marks hfn hb trivial ?_ rfl
          refine wpS.wp (hcode none G ρ w _ _ (fun _ => rfl) ((hG.back hm2).back hmd) hr (hf.left (hmd.trans hm2)) (enter_rel hx hl hn) fun ρ' w' a' hext ht => ?_)
          have key : LeavesInM Fence.wide 0 P fn a'.tmps (fun e w' => ∃ ρ' x, e = .returned x ∧ VR ρ' v x ∧ Ext G s s2 ρ ρ' w w') a'.defers .returning w' := by
            refine hdrop G ρ' w' a'.defers fn a'.tmps _ (hG.back hm2) hext.rep ht.dfs fun w'' e2 => ?_
            obtain ⟨ys, h1, h2, h3⟩ := hk G ρ' w'' a' hG e2.rep ht
            refine ⟨if h : ys.toArray.size = 1 then ys.toArray[0] else .tuple ys.toArray, ?_, ρ', _, rfl, hv ys ρ' h2, (hext.trans hw hm1 hmd e2).trans hw (hm1.trans hmd) hm2 h3⟩
            rw [results_eq, Array.mapM_eq_mapM_toList]
            simp only [Sem.run_bind, Sem.run_map, h1, Result.andThen_ok, Sem.run_pure]
          rcases he with he | he <;> rw [he] <;> exact key
        cases e with
        | exit id => cases h
        | normal =>
          dsimp only at h
          split at h
          · rename_i v s2 hres
            cases h
            exact fin _ _ _ hres (fun xs ρ hx => by
              obtain _ | ⟨hx1, _ | _⟩ := hx
              simpa using hx1) (.inl rfl)
          · rename_i vs s2 hne hres
            cases h
            exact fin _ _ _ hres (fun xs ρ hx => by
              rw [dif_neg]
              · exact .tuple hx
              · intro e1
                have e2 := hx.length
                simp at e1
                rw [e1] at e2
                obtain ⟨v0, hv0⟩ := List.length_eq_one_iff.1 e2.symm
                exact hne v0 hv0) (.inl rfl)
          · cases h
        | ret =>
          dsimp only at h
          split at h
          · rename_i v s2 hres
            cases h
            exact fin _ _ _ hres (fun xs ρ hx => by
              obtain _ | ⟨hx1, _ | _⟩ := hx
              simpa using hx1) (.inr rfl)
          · rename_i vs s2 hne hres
            cases h
            exact fin _ _ _ hres (fun xs ρ hx => by
              rw [dif_neg]
              · exact .tuple hx
              · intro e1
                have e2 := hx.length
                simp at e1
                rw [e1] at e2
                obtain ⟨v0, hv0⟩ := List.length_eq_one_iff.1 e2.symm
                exact hne v0 hv0) (.inr rfl)
          · cases h
      · cases h
end
end Go.Proofs.YtebdbfbicbndlaaGreatDoor.Ev
