/-
  What a run of the runner says of a run.
-/
import Derived.Test.YtfnkomoickanfaaGreatDoorG1
namespace Go.Proofs.YtfnkomoickanfaaGreatDoor.Ev
open Go.RowKit
def Fw (ro : Option Nat) : Fence := { Fence.wide with round := ro }
def toExit : Ex → Exit
  | .normal => .normal
  | .exit id => .exit id
  | .ret => .ret
def LoopIn (F : Fence) (n : Nat) (P : Program) (c : Code) (Q : Exit → Act → World → Prop) (a : Act) (w : World) : Prop :=
  ∀ (b : Frame) (k : List Item) (cs : List Frame), b.roundOf = F.round → F.fn b.fn → F.room (cs.length + 1 + n) →
    ∃ e a' w', Q e a' w' ∧ ArrivesIn (Machine.fenced P F) P (lone (b.atR a (.code c :: .inLoop c :: k)) cs w) b k cs e a' w'
theorem LoopIn.wp {F : Fence} {n : Nat} {P : Program} {c : Code} {Q : Exit → Act → World → Prop} {a : Act} {w : World} (h : LoopIn F n P c Q a w) : (Code.loop c).wpIn F n P Q a w := by
  intro b k cs hro hb hr
  obtain ⟨e, a', w', hq, harr⟩ := h b k cs hro hb hr
  exact ⟨e, a', w', hq, .of_steps (.one (fenced_calm hb hr rfl) stepR_loop) harr⟩
def wpS (F : Fence) (n : Nat) (P : Program) (c : Code) (Q : Exit → Act → World → Prop) (a : Act) (w : World) : Prop :=
  match c with
  | .loop d => LoopIn F n P d Q a w
  | c => c.wpIn F n P Q a w
theorem wpS.wp {F : Fence} {n : Nat} {P : Program} {c : Code} {Q : Exit → Act → World → Prop} {a : Act} {w : World} (h : wpS F n P c Q a w) : c.wpIn F n P Q a w := by
  cases c <;> first | exact h | exact LoopIn.wp h
def CodeOK (P : Program) (c : Code) (fr : Fr) (s : St) (e : Ex) (fr' : Fr) (s' : St) : Prop :=
  ∀ (ro : Option Nat) (G : Nat → Prop) (ρ : Ren) (w : World) (a : Act) (Q : Exit → Act → World → Prop), (fr.rnd = false → ro = none) → Gok G s' → RepOn G ρ s.heap w → Fresh ρ s s' → TmRel ρ fr a →
    (∀ ρ' w' a', Ext G s s' ρ ρ' w w' → TmRel ρ' fr' a' → Q (toExit e) a' w') → wpS (Fw ro) 0 P c Q a w
def CallOK (P : Program) (f : FuncId) (args : List LV) (s : St) (v : LV) (s' : St) : Prop :=
  ∀ (G : Nat → Prop) (ρ : Ren) (w : World) (xs : Array Value), Gok G s' → RepOn G ρ s.heap w → Fresh ρ s s' → VRs ρ args xs.toList →
    CallsIn Fence.wide 0 P f xs w fun e w' => ∃ ρ' x, e = .returned x ∧ VR ρ' v x ∧ Ext G s s' ρ ρ' w w'
def TaskOK (P : Program) : Task → St → Ans → St → Prop
  | .code c fr, s, .code e fr', s' => Mono s s' ∧ fr'.rnd = fr.rnd ∧ CodeOK P c fr s e fr' s'
  | .call f args, s, .call v, s' => Mono s s' ∧ CallOK P f args s v s'
  | _, _, _, _ => False
def Good (P : Program) (rec : Task → St → Option (Ans × St)) : Prop := ∀ t s r s', WF s → rec t s = some (r, s') → TaskOK P t s r s'
section
variable {P : Program}
theorem wanted_eq {ρ : Ren} {fr : Fr} {a : Act} (ht : TmRel ρ fr a) (ops : Array Oper) (o : Oper) : Region.wanted o (yielded ops a.tmps) = wantedL fr ops o := by
  unfold Region.wanted wantedL
  cases o.guard with
  | none => rfl
  | some p =>
    obtain ⟨j, want⟩ := p
    dsimp only
    unfold yielded
    cases hj : ops[j]? with
    | none => simp
    | some g =>
      dsimp only [Option.bind_some]
      cases hd : g.dst with
      | none => simp
      | some d =>
        dsimp only [Option.bind_some]
        have hv := ht.val d
        cases hx : a.tmps[d]? with
        | none =>
          have : a.tmps.getD d undef = undef := by rw [Array.getD_eq_getD_getElem?, hx]; rfl
          rw [this] at hv
          generalize fr.get d = l at hv ⊢
          cases hv
          cases want <;> rfl
        | some x =>
          have : a.tmps.getD d undef = x := by rw [Array.getD_eq_getD_getElem?, hx]; rfl
          rw [this] at hv
          generalize fr.get d = l at hv ⊢
          cases hv <;> first | (cases want <;> rfl) | (rename_i b; cases b <;> cases want <;> rfl)
theorem cond_cases {α : Type} {b : Bool} {x y : Option α} {z : α} (h : cond b x y = some z) : (b = true ∧ x = some z) ∨ (b = false ∧ y = some z) := by
  cases b
  · exact .inr ⟨rfl, h⟩
  · exact .inl ⟨rfl, h⟩
/- What an operation makes of the runner's memory. -/
theorem doLoad_mono {t : TypeId} {u : LV} {s s' : St} {r : R} (h : doLoad P t u s = some (r, s')) : Mono s s' := by
  unfold doLoad at h
  split at h
  · rename_i n off
    split at h
    · rename_i b s1 hl ha
      obtain ⟨hb, rfl, hlp⟩ := look_eq hl
      split at h
      · split at h
        · cases h; exact mono_touch s n
        · cases h
      · cases h
    · rename_i b s1 hl ha
      obtain ⟨hb, rfl, hlp⟩ := look_eq hl
      split at h
      · cases h; exact mono_touch s n
      · cases h
    · cases h
  · cases h
theorem doAppend_mono {ts : List TypeId} {us : List LV} {s s' : St} {r : R} (hw : WF s) (h : doAppend P ts us s = some (r, s')) : Mono s s' := by
  unfold doAppend at h
  split at h
  · split at h
    · split at h
      · cases h
      · split at h
        · obtain ⟨_, h⟩ := cond_some h
          split at h
          · cases h
          · rename_i new s1 hf
            have hm1 := firstL_mono hf
            have hw1 := hm1.wf hw
            obtain ⟨_, h⟩ := cond_some h
            split at h
            · rcases cond_cases h with ⟨_, h⟩ | ⟨_, h⟩
              · cases h; exact hm1
              · split at h
                · rename_i hnew; cases h; exact hm1.trans (mono_new hnew)
                · cases h
            · obtain ⟨_, h⟩ := cond_some h
              split at h
              · rcases cond_cases h with ⟨_, h⟩ | ⟨_, h⟩
                · split at h
                  · rename_i hst; cases h; exact hm1.trans (storeAt_mono hw1 hst)
                  · cases h
                · split at h
                  · cases h
                  · rename_i b s2 hl
                    obtain ⟨hb, rfl, hlp⟩ := look_eq hl
                    split at h
                    · cases h
                    · split at h
                      · rename_i hnew; cases h; exact hm1.trans ((mono_touch _ _).trans (mono_new hnew))
                      · cases h
              · split at h
                · cases h
                · rename_i b s2 hl
                  obtain ⟨hb, rfl, hlp⟩ := look_eq hl
                  split at h
                  · cases h
                  · obtain ⟨_, h⟩ := cond_some h
                    rcases cond_cases h with ⟨_, h⟩ | ⟨_, h⟩
                    · split at h
                      · rename_i hst; cases h; exact hm1.trans (storeAt_mono hw1 hst)
                      · cases h
                    · split at h
                      · cases h
                      · split at h
                        · rename_i hnew
                          cases h
                          exact hm1.trans (mono_kill hw1 (by unfold Live; rw [hb]; simp) hnew)
                        · cases h
            · cases h
        · cases h
    · cases h
  · cases h
theorem doAppendA_mono {ts : List TypeId} {us : List LV} {s s' : St} {r : R} (hw : WF s) (h : doAppendA P ts us s = some (r, s')) : Mono s s' := by
  unfold doAppendA at h
  split at h
  · rename_i hd
    cases h
    exact doAppend_mono hw hd
  · unfold doAppendZ at h
    split at h
    · split at h
      · split at h
        · obtain ⟨_, h⟩ := cond_some h
          split at h
          · rename_i hnew; cases h; exact mono_new hnew
          · cases h
        · cases h
      · cases h
    · cases h
theorem doCopy_mono {ts : List TypeId} {us : List LV} {s s' : St} {r : R} (hw : WF s) (h : doCopy P ts us s = some (r, s')) : Mono s s' := by
  unfold doCopy at h
  split at h
  · split at h
    · split at h
      · split at h
        · cases h
        · rename_i cs s1 hf
          have hm1 := firstL_mono hf
          split at h
          · split at h
            · rename_i hst; cases h; exact hm1.trans (storeAt_mono (hm1.wf hw) hst)
            · cases h
          · cases h; exact hm1
          · cases h
      · cases h
    · cases h
  · cases h
theorem doSlice_mono {t : TypeId} {u : LV} {lo hi mx : Option LV} {s s' : St} {r : R} (h : doSlice P t u lo hi mx s = some (r, s')) : Mono s s' := by
  unfold doSlice at h
  split at h
  · rename_i elem n off len c hu
    split at h
    · split at h
      · rename_i v s1 hs
        cases h
        unfold sliceIt at hs
        split at hs
        · cases hs
        · rename_i k sure hc
          have hm : Mono s (cond sure s (s.touch n)) := by
            cases sure
            · exact mono_touch s n
            · exact Mono.refl s
          dsimp only at hs
          split at hs
          · rcases cond_cases hs with ⟨_, hs⟩ | ⟨_, hs⟩
            · cases hs; exact hm
            · obtain ⟨_, hs⟩ := cond_some hs
              rcases cond_cases hs with ⟨_, hs⟩ | ⟨_, hs⟩
              · cases hs; exact hm
              · split at hs
                · rename_i hfr; cases hs; exact hm.trans (mono_fresh hfr)
                · cases hs
          · split at hs
            · obtain ⟨_, hs⟩ := cond_some hs; cases hs; exact hm
            · cases hs
          · cases hs
      · cases h
    · cases h
  · obtain ⟨_, h⟩ := cond_some h; cases h; exact Mono.refl s
  · split at h
    · obtain ⟨_, h⟩ := cond_some h; cases h; exact Mono.refl s
    · cases h
  · cases h
theorem enterF_mono {f : FuncId} {args : List LV} {s s' : St} {r : R} (h : enterF P f args s = some (r, s')) : s' = s := by
  unfold enterF at h
  split at h
  · split at h
    · cases h; rfl
    · cases h
  · cases h
theorem doInvoke_mono {u : LV} {name : String} {us : List LV} {s s' : St} {r : R} (h : doInvoke P u name us s = some (r, s')) : Mono s s' := by
  unfold doInvoke at h
  split at h
  · split at h
    · split at h
      · obtain ⟨_, h⟩ := cond_some h
        split at h
        · split at h
          · rw [enterF_mono h]; exact Mono.refl s
          · split at h
            · rename_i hl; rw [enterF_mono h]; exact doLoad_mono hl
            · cases h
          · rw [enterF_mono h]; exact Mono.refl s
          · cases h
        · cases h
      · cases h
    · cases h
  · cases h
theorem pureR_mono {v : Option LV} {s s' : St} {r : R} (h : pureR v s = some (r, s')) : Mono s s' := by
  obtain ⟨_, _, _, rfl⟩ := pureR_eq h; exact Mono.refl _
theorem doOp_mono {fr : Fr} {op : Op} {s s' : St} {r : R} (hw : WF s) (h : doOp P fr op s = some (r, s')) : Mono s s' := by
  unfold doOp at h
  split at h
  · exact pureR_mono h
  · exact pureR_mono h
  · split at h
    · cases h; exact Mono.refl _
    · cases h
  · unfold doAlloc at h
    split at h
    · obtain ⟨n, hn, _⟩ := newPtr_eq h; exact mono_new hn
    · cases h
  · split at h
    · obtain ⟨n, hn, _⟩ := newPtr_eq h; exact mono_new hn
    · cases h
  · split at h
    · unfold doBuild at h
      split at h
      · split at h
        · split at h
          · cases h; exact Mono.refl _
          · cases h
        · cases h
      · cases h
    · cases h
  · split at h
    · unfold doBuildSlice at h
      split at h
      · split at h
        · obtain ⟨_, h⟩ := cond_some h
          split at h
          · split at h
            · rename_i hn; cases h; exact mono_new hn
            · cases h
          · cases h
        · cases h
      · cases h
    · cases h
  · split at h
    · exact doLoad_mono h
    · cases h
  · split at h
    · unfold doStore at h
      split at h
      · obtain ⟨_, h⟩ := cond_some h
        split at h
        · rename_i hst; cases h; exact storeAt_mono hw hst
        · cases h
      · cases h
    · cases h
  · split at h
    · unfold doNilCheck at h
      split at h <;> cases h <;> exact Mono.refl _
    · cases h
  · split at h
    · exact pureR_mono h
    · cases h
  · split at h
    · exact pureR_mono h
    · cases h
  · split at h
    · exact pureR_mono h
    · cases h
  · split at h
    · exact pureR_mono h
    · cases h
  · split at h
    · cases h; exact Mono.refl _
    · cases h
  · split at h
    · unfold doMakeSlice at h
      split at h
      · split at h
        · obtain ⟨_, h⟩ := cond_some h
          split at h
          · rename_i hn; cases h; exact mono_new hn
          · cases h
        · cases h
      · cases h
    · cases h
  · split at h
    · exact doSlice_mono h
    · cases h
  · split at h
    · exact pureR_mono h
    · cases h
  · split at h
    · exact pureR_mono h
    · cases h
  · split at h
    · exact pureR_mono h
    · cases h
  · split at h
    · exact pureR_mono h
    · cases h
  · split at h
    · exact pureR_mono h
    · cases h
  · split at h
    · exact pureR_mono h
    · cases h
  · unfold doCall at h
    split at h
    · cases h
    · split at h
      · unfold doBuiltin at h
        split at h
        · exact doAppendA_mono hw h
        · exact doCopy_mono hw h
        · exact doClear_mono hw h
        · exact pureR_mono h
        · exact pureR_mono h
        · split at h
          · exact pureR_mono h
          · cases h
        · split at h
          · exact pureR_mono h
          · cases h
        · cases h
      · split at h
        · exact doInvoke_mono h
        · cases h
      · split at h
        · rw [enterF_mono h]; exact Mono.refl _
        · split at h
          · exact doInvoke_mono h
          · cases h
        · unfold doYield at h
          split at h
          · split at h
            · split at h
              · cases h; exact mono_touch _ _
              · cases h
            · cases h
          · cases h
        · cases h
  · cases h
/- A record of a range is written. -/
theorem setLoop_ok {G : Nat → Prop} {s : St} {n : Nat} {p : Pl} {ρ : Ren} {w : World} {r : LoopL} {L L' : Loop} (st : LSt) (hw : WF s) (hl : Live s.heap n) (hG : G n) (hr : RepOn G ρ s.heap w) (hp : ρ n = some p) (hL : w.heap[p.blk]? = some (.loop L)) (hL' : LoopR ρ { r with st := st } L') :
    Mono s (s.setLoop n r st) ∧ Ext G s (s.setLoop n r st) ρ ρ w (w.putObj p.blk (.loop L')) := by
  have hlt := live_lt hw hl
  have h9 := Nat.lt_of_lt_of_le hlt hw.lt
  have hb := (Array.getElem?_eq_some_iff.1 hL).1
  refine ⟨mono_set _ h9 hl hlt, ext_setA h9 hlt hl hG hr hp ⟨fun e => (by cases e), fun x hx => ?_⟩ (fun k hk => World.putObj_heap_other hk) (by simp) rfl rfl rfl⟩
  cases hx
  exact ⟨p, hp, L', World.putObj_heap_same hb, hL'⟩
theorem loopAt_eq {b : Option Blk} {r : LoopL} (h : loopAt b = some r) : ∃ c, b = some c ∧ c.lp = some (.loop r) := by
  unfold loopAt at h
  split at h
  · rename_i c
    split at h
    · rename_i r hl; cases h; exact ⟨c, rfl, hl⟩
    · cases h
  · cases h
theorem loop_at {G : Nat → Prop} {s : St} {n : Nat} {p : Pl} {ρ : Ren} {w : World} {r : LoopL} (h : loopAt (s.heap.get n) = some r) (hG : G n) (hr : RepOn G ρ s.heap w) (hp : ρ n = some p) : Live s.heap n ∧ ∃ L, w.heap[p.blk]? = some (.loop L) ∧ LoopR ρ r L := by
  obtain ⟨c, hc, hlp⟩ := loopAt_eq h
  obtain ⟨q, hq, L, hL, hLR⟩ := (hr.rep n c hG hc).other _ hlp
  rw [hp] at hq
  cases hq
  exact ⟨by unfold Live; rw [hc]; simp, L, hL, hLR⟩
theorem loop_live {s : St} {n : Nat} {r : LoopL} (h : loopAt (s.heap.get n) = some r) : Live s.heap n := by
  obtain ⟨c, hc, _⟩ := loopAt_eq h
  unfold Live; rw [hc]; simp
theorem LoopR.turn {ρ : Ren} {r : LoopL} {L : Loop} (h : LoopR ρ r L) (st : LSt) (state : LoopState) (pend : Option Code) (hs : match st with
    | .ready => state = .ready ∧ pend = none
    | .busy => state = .busy
    | .done e => state = .done ∧ pend = some (exCode e)) : LoopR ρ { r with st := st } { L with state := state, pending := pend } :=
  ⟨h.params, h.assign, h.body, h.tsize, h.tval, h.room, hs⟩
theorem setLoop_mono {s : St} {n : Nat} {r : LoopL} {st : LSt} (hw : WF s) (hl : Live s.heap n) : Mono s (s.setLoop n r st) := mono_set _ (Nat.lt_of_lt_of_le (live_lt hw hl) hw.lt) hl (live_lt hw hl)
theorem endRound_ok {n : Nat} {e : Ex} {f2 : Fr} {s s' : St} {v : LV} (hw : WF s) (h : endRound n e f2 s = some (v, s')) : Mono s s' ∧ ∀ (G : Nat → Prop) (ρ : Ren) (w : World) (p : Pl) (a : Act) (R : Ending → World → Prop), G n → RepOn G ρ s.heap w → ρ n = some p →
    (∀ x w', VR ρ v x → Ext G s s' ρ ρ w w' → R (.returned x) w') → roundPost P p.blk R (toExit e) a w := by
  unfold endRound at h
  split at h
  · rename_i r2 hl hmk
    have hlive := loop_live hl
    split at h
    · rename_i hst
      split at h
      · cases h
        refine ⟨setLoop_mono hw hlive, fun G ρ w p a R hG hr hp hR => ?_⟩
        obtain ⟨_, L, hL, hLR⟩ := loop_at hl hG hr hp
        have h1 := setLoop_ok .ready hw hlive hG hr hp hL (hLR.turn .ready .ready none ⟨rfl, rfl⟩)
        exact ⟨_, _, run_endRound none hL, hR _ _ (.bool true) h1.2⟩
      · rename_i hne
        cases h
        refine ⟨setLoop_mono hw hlive, fun G ρ w p a R hG hr hp hR => ?_⟩
        obtain ⟨_, L, hL, hLR⟩ := loop_at hl hG hr hp
        have h1 := setLoop_ok (.done e) hw hlive hG hr hp hL (hLR.turn (.done e) .done (some (exCode e)) ⟨rfl, rfl⟩)
        cases e with
        | normal => exact (hne rfl).elim
        | exit id => exact ⟨_, _, run_endRound (some (.exit id)) hL, hR _ _ (.bool false) h1.2⟩
        | ret => exact ⟨_, _, run_endRound (some .ret) hL, hR _ _ (.bool false) h1.2⟩
    · cases h
  · cases h
theorem runRound_ok {rec : Task → St → Option (Ans × St)} (hg : Good P rec) {n : Nat} {r : LoopL} {f : Fr} {s s' : St} {v : LV} (hw : WF s) (h : runRound rec n r f s = some (v, s')) : Mono s s' ∧
    ∀ (ro : Option Nat) (G : Nat → Prop) (ρ : Ren) (w : World) (p : Pl) (tmps : Array Value) (fn : FuncId) (R : Ending → World → Prop), G n → n < s.next → Gok G s' → RepOn G ρ s.heap w → Fresh ρ s s' → ρ n = some p → TmRel ρ { f with marks := [], rnd := true } { tmps := tmps, defers := [] } →
      (∀ ρ' x w', VR ρ' v x → Ext G s s' ρ ρ' w w' → R (.returned x) w') → RoundIn (Fw ro) 0 P p.blk fn tmps r.assign r.body w R := by
  unfold runRound at h
  split at h
  · rename_i f1 s1 h1
    obtain ⟨hm1, hrn1, hc1⟩ := hg _ _ _ _ hw h1
    have hw1 := hm1.wf hw
    split at h
    · rename_i r1 hl1 hmk1
      have hlive1 := loop_live hl1
      split at h
      · rename_i hst1
        split at h
        · rename_i e f2 s2 h2
          have hmb := setLoop_mono (r := r1) (st := .busy) hw1 hlive1
          have hwb := hmb.wf hw1
          obtain ⟨hm2, hrn2, hc2⟩ := hg _ _ _ _ hwb h2
          have hw2 := hm2.wf hwb
          obtain ⟨hm3, hend⟩ := endRound_ok (P := P) hw2 h
          have hm12 := hm1.trans (hmb.trans hm2)
          refine ⟨hm12.trans hm3, fun ro G ρ w p tmps fn R hGn hnlt hG hr hf hp ht hR => ?_⟩
          have hG2 := hG.back hm3
          have hGb := hG2.back hm2
          have hG1 := hGb.back hmb
          have hle1 : ∀ ρ1 w1, Ext G s s1 ρ ρ1 w w1 → ρ1 n = some p := fun ρ1 w1 e1 => by rw [e1.out n (.inl hnlt)]; exact hp
          refine roundIn_of_wpIn (F := Fw ro) trivial (wpS.wp (hc1 (some p.blk) G ρ w _ _ (fun e => by cases e) hG1 hr (hf.left (hmb.trans (hm2.trans hm3))) ht fun ρ1 w1 a1 e1 ht1 => ?_))
          have hp1 := hle1 ρ1 w1 e1
          obtain ⟨_, L, hL, hLR⟩ := loop_at hl1 hGn e1.rep hp1
          have hready : L.state = .ready := by have := hLR.st; rw [hst1] at this; exact this.1
          have hb := setLoop_ok (r := r1) .busy hw1 hlive1 hGn e1.rep hp1 hL (hLR.turn .busy .busy L.pending rfl)
          refine ⟨_, run_beginRound hL hready, ?_⟩
          have hf1 : Fresh ρ1 s1 s' := hf.right hm1 e1
          have hfb : Fresh ρ1 (s1.setLoop n r1 .busy) s' := hf1.right hmb hb.2
          refine wpS.wp (hc2 (some p.blk) G ρ1 _ a1 _ (fun e => by rw [hrn1] at e; cases e) hG2 hb.2.rep (hfb.left hm3) ht1 fun ρ2 w2 a2 e2 ht2 => ?_)
          have hn1 : n < (s1.setLoop n r1 .busy).next := Nat.lt_of_lt_of_le hnlt (Nat.le_trans hm1.next hmb.next)
          have hp2 : ρ2 n = some p := by rw [e2.out n (.inl hn1)]; exact hp1
          refine hend G ρ2 w2 p a2 R hGn e2.rep hp2 fun x w3 hx e3 => ?_
          exact hR ρ2 x w3 hx ((e1.trans hw hm1 (hmb.trans hm2) (hb.2.trans hw1 hmb hm2 e2)).trans hw hm12 hm3 e3)
        · cases h
      · cases h
    · cases h
  · cases h
theorem runOpF_eq (rec : Task → St → Option (Ans × St)) (ops : Array Oper) (o : Oper) (fr : Fr) (s : St) : runOpF P rec ops o fr s = runOp P rec ops o fr s := by
  unfold runOpF runOp
  have hw : wantF o.guard fr ops o = wantedL fr ops o := by
    unfold wantF
    cases h : o.guard with
    | none => unfold wantedL; rw [h]
    | some p => rfl
  rw [hw, doOpF_eq]
  cases wantedL fr ops o with
  | false => rfl
  | true =>
    show finOp rec (doOp P fr o.op s) fr o.dst = _
    cases doOp P fr o.op s with
    | none => rfl
    | some p =>
      obtain ⟨r, s1⟩ := p
      cases r with
      | val v => rfl
      | skip => rfl
      | enter f args =>
        show finCall (rec (.call f args) s1) fr o.dst = _
        dsimp only
        unfold finCall
        cases h : rec (.call f args) s1 with
        | none => rfl
        | some q =>
          obtain ⟨a, s2⟩ := q
          cases a <;> rfl
      | round n r f => rfl
theorem runOpsF_eq (rec : Task → St → Option (Ans × St)) (ops : Array Oper) : ∀ (os : List Oper) (fr : Fr) (s : St), runOpsF P rec ops os fr s = runOps P rec ops os fr s
  | [], fr, s => rfl
  | o :: os, fr, s => by
    show nextF (runOpF P rec ops o fr s) (runOpsF P rec ops os) = _
    rw [runOpF_eq]
    unfold nextF runOps
    cases runOp P rec ops o fr s with
    | none => rfl
    | some p =>
      obtain ⟨fr1, s1⟩ := p
      exact runOpsF_eq rec ops os fr1 s1
def OpOK (P : Program) (ops : Array Oper) (o : Oper) (fr : Fr) (s : St) (fr' : Fr) (s' : St) : Prop :=
  ∀ (ro : Option Nat) (G : Nat → Prop) (ρ : Ren) (w : World) (a : Act) (K : Act → World → Prop) (Q : Exit → Act → World → Prop), Gok G s' → RepOn G ρ s.heap w → Fresh ρ s s' → TmRel ρ fr a →
    (∀ ρ' w' a', Ext G s s' ρ ρ' w w' → TmRel ρ' fr' a' → K a' w') →
    if Region.wanted o (yielded ops a.tmps) then o.wpIn (Fw ro) 0 P a w K Q else (∀ f, o.about P w a.eval = some f → (Fw ro).fn f) ∧ K (a.put o.dst undef) w
theorem semAt_fw {ro : Option Nat} {a : Act} {o : Oper} {fr : Fr} {s s' : St} {r : R} (h : doOp P fr o.op s = some (r, s')) : o.semAt (Fw ro).round a.eval = execOp a.eval o := by
  refine Oper.semAt_eq _ _ _ fun c e => ?_
  rw [e] at h
  cases h
theorem runOp_ok {rec : Task → St → Option (Ans × St)} (hg : Good P rec) (hng : NoNG P) {ops : Array Oper} {o : Oper} {fr fr' : Fr} {s s' : St} (hw : WF s) (h : runOp P rec ops o fr s = some (fr', s')) :
    Mono s s' ∧ (fr'.nt = fr.nt ∧ fr'.marks = fr.marks ∧ fr'.rnd = fr.rnd) ∧ OpOK P ops o fr s fr' s' := by
  unfold runOp at h
  rcases Bool.eq_false_or_eq_true (wantedL fr ops o) with hwt | hwt
  · rw [hwt] at h
    simp only [cond_true] at h
    split at h
    · rename_i v s1 hop
      split at h
      · rename_i f1 hp
        cases h
        refine ⟨doOp_mono hw hop, ⟨put_nt hp, put_marks hp⟩, fun ro G ρ w a K Q hG hr hf ht hK => ?_⟩
        rw [wanted_eq ht, hwt]
        simp only [if_true]
        obtain ⟨hm, ρ', w', nx, h1, h2, h3⟩ := doOp_ok hng hop ht hw hG hr hf
        refine ⟨fun _ _ => trivial, ?_⟩
        rw [semAt_fw hop, h1]
        cases nx <;> first | (exact h3.elim; done) | skip
        exact hK ρ' w' _ h2 ((ht.mono (h2.le hf)).put hp h3)
      · cases h
    · rename_i s1 hop
      split at h
      · rename_i f1 hp
        cases h
        refine ⟨doOp_mono hw hop, ⟨put_nt hp, put_marks hp⟩, fun ro G ρ w a K Q hG hr hf ht hK => ?_⟩
        rw [wanted_eq ht, hwt]
        simp only [if_true]
        obtain ⟨hm, ρ', w', nx, h1, h2, h3⟩ := doOp_ok hng hop ht hw hG hr hf
        refine ⟨fun _ _ => trivial, ?_⟩
        rw [semAt_fw hop, h1]
        cases nx <;> first | (exact h3.elim; done) | skip
        exact hK ρ' w' _ h2 ((ht.mono (h2.le hf)).put hp vr_un)
      · cases h
    · rename_i f args s1 hop
      split at h
      · rename_i v s2 hrec
        split at h
        · rename_i f1 hp
          cases h
          have hm1 := doOp_mono hw hop
          have hw1 := hm1.wf hw
          obtain ⟨hm2, hcall⟩ := hg _ _ _ _ hw1 hrec
          refine ⟨hm1.trans hm2, ⟨put_nt hp, put_marks hp⟩, fun ro G ρ w a K Q hG hr hf ht hK => ?_⟩
          rw [wanted_eq ht, hwt]
          simp only [if_true]
          obtain ⟨_, ρ1, w1, nx, h1, h2, h3⟩ := doOp_ok hng hop ht hw (hG.back hm2) hr (hf.left hm2)
          refine ⟨fun _ _ => trivial, ?_⟩
          rw [semAt_fw hop, h1]
          cases nx <;> first | (exact h3.elim; done) | skip
          rename_i g xs
          obtain ⟨rfl, hxs⟩ := h3
          refine ⟨fun e => (by cases e), ?_⟩
          have hc := hcall G ρ1 w1 xs hG h2.rep (hf.right hm1 h2) hxs
          refine CallsIn.mono (F := Fw ro) hc ?_
          rintro e w2 ⟨ρ2, x, rfl, hx, he2⟩
          have he := h2.trans hw hm1 hm2 he2
          exact hK ρ2 w2 _ he ((ht.mono (he.le hf)).put hp hx)
        · cases h
      · cases h
    · rename_i n0 r0 f0 s1 hop
      obtain ⟨hchk, h⟩ := cond_some h
      split at h
      · rename_i v s2 hrnd
        split at h
        · rename_i f1 hp
          cases h
          have hm1 := doOp_mono hw hop
          have hw1 := hm1.wf hw
          obtain ⟨hm2, hround⟩ := runRound_ok hg hw1 hrnd
          refine ⟨hm1.trans hm2, ⟨put_nt hp, put_marks hp⟩, fun ro G ρ w a K Q hG hr hf ht hK => ?_⟩
          rw [wanted_eq ht, hwt]
          simp only [if_true]
          obtain ⟨_, ρ1, w1, nx, h1, h2, h3⟩ := doOp_ok hng hop ht hw (hG.back hm2) hr (hf.left hm2)
          refine ⟨fun _ _ => trivial, ?_⟩
          rw [semAt_fw hop, h1]
          cases nx <;> first | (exact h3.elim; done) | skip
          rename_i l fn tmps asg bod
          obtain ⟨p, hpn, rfl, rfl, rfl, htm⟩ := h3
          refine ⟨fun e => (by cases e), ?_⟩
          have hn0 : Live s1.heap n0 ∧ n0 < s1.next ∧ G n0 := by
            simp only [Bool.and_eq_true, Bool.or_eq_true] at hchk
            obtain ⟨r9, hr9⟩ := Option.isSome_iff_exists.1 hchk.1
            have hl1 := loop_live hr9
            have hlt := live_lt hw1 hl1
            refine ⟨hl1, hlt, ?_⟩
            rcases hchk.2 with h5 | h5
            · exact (hG.back hm2).own n0 (Nat.le_of_ble_eq_true h5) hlt
            · exact (hG.back hm2).fp n0 (by simpa using h5)
          refine (hround ro G ρ1 w1 p tmps fn _ hn0.2.2 hn0.2.1 hG h2.rep (hf.right hm1 h2) hpn htm fun ρ2 x w2 hx he2 => ?_)
          have he := h2.trans hw hm1 hm2 he2
          exact hK ρ2 w2 _ he ((ht.mono (he.le hf)).put hp hx)
        · cases h
      · cases h
    · cases h
  · rw [hwt] at h
    simp only [cond_false] at h
    split at h
    · rename_i f1 hp
      cases h
      refine ⟨Mono.refl s, ⟨put_nt hp, put_marks hp⟩, fun ro G ρ w a K Q hG hr hf ht hK => ?_⟩
      rw [wanted_eq ht, hwt]
      simp only [Bool.false_eq_true, if_false]
      exact ⟨fun _ _ => trivial, hK ρ w _ (ext_refl hr) (ht.put hp vr_un)⟩
    · cases h
end
end Go.Proofs.YtfnkomoickanfaaGreatDoor.Ev
