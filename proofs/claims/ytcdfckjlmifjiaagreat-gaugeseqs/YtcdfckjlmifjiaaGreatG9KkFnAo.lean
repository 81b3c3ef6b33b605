/-
  All code; and a call without arguments.
-/
import Derived.Test.YtcdfckjlmifjiaaGreatG6G7G8
import Derived.Test.YtcdfckjlmifjiaaGreatProg
import Derived.Test.YtcdfckjlmifjiaaGreatEpEhEiElAyEmEaEcBuBvEjErFm
import Derived.Test.YtcdfckjlmifjiaaGreatFaOfFd
import Derived.Deep.DeepFit
import Derived.Test.YtcdfckjlmifjiaaGreatEoEqDpAaDcUkUlUmVsUoDmVtAf
namespace Go.Proofs.YtcdfckjlmifjiaaGreat.Ev
open Go.RowKit
section
variable {P : Program} {rec : Task → St → Option (Ans × St)}
theorem fold_in (thr : Nat) : ∀ (l acc : List Nat) (n : Nat), n ∈ l.foldl (fun l n => cond (n.blt thr && !l.contains n) (n :: l) l) acc ↔ n ∈ acc ∨ (n ∈ l ∧ n < thr)
  | [], acc, n => by simp
  | x :: xs, acc, n => by
    simp only [List.foldl_cons]
    rw [fold_in thr xs]
    have hx : n ∈ cond (x.blt thr && !acc.contains x) (x :: acc) acc ↔ n ∈ acc ∨ (n = x ∧ x < thr) := by
      cases h1 : x.blt thr with
      | false =>
        have : ¬ x < thr := fun h => by
          have : x.blt thr = true := by simpa [Nat.blt_eq] using h
          rw [h1] at this; cases this
        simp [this]
      | true =>
        have hlt : x < thr := Nat.le_of_ble_eq_true h1
        cases h2 : acc.contains x with
        | false => simp [hlt]; exact Or.comm
        | true =>
          have hm : x ∈ acc := by simpa using h2
          simp only [Bool.not_true, Bool.and_false, cond_false]
          constructor
          · exact .inl
          · rintro (h | ⟨rfl, _⟩)
            · exact h
            · exact hm
    rw [hx]
    constructor
    · rintro ((h | ⟨rfl, h⟩) | ⟨h, h'⟩)
      · exact .inl h
      · exact .inr ⟨by simp, h⟩
      · exact .inr ⟨by simp [h], h'⟩
    · rintro (h | ⟨h, h'⟩)
      · exact .inl (.inl h)
      · rcases List.mem_cons.1 h with rfl | h
        · exact .inl (.inr ⟨rfl, h'⟩)
        · exact .inr ⟨h, h'⟩
theorem fold_met (thr : Nat) (f : Met → List Nat) : ∀ (ms : List Met) (acc : List Nat) (n : Nat), n ∈ ms.foldl (fun l m => (f m).foldl (fun l n => cond (n.blt thr && !l.contains n) (n :: l) l) l) acc ↔ n ∈ acc ∨ ∃ m ∈ ms, n ∈ f m ∧ n < thr
  | [], acc, n => by simp
  | x :: xs, acc, n => by
    simp only [List.foldl_cons]
    rw [fold_met thr f xs, fold_in]
    constructor
    · rintro ((h | h) | ⟨m, h1, h2⟩)
      · exact .inl h
      · exact .inr ⟨x, by simp, h⟩
      · exact .inr ⟨m, by simp [h1], h2⟩
    · rintro (h | ⟨m, h1, h2⟩)
      · exact .inl (.inl h)
      · rcases List.mem_cons.1 h1 with rfl | h1
        · exact .inl (.inr h2)
        · exact .inr ⟨m, h1, h2⟩
theorem runDraw_ok (hg : Good P rec) (hng : NoNG P) (hmix : P.follows .mixedOrders = true) {id : Nat} {ops : Array Oper} {fr fr' : Fr} {s s1 : St} {ms : List Met} (hw : WF s) (hok : drawOk ops (masks ops.toList []) = true)
    (h : runDraw P rec ops ops.toList (masks ops.toList []) 0 [] fr s = some (fr', s1, ms)) :
    Mono s (s1.back s.thr s.fp s.wr ms) ∧ fr'.rnd = fr.rnd ∧ CodeOK P (.region id ops true) fr s .normal fr' (s1.back s.thr s.fp s.wr ms) := by
  obtain ⟨S, R, T, rfl, rfl, rfl, rfl, hmem, hback⟩ := trc_of hok h
  have A := stp_of hg hng T hw
  have bfp : ∀ n, n ∈ ((S ops.size).back (S 0).thr (S 0).fp (S 0).wr ms).fp ↔ n ∈ (S 0).fp ∨ ∃ j, j < ops.size ∧ n ∈ (S (j + 1)).fp ∧ n < (S 0).thr := fun n => by
    unfold St.back
    dsimp only
    rw [fold_met (S 0).thr (·.fp)]
    constructor
    · rintro (h | ⟨m, h1, h2, h3⟩)
      · exact .inl h
      · obtain ⟨j, hj, rfl⟩ := hback m h1
        exact .inr ⟨j, hj, h2, h3⟩
    · rintro (h | ⟨j, hj, h2, h3⟩)
      · exact .inl h
      · exact .inr ⟨_, hmem j hj, h2, h3⟩
  have bwr : ∀ n, n ∈ ((S ops.size).back (S 0).thr (S 0).fp (S 0).wr ms).wr ↔ n ∈ (S 0).wr ∨ ∃ j, j < ops.size ∧ n ∈ (S (j + 1)).wr ∧ n < (S 0).thr := fun n => by
    unfold St.back
    dsimp only
    rw [fold_met (S 0).thr (·.wr)]
    constructor
    · rintro (h | ⟨m, h1, h2, h3⟩)
      · exact .inl h
      · obtain ⟨j, hj, rfl⟩ := hback m h1
        exact .inr ⟨j, hj, h2, h3⟩
    · rintro (h | ⟨j, hj, h2, h3⟩)
      · exact .inl h
      · exact .inr ⟨_, hmem j hj, h2, h3⟩
  have hmono : Mono (S 0) ((S ops.size).back (S 0).thr (S 0).fp (S 0).wr ms) := by
    refine ⟨rfl, A.next (Nat.zero_le _) (Nat.le_refl _), fun n hn => (bfp n).2 (.inl hn), fun n hn => (bwr n).2 (.inl hn), fun n h1 h2 h3 => ?_, fun n h1 h2 => A.dead h1 h2 (Nat.le_refl _), fun _ => ⟨(A.wf _ (Nat.le_refl _)).none, (A.wf _ (Nat.le_refl _)).lt, Nat.le_trans hw.thr (A.next (Nat.zero_le _) (Nat.le_refl _))⟩, fun hq n hn => ?_, fun hq n hn => ?_⟩
    · have : ∀ i, i ≤ ops.size → (S i).heap.get n = (S 0).heap.get n := by
        intro i
        induction i with
        | zero => exact fun _ => rfl
        | succ i ih =>
          intro hi
          rw [A.same (by omega) ?_, ih (by omega)]
          rintro (ht | ht)
          · exact h3 ((bwr n).2 (.inr ⟨i, by omega, ht, h2⟩))
          · have := A.next (Nat.zero_le i) (by omega); omega
      exact this _ (Nat.le_refl _)
    · rcases (bwr n).1 hn with h1 | ⟨j, hj, h1, h2⟩
      · exact (bfp n).2 (.inl (hq n h1))
      · exact (bfp n).2 (.inr ⟨j, hj, A.wr_fp j hj n h1, h2⟩)
    · rcases (bfp n).1 hn with h1 | ⟨j, hj, h1, h2⟩
      · exact hq n h1
      · exact h2
  refine ⟨hmono, (A.mks _ (Nat.le_refl _)).2, fun ro G ρ0 w0 a0 Q _ hG hr hf ht hQ => ?_⟩
  have hn : (R 0).nt < 1000000000 := ht.room
  have hthr := hw.thr
  have hGf : ∀ i, i < ops.size → ∀ m ∈ (S (i + 1)).fp, G m := fun i hi m hm => by
    rcases Nat.lt_or_ge m (S 0).thr with h1 | h1
    · exact hG.fp m ((bfp m).2 (.inr ⟨i, hi, hm, h1⟩))
    · exact hG.own m h1 (Nat.lt_of_lt_of_le (A.fp_lt i hi m hm) (A.next (by omega) (Nat.le_refl _)))
  have hGo : ∀ i, i < ops.size → ∀ m, (S i).next ≤ m → m < (S (i + 1)).next → G m := fun i hi m h1 h2 => by
    have e1 := A.next (Nat.zero_le i) (by omega)
    exact hG.own m (show (S 0).thr ≤ m by omega) (Nat.lt_of_lt_of_le h2 (A.next (by omega) (Nat.le_refl _)))
  have hf0 : ∀ m, (S 0).next ≤ m → m < (S ops.size).next → ρ0 m = none := fun m h1 h2 => hf m h1 h2
  show (Code.region id ops true).wpIn (Fw ro) 0 P Q a0 w0
  refine wpIn_region_any hmix (wpAnyIn_inv (fun listed a w => ∃ ρ, InvD ops S R G ρ0 w0 listed a w ρ) T.ahead ?_ (fun listed a w ⟨ρ, I⟩ => I.size) ?_ _ _ _ _ (by simp) ⟨ρ0, ?_⟩)
  · rintro listed a w ⟨ρ, I⟩ hall
    have hH : ∀ m, Hd S (fun i => listed.getD i false) ops.size m = (S ops.size).heap.get m := A.all (Nat.le_refl _) (fun j hj => hall j hj)
    have hT : ∀ t, Td R ops (fun i => listed.getD i false) ops.size t = (R ops.size).get t := Td_all T A hn (Nat.le_refl _) (fun j hj => hall j hj)
    refine hQ ρ w a ⟨fun m hm => ?_, ⟨fun m b hGm hb => I.rep m b hGm (by rw [hH]; exact hb), fun m k hGm hGk hlm hlk hne => I.sep m k hGm hGk (by rw [hH]; exact hlm) (by rw [hH]; exact hlk) hne⟩, I.frame, I.wsize, I.os, I.tape, I.output, fun m p h1 h2 hl hp => I.fresh m p h1 (by rw [hH]; exact hl) hp⟩ ⟨by rw [I.tsz, A.nt _ (Nat.le_refl _)], fun t => by rw [← hT]; exact I.tm t, by rw [A.nt _ (Nat.le_refl _)]; exact hn, by rw [(A.mks _ (Nat.le_refl _)).1]; exact I.dfs⟩
    refine I.out m fun i hi _ hoi => ?_
    have e1 := A.next (Nat.zero_le i) (by omega)
    have e2 := A.next (i := i + 1) (by omega) (Nat.le_refl _)
    rcases hm with hm | hm
    · omega
    · have hm' : (S ops.size).next ≤ m := hm
      omega
  · rintro listed a w ⟨ρ, I⟩ i o ho hi hr'
    have his : i < ops.size := (Array.getElem?_eq_some_iff.1 ho).1
    exact inv_step hg hng T A hn I ho hi hr' (hGf i his) (hGo i his) hf0 fun ρ' a' w' I' => ⟨ρ', I'⟩
  · have hl0 : ∀ i, (Array.replicate ops.size false).getD i false = false := fun i => by
      rw [Array.getD_eq_getD_getElem?, Array.getElem?_replicate]
      split <;> rfl
    have hH : ∀ k m, Hd S (fun i => (Array.replicate ops.size false).getD i false) k m = (S 0).heap.get m := by
      intro k
      induction k with
      | zero => intro m; rfl
      | succ k ih => intro m; simp only [Hd]; rw [if_neg (fun e => by rw [hl0] at e; cases e.1)]; exact ih m
    have hT : ∀ k t, Td R ops (fun i => (Array.replicate ops.size false).getD i false) k t = (R 0).get t := by
      intro k
      induction k with
      | zero => intro m; rfl
      | succ k ih => intro m; simp only [Td]; rw [if_neg (fun e => by rw [hl0] at e; cases e.1)]; exact ih m
    refine ⟨by simp, fun i o hi => (by have hi' : (Array.replicate ops.size false).getD i false = true := hi; rw [hl0] at hi'; cases hi'), fun m _ => rfl, fun m b hGm hb => ?_, fun m k hGm hGk hlm hlk hne => ?_, ht.size, fun t => by rw [hT]; exact ht.val t, ht.dfs, fun b hb _ => rfl, Nat.le_refl _, rfl, rfl, rfl, fun m p h1 hl hp => ?_⟩
    · rw [hH] at hb
      exact (hr.rep m b hGm hb).keep (fun _ _ h => h) fun _ _ => rfl
    · rw [hH] at hlm hlk
      exact hr.sep m k hGm hGk hlm hlk hne
    · rw [hH, hw.none m h1] at hl
      exact absurd rfl hl
theorem runRegion_ok (hg : Good P rec) (hng : NoNG P) (hmix : P.follows .mixedOrders = true) {id : Nat} {ops : Array Oper} {draw : Bool} {fr : Fr} {s s' : St} {r : Ans} (hw : WF s) (h : runRegion P rec ops draw fr s = some (r, s')) : TaskOK P (.code (.region id ops draw) fr) s r s' := by
  unfold runRegion at h
  cases draw with
  | true =>
    simp only [cond_true] at h
    obtain ⟨hok, h⟩ := cond_some h
    split at h
    · rename_i fr' s1 ms hd
      cases h
      exact runDraw_ok hg hng hmix hw hok hd
    · cases h
  | false =>
    simp only [cond_false, runOpsF_eq] at h
    split at h
    · rename_i fr' s1 hd
      cases h
      obtain ⟨hm, hn, hk⟩ := runOps_ok hg hng _ 0 _ _ _ _ (by simp) hw hd
      refine ⟨hm, hn, fun ro G ρ w a Q hro hG hr hf ht hQ => ?_⟩
      show (Code.region id ops false).wpIn (Fw ro) 0 P Q a w
      refine wpIn_region ?_
      have := hk ro G ρ w a Q hG hr hf ht hQ
      rw [List.range_eq_range']
      simpa using this
    · split at h
      · rename_i fr' s1 hd
        cases h
        obtain ⟨hm, hn, hk⟩ := runOpsD_ok hg hng _ 0 _ _ _ _ (by simp) hw hd
        refine ⟨hm, hn, fun ro G ρ w a Q hro hG hr hf ht hQ => ?_⟩
        show (Code.region id ops false).wpIn (Fw ro) 0 P Q a w
        refine wpIn_region ?_
        have := hk ro G ρ w a Q hro hG hr hf ht hQ
        rw [List.range_eq_range']
        simpa using this
      · cases h
theorem runRange_ok (hg : Good P rec) (hng : NoNG P) {g : Operand} {ps : Array Tmp} {assign body : Code} {fr : Fr} {s s' : St} {r : Ans} (hw : WF s) (h : runRange P rec g ps.toList assign body fr s = some (r, s')) : TaskOK P (.code (.rangeFunc g ps assign body) fr) s r s' := by
  unfold runRange at h
  split at h
  · rename_i gf cap hrnd hgv
    split at h
    · cases h
    · rename_i x0 hent
      split at h
      · rename_i d s1 hd
        split at h
        · rename_i n s2 hn
          split at h
          · rename_i v s3 hcall
            split at h
            · rename_i rr hlp
              have hmd := mono_new hd
              have hmn := mono_new hn
              have hw2 := hmn.wf (hmd.wf hw)
              obtain ⟨hm3, hc⟩ := hg _ _ _ _ hw2 hcall
              have hw3 := hm3.wf hw2
              have hlive := loop_live hlp
              have hlt := live_lt hw3 hlive
              have hm4 : Mono s3 (s3.set n none) := mono_set none (Nat.lt_of_lt_of_le hlt hw3.lt) hlive hlt
              have hmall := hmd.trans (hmn.trans (hm3.trans hm4))
              obtain ⟨hdn, _, hs1⟩ := new_eq hd
              obtain ⟨hnn, _, hs2⟩ := new_eq hn
              have hnx : n = s.next + 1 := by rw [hnn, hs1]
              have main : ∀ (e : Ex), (rr.st = .ready ∧ e = .normal) ∨ rr.st = .done e → CodeOK P (.rangeFunc g ps assign body) fr s e { fr with marks := .mark d :: fr.marks } (s3.set n none) := by
                intro e he ro G ρ w a Q hro hG hr hf ht hQ
                have hro' := hro hrnd
                subst hro'
                have hev := eval_vr ht hgv
                generalize hge : a.eval g = gv at hev
                have hcf : ∀ xs w, (callFunc gf xs).run P w = .ok (.enter gf xs) w := (enterF_ok hng (r := x0.1) (s' := x0.2) hent).2.2
                cases hev
                rename_i x1 y h1 h2
                cases h1
                have hG3 := hG.back hm4
                have hG2 := hG3.back hm3
                have hf2 : Fresh ρ s s2 := hf.left (hm3.trans hm4)
                have e1 : Ext G s s1 ρ (ρ.upd d ⟨w.heap.size, 0, 0⟩) w (w.alloc (.deferred (some []))) := ext_newA (cap := 0) hd hr (hf2.left hmn) rfl rfl rfl rfl ⟨fun e => (by cases e), fun x hx => by
                  cases hx
                  exact ⟨⟨w.heap.size, 0, 0⟩, by simp [Ren.upd], World.alloc_heap_new w (.deferred (some []))⟩⟩
                have hf3 := hf2.right hmd e1
                refine wpIn_rangeFunc fun fn hfn => ?_
                obtain ⟨L0, hL0⟩ : ∃ L0 : Loop, L0 = { state := .ready, pending := none, fn, tmps := a.tmps, params := ps, assign, body, defers := w.heap.size } := ⟨_, rfl⟩
                have hle1 := e1.le (hf2.left hmn)
                have hsz1 : (w.alloc (.deferred (some []))).heap.size = w.heap.size + 1 := by simp
                have e2 : Ext G s1 s2 (ρ.upd d ⟨w.heap.size, 0, 0⟩) ((ρ.upd d ⟨w.heap.size, 0, 0⟩).upd n ⟨(w.alloc (.deferred (some []))).heap.size, 0, 0⟩) (w.alloc (.deferred (some []))) ((w.alloc (.deferred (some []))).alloc (.loop L0)) := ext_newA (cap := 0) hn e1.rep hf3 rfl rfl rfl rfl ⟨fun e => (by cases e), fun x hx => by
                  cases hx
                  have hle2 : (ρ.upd d ⟨w.heap.size, 0, 0⟩).le ((ρ.upd d ⟨w.heap.size, 0, 0⟩).upd n ⟨(w.alloc (.deferred (some []))).heap.size, 0, 0⟩) := Ren.upd_le _ (hf3 n (by rw [hnn]; exact Nat.le_refl _) (by rw [hs2, hnn]; exact Nat.lt_succ_self _))
                  refine ⟨⟨(w.alloc (.deferred (some []))).heap.size, 0, 0⟩, by simp [Ren.upd], L0, World.alloc_heap_new _ _, ?_⟩
                  rw [hL0]
                  exact ⟨rfl, rfl, rfl, ht.size, fun t => ((ht.val t).mono hle1).mono hle2, ht.room, rfl, rfl⟩⟩
                have e12 := e1.trans hw hmd hmn e2
                have hle12 := e12.le hf2
                have hρn : ((ρ.upd d ⟨w.heap.size, 0, 0⟩).upd n ⟨(w.alloc (.deferred (some []))).heap.size, 0, 0⟩) n = some ⟨w.heap.size + 1, 0, 0⟩ := by simp [Ren.upd]
                have hdne : d ≠ n := by rw [hnx, hdn]; omega
                have hρd : ((ρ.upd d ⟨w.heap.size, 0, 0⟩).upd n ⟨(w.alloc (.deferred (some []))).heap.size, 0, 0⟩) d = some ⟨w.heap.size, 0, 0⟩ := by simp [Ren.upd, hdne]
                generalize hρ2 : ((ρ.upd d ⟨w.heap.size, 0, 0⟩).upd n ⟨(w.alloc (.deferred (some []))).heap.size, 0, 0⟩) = ρ2 at e2 e12 hle12 hρn hρd
                have hargs : VRs ρ2 (.yield n :: cap) (#[Value.func (.yield (w.heap.size + 1)) #[] #[]] ++ y.toArray).toList := by
                  have := VRs.cons (VR.yield (ρ := ρ2) hρn) (h2.mono hle12)
                  simpa using this
                have hfr : Fresh ρ2 s2 s3 := (hf.left hm4).right (hmd.trans hmn) e12
                have hcalls := hc G ρ2 ((w.alloc (.deferred (some []))).alloc (.loop L0)) (#[Value.func (.yield (w.heap.size + 1)) #[] #[]] ++ y.toArray) hG3 e12.rep hfr hargs
                generalize hW1 : (w.alloc (.deferred (some []))).alloc (.loop L0) = W1 at hcalls e12 e2
                refine ⟨w.heap.size + 1, [{ target := .collected w.heap.size, args := #[] }], W1, { target := .fn (.func gf) y.toArray, args := #[Value.func (.yield (w.heap.size + 1)) #[] #[]] }, W1, gf, #[Value.func (.yield (w.heap.size + 1)) #[] #[]] ++ y.toArray, W1, ?ent, ?res, fun _ _ => trivial, ?inv, fun e => (by cases e), CallsIn.mono (F := Fw none) hcalls ?fin⟩
                case ent =>
                  show (Instr.enterLoop fn a.tmps ps assign body none).run P w = _
                  rw [run_enterLoop_outer, ← hW1, hL0]
                case res => simp only [resolve, hge]; simp [go_sem]
                case inv => simp [invoke, hcf]
                case fin =>
                  rintro e0 w3 ⟨ρ3, x, rfl, hx, e3⟩
                  have hns2 : n < s2.next := by rw [hs2, hnn]; exact Nat.lt_succ_self _
                  have hds2 : d < s2.next := by rw [hs2, hs1, hdn]; show s.next < s.next + 1 + 1; omega
                  have hp3 : ρ3 n = some ⟨w.heap.size + 1, 0, 0⟩ := by rw [e3.out n (.inl hns2)]; exact hρn
                  have hd3 : ρ3 d = some ⟨w.heap.size, 0, 0⟩ := by rw [e3.out d (.inl hds2)]; exact hρd
                  have hGn : G n := gok_set hw3 hlive hG
                  obtain ⟨_, L, hL, hLR⟩ := loop_at hlp hGn e3.rep hp3
                  have hle3 := e3.le hfr
                  have hst := hLR.st
                  have hnb : L.state ≠ .busy := by
                    rcases he with ⟨h5, _⟩ | h5 <;> rw [h5] at hst <;> rw [hst.1] <;> simp
                  have e4 : Ext G s3 (s3.set n none) ρ3 ρ3 w3 (w3.putObj (w.heap.size + 1) (.loop { L with state := .exhausted })) := ext_drop hw3 hlive hGn e3.rep hp3 (fun k hk => World.putObj_heap_other hk) (by simp) rfl rfl rfl
                  have eall := e12.trans hw (hmd.trans hmn) (hm3.trans hm4) (e3.trans hw2 hm3 hm4 e4)
                  have htf : TmRel ρ3 { fr with marks := .mark d :: fr.marks } { a with defers := [{ target := .collected w.heap.size, args := #[] }] ++ a.defers } :=
                    ⟨ht.size, fun t => ((ht.val t).mono hle12).mono hle3, ht.room, .cons (p := ⟨w.heap.size, 0, 0⟩) hd3 ((ht.dfs.mono hle12).mono hle3)⟩
                  have hq := hQ ρ3 _ _ eall htf
                  refine ⟨_, _, run_endLoop hL hnb, ?_⟩
                  rcases he with ⟨h5, rfl⟩ | h5
                  · rw [h5] at hst
                    rw [hst.2] at hq ⊢
                    exact hq
                  · rw [h5] at hst
                    rw [hst.2] at hq ⊢
                    cases e with
                    | normal => exact wpIn_skip hq
                    | exit id => exact wpIn_exit hq
                    | ret => exact wpIn_ret hq
              split at h
              · rename_i hst
                cases h
                exact ⟨hmall, rfl, main .normal (.inl ⟨hst, rfl⟩)⟩
              · rename_i e hst
                cases h
                exact ⟨hmall, rfl, main e (.inr hst)⟩
              · cases h
            · cases h
          · cases h
        · cases h
      · cases h
  · cases h
theorem runTask_ok (hg : Good P rec) (hng : NoNG P) (hmix : P.follows .mixedOrders = true) : Good P (runTask P rec) := by
  intro t s r s' hw h
  cases t with
  | call f args => exact runCall_ok hg hng hw h
  | code c fr =>
    unfold runTask at h
    cases c with
    | skip =>
      cases h
      exact ⟨Mono.refl _, rfl, fun ro G ρ w a Q hro hG hr hf ht hQ => wpIn_skip (hQ ρ w a (ext_refl hr) ht)⟩
    | region id ops draw => exact runRegion_ok hg hng hmix hw h
    | seq x y =>
      dsimp only at h
      split at h
      · rename_i fr1 s1 h1
        obtain ⟨hm1, hn1, hc1⟩ := hg _ _ _ _ hw h1
        have h2 := hg _ _ _ _ (hm1.wf hw) h
        cases r with
        | call v => exact h2.elim
        | code e fr2 =>
          obtain ⟨hm2, hn2, hc2⟩ := h2
          refine ⟨hm1.trans hm2, hn2.trans hn1, fun ro G ρ w a Q hro hG hr hf ht hQ => ?_⟩
          refine wpIn_seq (wpS.wp (hc1 ro G ρ w a _ hro (hG.back hm2) hr (hf.left hm2) ht fun ρ1 w1 a1 e1 ht1 => ?_))
          exact wpS.wp (hc2 ro G ρ1 w1 a1 Q (fun e => hro (by rw [← hn1]; exact e)) hG e1.rep (hf.right hm1 e1) ht1 fun ρ2 w2 a2 e2 ht2 => hQ ρ2 w2 a2 (e1.trans hw hm1 hm2 e2) ht2)
      · rename_i hne
        have h1 := hg _ _ _ _ hw h
        cases r with
        | call v => exact h1.elim
        | code e fr2 =>
          obtain ⟨hm1, hn1, hc1⟩ := h1
          refine ⟨hm1, hn1, fun ro G ρ w a Q hro hG hr hf ht hQ => ?_⟩
          refine wpIn_seq (wpS.wp (hc1 ro G ρ w a _ hro hG hr hf ht fun ρ1 w1 a1 e1 ht1 => ?_))
          cases e with
          | normal => exact (hne fr2 s' h).elim
          | exit id => exact hQ ρ1 w1 a1 e1 ht1
          | ret => exact hQ ρ1 w1 a1 e1 ht1
    | cond x y z =>
      dsimp only at h
      split at h
      · rename_i t hx
        have h1 := hg _ _ _ _ hw h
        cases r with
        | call v => exact h1.elim
        | code e fr2 =>
          obtain ⟨hm1, hn1, hc1⟩ := h1
          refine ⟨hm1, hn1, fun ro G ρ w a Q hro hG hr hf ht hQ => ?_⟩
          have hv := eval_vr ht hx
          have hb : a.eval x = .bool t := by
            generalize a.eval x = y at hv
            cases hv; rfl
          refine wpIn_cond hb ?_
          have := wpS.wp (hc1 ro G ρ w a Q hro hG hr hf ht hQ)
          cases t <;> exact this
      · cases h
    | block id x =>
      dsimp only at h
      split at h
      · rename_i id' fr1 s1 h1
        cases h
        obtain ⟨hm1, hn1, hc1⟩ := hg _ _ _ _ hw h1
        refine ⟨hm1, hn1, fun ro G ρ w a Q hro hG hr hf ht hQ => ?_⟩
        refine wpIn_block (wpS.wp (hc1 ro G ρ w a _ hro hG hr hf ht fun ρ1 w1 a1 e1 ht1 => ?_))
        have hq := hQ ρ1 w1 a1 e1 ht1
        show if id' = id then Q .normal a1 w1 else Q (.exit id') a1 w1
        cases hb : id'.beq id with
        | true =>
          rw [hb] at hq
          rw [if_pos (Nat.eq_of_beq_eq_true hb)]
          exact hq
        | false =>
          rw [hb] at hq
          rw [if_neg (fun e => by subst e; rw [Nat.beq_refl] at hb; cases hb)]
          exact hq
      · rename_i hne
        have h1 := hg _ _ _ _ hw h
        cases r with
        | call v => exact h1.elim
        | code e fr2 =>
          obtain ⟨hm1, hn1, hc1⟩ := h1
          refine ⟨hm1, hn1, fun ro G ρ w a Q hro hG hr hf ht hQ => ?_⟩
          refine wpIn_block (wpS.wp (hc1 ro G ρ w a _ hro hG hr hf ht fun ρ1 w1 a1 e1 ht1 => ?_))
          cases e with
          | normal => exact hQ ρ1 w1 a1 e1 ht1
          | exit id' => exact (hne id' fr2 s' h).elim
          | ret => exact hQ ρ1 w1 a1 e1 ht1
    | loop x =>
      dsimp only at h
      split at h
      · rename_i fr1 s1 h1
        obtain ⟨hm1, hn1, hc1⟩ := hg _ _ _ _ hw h1
        have h2 := hg _ _ _ _ (hm1.wf hw) h
        cases r with
        | call v => exact h2.elim
        | code e fr2 =>
          obtain ⟨hm2, hn2, hc2⟩ := h2
          refine ⟨hm1.trans hm2, hn2.trans hn1, fun ro G ρ w a Q hro hG hr hf ht hQ => ?_⟩
          refine LoopIn.round (wpS.wp (hc1 ro G ρ w a _ hro (hG.back hm2) hr (hf.left hm2) ht fun ρ1 w1 a1 e1 ht1 => ?_))
          exact hc2 ro G ρ1 w1 a1 Q (fun e => hro (by rw [← hn1]; exact e)) hG e1.rep (hf.right hm1 e1) ht1 fun ρ2 w2 a2 e2 ht2 => hQ ρ2 w2 a2 (e1.trans hw hm1 hm2 e2) ht2
      · rename_i hne
        have h1 := hg _ _ _ _ hw h
        cases r with
        | call v => exact h1.elim
        | code e fr2 =>
          obtain ⟨hm1, hn1, hc1⟩ := h1
          refine ⟨hm1, hn1, fun ro G ρ w a Q hro hG hr hf ht hQ => ?_⟩
          refine LoopIn.round (wpS.wp (hc1 ro G ρ w a _ hro hG hr hf ht fun ρ1 w1 a1 e1 ht1 => ?_))
          cases e with
          | normal => exact (hne fr2 s' h).elim
          | exit id => exact hQ ρ1 w1 a1 e1 ht1
          | ret => exact hQ ρ1 w1 a1 e1 ht1
    | exit id =>
      cases h
      exact ⟨Mono.refl _, rfl, fun ro G ρ w a Q hro hG hr hf ht hQ => wpIn_exit (hQ ρ w a (ext_refl hr) ht)⟩
    | ret =>
      cases h
      exact ⟨Mono.refl _, rfl, fun ro G ρ w a Q hro hG hr hf ht hQ => wpIn_ret (hQ ρ w a (ext_refl hr) ht)⟩
    | rangeFunc g ps assign body => exact runRange_ok hg hng hw h
    | _ => cases h
theorem taskF_eq (t : Task) (s : St) : taskF t P rec s = runTask P rec t s := by
  cases t with
  | call f args => rfl
  | code c fr => cases c <;> rfl
theorem run_ok (hng : NoNG P) (hmix : P.follows .mixedOrders = true) : ∀ n, Good P (run P n)
  | 0 => fun _ _ _ _ _ h => by cases h
  | n + 1 => fun t s r s' hw h => by
    have h' : taskF t P (run P n) s = some (r, s') := h
    rw [taskF_eq] at h'
    exact runTask_ok (run_ok hng hmix n) hng hmix t s r s' hw h'
theorem nong_of (h : (P.funcs.toList.all fun fn => !fn.body.isSome || !(fn.name == "runtime.NumGoroutine")) = true) : NoNG P := by
  intro f fn hf hb
  have hm : fn ∈ P.funcs.toList := List.mem_of_getElem? (i := f) (by simpa using hf)
  have h1 := List.all_eq_true.1 h fn hm
  rw [hb] at h1
  simpa using h1
/-- A run that answers true. -/
def isTrue : Option (Ans × St) → Bool
  | some (.call (.bool true), _) => true
  | _ => false
theorem closed_call (hng : NoNG P) (hmix : P.follows .mixedOrders = true) {n : Nat} {f : FuncId} (h : isTrue (run P n (.call f []) St.start) = true) (w : World) : Calls P f #[] w fun r w' => r = .returned (.bool true) ∧ Below w.heap.size w w' := by
  cases hrun : run P n (.call f []) St.start with
  | none => rw [hrun] at h; cases h
  | some p =>
    obtain ⟨a, s'⟩ := p
    rw [hrun] at h
    unfold isTrue at h
    split at h
    · rename_i s2 e
      simp only [Option.some.injEq, Prod.mk.injEq] at e
      obtain ⟨rfl, rfl⟩ := e
      have hw : WF St.start := ⟨fun n _ => Tr.get_e n, by decide, by decide⟩
      obtain ⟨_, hc⟩ := run_ok hng hmix n _ _ _ _ hw hrun
      have hr : RepOn (fun _ => True) (fun _ => none) St.start.heap w := ⟨fun n b _ hb => (by rw [show St.start.heap.get n = none from Tr.get_e n] at hb; cases hb), fun n m _ _ hl => absurd (Tr.get_e n) hl⟩
      refine (callsIn_wide (n := 0)).1 ((hc (fun _ => True) (fun _ => none) w #[] ⟨fun _ _ => trivial, fun _ _ _ => trivial⟩ hr (fun _ _ _ => rfl) .nil).mono ?_)
      rintro e w' ⟨ρ', x, rfl, hx, he⟩
      cases hx
      exact ⟨rfl, he.os, he.tape, he.output, he.size, fun k hk => he.frame k hk fun n p _ hl => absurd (Tr.get_e n) hl⟩
    · cases h
end
end Go.Proofs.YtcdfckjlmifjiaaGreat.Ev
/-
  The set-up of layer 9's laws answers true, in whatever memory, and leaves what was there.
-/
namespace Go.Proofs.YtcdfckjlmifjiaaGreat
open Go.RowKit
theorem nong7 : Ev.NoNG Tryz.prog := Ev.nong_of (by kernel_rfl)
theorem begun9_any (w : World) : Calls Tryz.prog 4 #[] w fun r w' => r = .returned (.bool true) ∧ Below w.heap.size w w' :=
  Ev.closed_call nong7 (by kernel_rfl) (n := 100000) (by kernel_rfl) w
end Go.Proofs.YtcdfckjlmifjiaaGreat
/-
  GaugeSeqs' walk.
-/
namespace Go.Proofs.YtcdfckjlmifjiaaGreat
open Go.RowKit
set_option linter.unusedVariables false
set_option linter.unusedSimpArgs false

theorem cut8_lies {w : World} {p : Option Addr} {n nc : Nat} {hs0 : List Hdr} (h : RZ w p n nc hs0) (R E L : Nat) (hR : R ≤ 1000) (hE : E ≤ 1000) (hL : L ≤ 24) :
    Calls Tryz.prog 5 #[.slice p n nc, .int .i64 R, .int .i64 E, .int .i64 L] w fun e w' => ∃ (k : Hdr) (z : List (List Int)), e = .returned (.slice k.p k.n k.c) ∧ Lies (EOp (R + 1) E L) 0 (fun _ => False) w' z k ∧ Below w.heap.size w w' := by
  refine (Cut8_any h R E L hR hE hL).mono ?_
  rintro e w' ⟨k, z, rfl, -, h2, h3⟩
  exact ⟨k, z, rfl, ⟨_, _, h2, Nat.le_refl _, Nat.zero_le _, fun b hb' => hb'.elim⟩, h3⟩
theorem from8_lies {D E K lo : Nat} {X : Nat → Prop} {w : World} {z : List (List Int)} {h : Hdr} (k : Lies (EOp D E K) lo X w z h) (hD : D ≤ 1000) (hE : E ≤ 1000) (hK : K ≤ 400) :
    Calls Tryz.prog 7 #[.slice h.p h.n h.c] w fun e w' => ∃ u : Hdr, e = .returned (.slice u.p u.n u.c) ∧ Lies (EOr D E (2 * K)) 0 (fun _ => False) w' (oz z) u ∧ Below w.heap.size w w' := by
  refine (from8_ax (X := fun _ => False) (lo := 0) k (Below.refl _ _) (fun c hc => hc.elim) (Nat.zero_le _) hD hE hK).mono ?_
  rintro e w' ⟨u, rfl, ⟨h1, rfl, h2⟩, h3⟩
  exact ⟨h1, rfl, h2, h3⟩
/-- What is there behind the cuts and conversions. -/
structure Seqs9 (w : World) (za zb' : List (List Int)) (ha hb hu hv : Hdr) (p q : Option Addr) (n nc m mc : Nat) (rs qs : List Rq) (zs ys : List Rat) (p' q' : Option Addr) (c d : Nat) (rs' qs' : List Rq) : Prop where
  a : Lies (EOp 7 6 3) 0 (fun _ => False) w za ha
  b : Lies (EOp 7 6 3) 0 (fun _ => False) w zb' hb
  wa : WA (EQ 24) w p n nc rs zs
  wb : WA (EQ 24) w q m mc qs ys
  u : Lies (EOr 7 6 6) 0 (fun _ => False) w (oz za) hu
  v : Lies (EOr 7 6 6) 0 (fun _ => False) w (oz zb') hv
  x : WA (EM 24) w p' n c rs' zs
  y : WA (EM 24) w q' m d qs' ys
set_option maxHeartbeats 4000000 in
set_option maxRecDepth 100000 in
theorem GaugeSeqs_walk {w : World} {p : Option Addr} {n nc : Nat} {hs0 : List Hdr} (h : RZ w p n nc hs0) {q : Option Addr} {m mc : Nat} {rs0 : List Hdr} (k : RZ w q m mc rs0) {r : Option Addr} {l lc : Nat} {es0 : List Rq} (hp : WZ w r l lc es0) {t : Option Addr} {o oc : Nat} {fs0 : List Rq} (hq : WZ w t o oc fs0) {i : Int} (hi : i ≤ 9223372036854775807) :
    Calls Tryz.prog 3 #[.slice p n nc, .slice q m mc, .slice r l lc, .slice t o oc, .int .i64 i] w fun e w' => e = .returned (.bool true) ∧ Below w.heap.size w w' := by
  have HX : Hid (RZ w p n nc hs0 ∧ RZ w q m mc rs0 ∧ WZ w r l lc es0 ∧ WZ w t o oc fs0) := ⟨h, k, hp, hq⟩
  clear h k hp hq
  go_enter Tryz.func3, Tryz.ntmps3
  go_wp2_with fail
  go_fit (begun9_any _)
  rintro e1 w1 ⟨rfl, hb1⟩
  have hc := cut8_lies (HX.out.1.below hb1) 6 6 3 (by decide) (by decide) (by decide)
  go_wp2_with fail
  go_fit hc
  rintro e1 w2 ⟨ha, za, rfl, hA, hb2⟩
  have hB2 := bnext' hb1 hb2
  have hc := cut8_lies (HX.out.2.1.below hB2) 6 6 3 (by decide) (by decide) (by decide)
  clear hb1 hb2
  go_wp2_with fail
  go_fit hc
  rintro e1 w3 ⟨hb, zb', rfl, hBb, hb3⟩
  have hB3 := bnext' hB2 hb3
  have hA3 := hA.below (lOp _ _ _) hb3
  have hc := window9_any (HX.out.2.2.1.below hB3)
  clear hB2 hb3 hA
  go_wp2_with fail
  go_fit hc
  rintro e1 w4 ⟨pa, na, ca, rs, zs, rfl, hwa, hna, hb4⟩
  have hB4 := bnext' hB3 hb4
  have hA4 := hA3.below (lOp _ _ _) hb4
  have hBb4 := hBb.below (lOp _ _ _) hb4
  have hc := window9_any (HX.out.2.2.2.below hB4)
  clear hB3 hb4 hA3 hBb
  go_wp2_with fail
  go_fit hc
  rintro e1 w5 ⟨pb', nb, cb, qs, ys, rfl, hwb, hnb, hb5⟩
  have hB5 := bnext' hB4 hb5
  have hA5 := hA4.below (lOp _ _ _) hb5
  have hBb5 := hBb4.below (lOp _ _ _) hb5
  have hwa5 := hwa.below (lasts_EQ 24) hb5
  have hc := from8_lies hA5 (by decide) (by decide) (by decide)
  clear hB4 hb5 hA4 hBb4 hwa HX
  go_wp2_with fail
  go_fit hc
  rintro e1 w6 ⟨hu, rfl, hU, hb6⟩
  have hB6 := bnext' hB5 hb6
  have hc := from8_lies (hBb5.below (lOp _ _ _) hb6) (by decide) (by decide) (by decide)
  go_wp2_with fail
  go_fit hc
  rintro e1 w7 ⟨hv, rfl, hV, hb7⟩
  have hb7' := bnext' hb6 hb7
  have hB7 := bnext' hB6 hb7
  have hc := rWindow11_any (hwa5.below (lasts_EQ 24) hb7') (by decide) (by decide) (by omega)
  go_wp2_with fail
  go_fit hc
  rintro e1 w8 ⟨px, nx, cx, xs', rfl, hwx, hb8⟩
  have hb8' := bnext' hb7' hb8
  have hB8 := bnext' hB7 hb8
  have hc := rWindow11_any (hwb.below (lasts_EQ 24) hb8') (by decide) (by decide) (by omega)
  go_wp2_with fail
  go_fit hc
  rintro e1 w9 ⟨py, ny, cy, ys', rfl, hwy, hb9⟩
  have hb9' := bnext' hb8' hb9
  have hnx : nx = na := by rw [← hwx.zl, hwa5.zl]
  have hny : ny = nb := by rw [← hwy.zl, hwb.zl]
  subst hnx
  subst hny
  have ST : Hid (Seqs9 w9 za zb' ha hb hu hv pa pb' nx ca ny cb rs qs zs ys px py cx cy xs' ys') := ⟨hA5.below (lOp _ _ _) hb9', hBb5.below (lOp _ _ _) hb9', hwa5.below (lasts_EQ 24) hb9', hwb.below (lasts_EQ 24) hb9', hU.below (lOr _ _ _) (bnext' hb7 (bnext' hb8 hb9)), hV.below (lOr _ _ _) (bnext' hb8 hb9), hwx.below (lasts_EM 24) hb9, hwy⟩
  have HB9 : Hid (Below w.heap.size w w9) := bnext' hB8 hb9
  clear hc hA5 hBb5 hwa5 hwb hU hV hwx hwy hb6 hb7 hb8 hb9 hb7' hb8' hb9' hB5 hB6 hB7 hB8
  obtain ⟨kA, kB, kwa, kwb, kU, kV, kx, ky⟩ := ST.out
  have sA := szb_at kA (by decide) (by decide) (by decide)
  have sB := szb_at kB (by decide) (by decide) (by decide)
  have za' := win_each kwa
  have zb'' := win_each kwb
  have F1 := fun v hb => gterm_at (v := v) kA kwa hb (by decide) (by decide) (by decide) (by omega) hi
  have F2 := fun v hb => rterm_at (v := v) kU kx sA hb (by decide) (by decide) (by decide) (by omega) za' hi
  have F3 := fun v hb => gclose_at (v := v) kA kB kwa kwb hb (by decide) (by decide) (by decide) (by omega) (by omega)
  have F4 := fun v hb => rclose_at (v := v) kU kV kx ky sA sB hb (by decide) (by decide) (by decide) (by omega) (by omega) za' zb''
  have F5 := fun v hb => gturn_at (v := v) (p := pa) (n := nx) (nc := ca) kA hb (by decide) (by decide) (by decide)
  have F6 := fun v hb => rturn_at (v := v) kU sA hb (by decide) (by decide) (by decide)
  have F7 := fun v hb => gcauchy_at (v := v) kA kB kwa kwb hb (by decide) (by decide) (by decide) (by omega) (by omega)
  have F8 := fun v hb => rcauchy_at (v := v) kU kV kx ky sA sB hb (by decide) (by decide) (by decide) (by omega) (by omega) za' zb''
  clear kA kB kwa kwb kU kV kx ky sA sB ST za' zb''
  generalize vTerm (oz za) (wbt zs) (max i 0) = V1 at *
  generalize vClose (oz za) (oz zb') nx ny (wbt zs) (wbt ys) = V2 at *
  generalize vTurn (oz za) = V3 at *
  generalize vCauchy (oz za) (oz zb') nx ny (wbt zs) (wbt ys) = V4 at *
  have G1 := F1 w9 (Below.refl _ _)
  go_wp2_with fail
  go_fit G1
  rintro e1 w10 ⟨rfl, hb10⟩
  have G2 := F2 w10 hb10
  clear G1 F1 F2
  go_wp2_with fail
  go_fit G2
  rintro e1 w11 ⟨rfl, hb11⟩
  have hB11 := bnext' hb10 hb11
  have G3 := F3 w11 hB11
  clear G2 F3 hb10 hb11
  go_wp2_with fail
  go_fit G3
  rintro e1 w12 ⟨rfl, hb12⟩
  have hB12 := bnext' hB11 hb12
  have G4 := F4 w12 hB12
  clear G3 F4 hb12 hB11
  go_wp2_with fail
  go_fit G4
  rintro e1 w13 ⟨rfl, hb13⟩
  have hB13 := bnext' hB12 hb13
  have G5 := F5 w13 hB13
  clear G4 F5 hb13 hB12
  go_wp2_with fail
  go_fit G5
  rintro e1 w14 ⟨rfl, hb14⟩
  have hB14 := bnext' hB13 hb14
  have G6 := F6 w14 hB14
  clear G5 F6 hb14 hB13
  go_wp2_with fail
  go_fit G6
  rintro e1 w15 ⟨rfl, hb15⟩
  have hB15 := bnext' hB14 hb15
  have G7 := F7 w15 hB15
  clear G6 F7 hb15 hB14
  go_wp2_with fail
  go_fit G7
  rintro e1 w16 ⟨rfl, hb16⟩
  have hB16 := bnext' hB15 hb16
  have G8 := F8 w16 hB16
  clear G7 F8 hb16 hB15
  go_wp2_with fail
  go_fit G8
  rintro e1 w17 ⟨rfl, hb17⟩
  have HBE : Hid (Below w.heap.size w w17) := bnext' HB9.out (bnext' hB16 hb17)
  clear G8 hB16 hb17
  go_wp2
  go_ret
  exact ⟨rfl, HBE.out⟩
end Go.Proofs.YtcdfckjlmifjiaaGreat
/-
  An api.Op as an argument.
-/
namespace Go.Proofs.YtcdfckjlmifjiaaGreat
open Go.ChangeShapes Go.WideShapes Go.ChangeAt Go.RowKit Go.Joins
set_option linter.unusedVariables false
set_option linter.unusedSimpArgs false

set_option maxRecDepth 100000 in
theorem openOp {H : Type} {enc : TypeId × Value → H} {W : World} {v0 : Value} {d0 : DataW H} {p0 : List MemPlace} {base : Nat} (hv : Value.okWide Tryz.prog W .any base 23 v0)
    (h0 : DataW.Trod enc Tryz.prog W 0 (fun _ => true) true 23 v0 d0 p0) : ∃ (p : Option Addr) (n nc : Nat) (hs : List Hdr), v0 = .slice p n nc ∧ RZ W p n nc hs := by
  obtain ⟨a0, len, cap, rfl⟩ := okWide_slice Tryz.underlying23 hv
  obtain ⟨fuel, hf⟩ := h0
  obtain ⟨-, h1, h2, h3, hs, h4, h5, h6⟩ := sliceT Tryz.underlying23 cellsP hf (E := fun h => ∃ es, PZ W h.p h.n h.c es) (fun fuel u y hy => polyT hy)
  exact ⟨a0, len, cap, hs, rfl, h4, h1, h2, h3, h5, h6⟩
end Go.Proofs.YtcdfckjlmifjiaaGreat
