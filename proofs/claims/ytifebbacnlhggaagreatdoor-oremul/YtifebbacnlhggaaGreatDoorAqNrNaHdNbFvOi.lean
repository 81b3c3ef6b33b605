/-
  ore.Each.
-/
import Derived.Test.YtifebbacnlhggaaGreatDoorRtDhVeRsVfVcAjDqDrBmBqDuAkBrAlAp
import Derived.Defers
import Derived.Recover
import Derived.Laws.Pointers
import Derived.Deep.DeepFit
import Derived.Test.YtifebbacnlhggaaGreatDoorMmWaWbWc
import Derived.RangeFuncNested
import Derived.RangeFuncBound
import Derived.Test.YtifebbacnlhggaaGreatDoorLnWrIbWgUeUfUg
import Derived.RangeFuncCalls
import Derived.RangeFuncLeaves
import Derived.Shelf.Abstract
import Derived.Shelf.RegionOpen
import Derived.WalkKit
import Derived.OwnWalkIn
import Derived.TacticsInMore
import Derived.LoopNIn
import Derived.LoopIn
import Derived.RegionTactic
namespace Go.Proofs.YtifebbacnlhggaaGreatDoor
open Go.RowKit
set_option linter.unusedVariables false
set_option linter.unusedSimpArgs false
set_option maxHeartbeats 8000000
theorem each_idle (p : Addr) (w : World) :
    CallsD Tryz.prog 173 #[.pointer (some p)] .returning w fun e u' w' => e = .returned (.tuple #[]) ∧ u' = .returning ∧ w' = w := by
  refine callsD_of_wpS Tryz.func173 rfl fun c₀ cs hu => ?_
  apply wpS_seq
  apply wpS_region
  simp [wpOpsS, go_sem, recoverD, hu, Tryz.ntmps173, Exit.thenS]
  refine wpS_cond (t := false) (by simp [Act.eval, Array.replicate]) ?_
  simp only [Bool.false_eq_true, if_false]
  refine wpS_of_wp (wp_skip ?_)
  cases c₀
  simp_all [bodyPostS, results, Tryz.results173]
theorem eq_nilO (f : Fn) (a b : Array Value) (w : World) : (binOp .eql 42 (.func f a b) .nilFunc).run Tryz.prog w = .ok (.bool false) w := by
  have h : ∀ d : Nat, (Op.equalIn (d + 1) 42 (.func f a b) .nilFunc).run Tryz.prog w = .ok false w := fun d => by
    simp [Op.equalIn, run_underlying Tryz.underlying42]
  simp only [binOp]
  simp [Op.equal, Op.maxDepth, h 9999]
theorem NO.put {B : Nat} {w : World} {K E : Nat} {l : List (List Int)} {p : Option Addr} {n : Nat} {hs : List Hdr} (h : NO B w K E l p n hs) {b o : Nat} (hb : b < B) (v : Value) : NO B (w.setCell ⟨b, o, none⟩ v) K E l p n hs :=
  ⟨h.el, h.tl, h.hl.same fun a ha _ _ => Below.heap_setCell w ⟨b, o, none⟩ v a.block (by have := h.fr a ha; show a.block ≠ b; omega), h.fr, fun j hj => let ⟨a, c, es, d⟩ := h.ev j hj; ⟨a, c, es, d.put hb v⟩⟩
theorem callEach2 (args : Array Value) (w' : World) : Sem.run Tryz.prog (callFunc 174 args) w' = .ok (.enter 174 args) w' := by
  have h1 : ¬ Tryz.f174.name = "runtime.NumGoroutine" := of_decide_eq_false (by kernel_rfl)
  have h2 : ¬ Tryz.f174.body = none := fun h => by cases h
  simp only [callFunc, Tryz.func174, go_sem]
  simp [h1, h2, go_sem]
set_option maxRecDepth 100000 in
theorem each2M_any {w : World} {lo base g K' : Nat} {J : Nat} {R0 : Value} {hd : Hdr} {z : List Int} {I : World → Prop} (hX : w.cell? ⟨g, 0, none⟩ = some (.func (.func J) #[R0] #[])) (hE0 : ∀ args w', Sem.run Tryz.prog (callFunc J args) w' = .ok (.enter J args) w') (hK : K' ≤ 1000)
    (hI : ∀ w1 w2, I w1 → Below base w1 w2 → I w2) (hbw : base ≤ w.heap.size)
    (hJ : Calls Tryz.prog J #[R0, Hdr.val hd] w fun e w' => ∃ p n c es, e = .returned (.slice p n c) ∧ PA w' K' p n c es z ∧ n ≤ 1000 ∧ I w' ∧ Kq lo base w w') :
    Calls Tryz.prog 174 #[Hdr.val hd, .pointer (some ⟨g, 0, none⟩)] w fun e w' => ∃ p n es, e = .returned (.slice p n n) ∧ PN w.heap.size w' K' p n es (tr z) ∧ I w' ∧ Kq lo base w w' := by
  obtain ⟨p, n, nc⟩ := hd
  simp only [Hdr.val] at hJ ⊢
  have HI := (show Hid _ from hI)
  clear hI
  go_enter Tryz.func174, Tryz.ntmps174
  go_wp2_with fail
  go_fit hJ
  rintro e w1 ⟨p1, n1, c1, es1, rfl, hP, hn1, hI1, hk1⟩
  have hc := uNorm_any K' p1 n1 c1 es1 z w1 hP (by omega) hK
  clear hJ hP
  go_wp2_with fail
  go_fit hc
  rintro e w2 ⟨p2, n2, es2, rfl, hN, hb2⟩
  have HR' : Hid (PN w.heap.size w2 K' p2 n2 es2 (tr z) ∧ I w2 ∧ Kq lo base w w2) := ⟨hN.mono hk1.size, HI.out _ _ hI1 (hb2.mono (Nat.le_trans hbw hk1.size)), hk1.trans (Kq.of hb2)⟩
  clear hc hN hb2 hk1 hI1
  go_wp2
  go_ret
  exact ⟨p2, n2, es2, rfl, HR'.out⟩
set_option maxRecDepth 100000 in
theorem oEachM_gen {w : World} {lo base B T K E D K' E' : Nat} {zss : List (List Int)} {h : Hdr} (H : HR D (EZ K E) w B T zss h) (hT : T ≤ w.heap.size) (hbw : base ≤ w.heap.size) (hD : D ≤ 1000) (hE : E ≤ 1000000) (hK : K ≤ 1000) (hK' : K' ≤ 1000) (hE' : E' ≤ 1000000) (J : Nat) (R0 : Value) (hE0 : ∀ args w', Sem.run Tryz.prog (callFunc J args) w' = .ok (.enter J args) w') (F : Nat → List Int) (I : Nat → World → Prop)
    (hI : ∀ i w1 w2, I i w1 → Below base w1 w2 → I i w2) (hI0 : I 0 w)
    (hJ : ∀ wq i p n es, i < olen zss → Kq lo base w wq → I i wq → PN w.heap.size wq K p n es (tr (gt zss i)) → n ≤ E → Calls Tryz.prog J #[R0, .slice p n n] wq fun e w' => ∃ p n c es, e = .returned (.slice p n c) ∧ PA w' K' p n c es (F i) ∧ n ≤ 1000 ∧ I (i + 1) w' ∧ Kq lo base wq w') (hF : ∀ i, i < olen zss → (F i).length ≤ E') :
    Calls Tryz.prog 146 #[.slice h.p h.n h.c, .func (.func J) #[R0] #[]] w (OpK lo base (I (olen zss)) ((List.range (olen zss)).map fun i => tr (F i)) K' E' w) := by
  have HN := (show Hid _ from fun w' (hb : Below w.heap.size w w') => oNorm_any ((lasts_HR (lasts_EZ K E)).below H hT hb) (Nat.le_trans hT hb.size) hD hE hK)
  have hmf : ∀ (fn : Fn) (first cap : Array Value) (w : World), (Instr.makeFunc fn first cap).run Tryz.prog w = .ok (.func fn first cap) w := fun _ _ _ _ => rfl
  have hnil := eq_nilO
  obtain ⟨p, n, nc⟩ := h
  simp only at HN ⊢
  have hW : Below w.heap.size w ((w.alloc (.cells #[.func (.func J) #[R0] #[]] 42)).alloc (.cells #[.slice none 0 0] 52)) := ((Below.refl _ _).alloc (Nat.le_refl _) _).alloc (by simp) _
  have hF0 : ((w.alloc (.cells #[.func (.func J) #[R0] #[]] 42)).alloc (.cells #[.slice none 0 0] 52)).heap[w.heap.size]? = some (.cells #[.func (.func J) #[R0] #[]] 42 (0, 0)) := by
    rw [Below.heap_alloc _ _ _ (by simp)]
    exact heap_alloc_new w _
  have hO0 : ((w.alloc (.cells #[.func (.func J) #[R0] #[]] 42)).alloc (.cells #[.slice none 0 0] 52)).heap[w.heap.size + 1]? = some (.cells #[.slice none 0 0] 52 (0, 0)) := by
    have := heap_alloc_new (w.alloc (.cells #[.func (.func J) #[R0] #[]] 42)) (.cells #[.slice none 0 0] 52)
    simpa using this
  have HJ := (show Hid _ from hJ)
  have HF := (show Hid _ from hF)
  have HI := (show Hid _ from hI)
  have HH : Hid (olen zss ≤ 1000) := by obtain ⟨_, k⟩ := H; have h1 := olen_le zss; have h2 := k.tl; have h3 := k.few; show _ ≤ _; simp only at h2 h3; omega
  clear hJ hF hI H
  obtain ⟨l, hl⟩ : ∃ l, ((List.range (olen zss)).map fun i => tr (F i)) = l := ⟨_, rfl⟩
  rw [hl]
  have HLL := (show Hid _ from hl)
  clear hl
  go_enter_defers Tryz.func146, Tryz.ntmps146
  go_wp2_with fail
  generalize (w.alloc (.cells #[.func (.func J) #[R0] #[]] 42)).alloc (.cells #[.slice none 0 0] 52) = W at *
  have sW : w.heap.size + 1 < W.heap.size := (Array.getElem?_eq_some_iff.1 hO0).1
  have hc := HN.out W hW
  rw [rng_oz] at hc
  clear HN
  go_fit hc
  rintro e w2 ⟨q, hs, rfl, hNO, hb2⟩
  rw [otr_oz] at hNO
  rw [olen_oz] at hNO
  have HB2 : Hid (Kq lo base w w2) := Kq.of (bnext' hW hb2)
  have hI2 : I 0 w2 := HI.out _ _ _ hI0 ((bnext' hW hb2).mono hbw)
  have hF2 : w2.heap[w.heap.size]? = some (.cells #[.func (.func J) #[R0] #[]] 42 (0, 0)) := (hb2.block _ (by omega)).trans hF0
  have hO2 : w2.heap[w.heap.size + 1]? = some (.cells #[.slice none 0 0] 52 (0, 0)) := (hb2.block _ sW).trans hO0
  have s2 : w.heap.size + 1 < w2.heap.size := (Array.getElem?_eq_some_iff.1 hO2).1
  have hcv := convert_gen (lo := lo) (base := base) (K' := K') (E' := E') (hNO.hrow hK hE (by have := HH.out; omega)) (Nat.le_refl _) (by omega) (by omega) HH.out hE hK' hE' 174 #[.pointer (some ⟨w.heap.size, 0, none⟩)] callEach2 (fun i => tr (F i)) I HI.out hI2 (fun wq i hi hk hIq he => by
      rw [olen_oz] at hi
      obtain ⟨a1, a2, es2, a3⟩ := hNO.ev i hi
      rw [gt_oz] at a3
      have a4 := (a3.kp hk (by omega)).mono (show w.heap.size ≤ W.heap.size by omega)
      have hc1 : wq.cell? ⟨w.heap.size, 0, none⟩ = some (.func (.func J) #[R0] #[]) := by
        rw [World.cell?_of_block (a := ⟨w.heap.size, 0, none⟩) (hk.block _ (show w.heap.size < w2.heap.size by omega) (.inr hbw))]
        simp only [World.cell?]
        rw [hF2]
        rfl
      generalize gh hs i = hd at a1 a2 a4
      obtain ⟨p2, n2, c2⟩ := hd
      simp only at a1 a2 a4
      subst a1
      exact each2M_any hc1 hE0 hK' (fun w1 w2 h1 h2 => HI.out _ w1 w2 h1 h2) (by have := hk.size; omega) (HJ.out wq i p2 c2 es2 hi (HB2.out.trans hk) hIq a4 a2)) (fun i hi => by rw [olen_oz] at hi; rw [length_tr]; exact Nat.le_trans (tlen_le _) (HF.out i hi))
  rw [olen_oz, HLL.out] at hcv
  simp only at hcv
  rw [olen_oz]
  clear hc hNO hb2 hF0 hO0 hF2 hI2 hI0 HJ HF
  go_wp2_with fail
  go_fit hcv
  rintro e w3 ⟨q3, hs3, rfl, hN3, hI3, hk3⟩
  have hO3 : w3.heap[w.heap.size + 1]? = some (.cells #[.slice none 0 0] 52 (0, 0)) := (hk3.block _ s2 (.inr (by omega))).trans hO2
  have z0 : w3.cell? ⟨w.heap.size + 1, 0, none⟩ = some (.slice none 0 0) := by
    simp only [World.cell?]
    rw [hO3]
    rfl
  have f0 : w3.frozen? ⟨w.heap.size + 1, 0, none⟩ = false := frozen_of_row w3 _ _ _ _ hO3
  have s3 := hk3.size
  have HR' : Hid (OpK lo base (I (olen zss)) l K' E' w (.returned (.slice q3 (olen l) (olen l))) (w3.setCell ⟨w.heap.size + 1, 0, none⟩ (.slice q3 (olen l) (olen l)))) :=
    ⟨q3, hs3, rfl, (hN3.put s2 _).mono (by omega), HI.out _ _ _ hI3 ((Below.refl base w3).setCell (p := ⟨w.heap.size + 1, 0, none⟩) (by show base ≤ w.heap.size + 1; omega) _), (HB2.out.trans hk3).put ⟨w.heap.size + 1, 0, none⟩ _ (.inr (by show w.heap.size ≤ w.heap.size + 1; omega))⟩
  clear hcv hN3 hI3 hk3 hO2
  generalize olen l = m at *
  go_wp2
  refine leaves_cons (f := 173) (args := #[.pointer (some ⟨w.heap.size + 1, 0, none⟩)]) (by simp) (by simp [go_sem]) ?_
  refine (each_idle ⟨w.heap.size + 1, 0, none⟩ _).mono ?_
  rintro e u' w'' ⟨rfl, rfl, rfl⟩
  have z1 : (w3.setCell ⟨w.heap.size + 1, 0, none⟩ (.slice q3 m m)).cell? ⟨w.heap.size + 1, 0, none⟩ = some (.slice q3 m m) := by simp [go_sem, z0]
  have HR2 := HR'.out
  simp [Leaves, settle, results, Tryz.results146, go_sem, z0]
  exact HR2
def lft (G : World → Prop) (H : Code → World → Prop) : Exit → Act → World → Prop
  | .normal, _, V => G V
  | .ret, _, V => H .ret V
  | .exit i, _, V => H (.exit i) V
  | .goto t, _, V => H (.goto t) V
  | .panic _, _, _ => False
  | .outgrown, _, _ => False
theorem lft_mono {G G' : World → Prop} {H H' : Code → World → Prop} (hG : ∀ V, G V → G' V) (hH : ∀ c V, H c V → H' c V) : ∀ e a V, lft G H e a V → lft G' H' e a V := by
  intro e a V h
  cases e with
  | normal => exact hG V h
  | ret => exact hH _ V h
  | exit i => exact hH _ V h
  | goto t => exact hH _ V h
  | panic c => exact h.elim
  | outgrown => exact h.elim
theorem yield_told {F : Fence} {m : Nat} {P : Program} {l : Nat} {r : Loop} {args : Array Value} {W : World} {R : Ending → World → Prop} (hF : F.fn r.fn) (hl : W.heap[l]? = some (.loop r)) (hr : r.state = .ready) (hs : args.size = r.params.size)
    (hA : r.assign.wpIn (F.inRound l) m P (Exit.then (fun a₁ V => V.heap[l]? = some (.loop r) ∧ r.body.wpIn (F.inRound l) m P
        (lft (fun U => U.heap[l]? = some (.loop { r with state := .busy }) ∧ R (.returned (.bool true)) (U.putObj l (.loop { r with state := .ready, pending := none })))
          fun c U => U.heap[l]? = some (.loop { r with state := .busy }) ∧ R (.returned (.bool false)) (U.putObj l (.loop { r with state := .done, pending := some c })))
        a₁ (V.putObj l (.loop { r with state := .busy }))) fun _ _ _ => False) { tmps := (r.params.zip args).foldl (fun t (p, v) => t.setIfInBounds p v) r.tmps, defers := [] } W) :
    YieldAt F m P l args W R := by
  refine ⟨_, _, _, _, run_yield hl hs, roundIn_of_wpIn hF (wpIn_mono hA ?_)⟩
  intro e a V h
  cases e with
  | normal =>
    obtain ⟨hV, hB⟩ := h
    refine ⟨_, run_beginRound hV hr, wpIn_mono hB ?_⟩
    intro e a U h
    cases e with
    | normal => exact ⟨_, _, run_endRound none h.1, h.2⟩
    | ret => exact ⟨_, _, run_endRound (some .ret) h.1, h.2⟩
    | exit i => exact ⟨_, _, run_endRound (some (.exit i)) h.1, h.2⟩
    | goto t => exact ⟨_, _, run_endRound (some (.goto t)) h.1, h.2⟩
    | panic c => exact h.elim
    | outgrown => exact h.elim
  | ret => exact h.elim
  | exit i => exact h.elim
  | goto t => exact h.elim
  | panic c => exact h.elim
  | outgrown => exact h.elim
theorem range_lay {F : Fence} {n : Nat} {P : Program} {g : Operand} {ps : Array Tmp} {assign body : Code} {Q : Exit → Act → World → Prop} {a : Act} {w : World} (hro : F.round = none) (h1 : 1 ≤ n) {gf : Nat} {lb : Array Value}
    (hg : a.eval g = .func (.func gf) #[] lb) (hFg : F.fn gf) (eg : ∀ args w, (callFunc gf args).run P w = .ok (.enter gf args) w)
    (h : ∀ r : Loop, F.fn r.fn → r.state = .ready → r.pending = none → r.tmps = a.tmps → r.params = ps → r.assign = assign → r.body = body →
      CallsIn F (n - 1) P gf (#[.func (.yield (w.heap.size + 1)) #[] #[]] ++ lb) ((w.alloc (.deferred (some []))).alloc (.loop r)) fun e V => (∃ v, e = .returned v) ∧ ∃ s : Loop, V.heap[w.heap.size + 1]? = some (.loop s) ∧ s.state ≠ .busy ∧
        ((s.pending = none ∧ Q .normal { a with defers := { target := .collected w.heap.size, args := #[] } :: a.defers } (V.putObj (w.heap.size + 1) (.loop { s with state := .exhausted }))) ∨
         ∃ c, s.pending = some c ∧ c.wpIn F n P Q { a with defers := { target := .collected w.heap.size, args := #[] } :: a.defers } (V.putObj (w.heap.size + 1) (.loop { s with state := .exhausted })))) :
    (Code.rangeFunc g ps assign body).wpIn F n P Q a w := by
  refine wpIn_rangeFunc fun fn hfn => ?_
  rw [hro]
  obtain ⟨W1, hW1⟩ : ∃ W1, W1 = (w.alloc (.deferred (some []))).alloc (.loop { state := .ready, pending := none, fn, tmps := a.tmps, params := ps, assign, body, defers := w.heap.size }) := ⟨_, rfl⟩
  refine ⟨_, _, W1, { target := .fn (.func gf) lb, args := #[.func (.yield (w.heap.size + 1)) #[] #[]] }, W1, gf, _, W1, hW1 ▸ run_enterLoop_outer fn a.tmps ps assign body, ?res, ?leads, ?inv, fun _ => h1, (hW1 ▸ h { state := .ready, pending := none, fn, tmps := a.tmps, params := ps, assign, body, defers := w.heap.size } hfn rfl rfl rfl rfl rfl rfl : CallsIn ..).mono ?fin⟩
  case res => simp only [resolve, hg]; simp [go_sem]
  case leads => intro f e; simp [Target.leads] at e; subst e; exact hFg
  case inv => simp [invoke, go_sem, eg]
  case fin =>
    rintro e V ⟨⟨v, rfl⟩, s, hs, hb, hq⟩
    refine ⟨_, _, run_endLoop hs hb, ?_⟩
    rcases hq with ⟨hp, hq⟩ | ⟨c, hp, hq⟩ <;> rw [hp] at hq ⊢ <;> exact hq
open Go.RowKit Go.Shelf
attribute [local go_sem] Oper.semAt_some
def idx (zs : List Int) (k : Nat) : List Nat := (List.range k).filter fun j => gx zs j ≠ 0
theorem idx_succ (zs : List Int) (k : Nat) : idx zs (k + 1) = if gx zs k = 0 then idx zs k else idx zs k ++ [k] := by
  unfold idx
  rw [List.range_succ, List.filter_append]
  split
  · rename_i h; simp [h]
  · rename_i h; simp [h]
theorem idx_len (zs : List Int) (k : Nat) : (idx zs k).length ≤ k := by
  unfold idx
  exact Nat.le_trans (List.length_filter_le _ _) (by simp)
attribute [local go_sem] Oper.semAt_some
def Told (zs : List Int) (len K B : Nat) (pre : List (Nat × Ent)) (x : Nat × Ent) (W : World) : Prop := pre.map (·.1) = idx zs x.1 ∧ x.1 < len ∧ ¬ gx zs x.1 = 0 ∧ NV B W K (gx zs x.1) x.2
theorem Rd.held {W W' : World} {row : Option Nat} {p : Option Addr} {k : IntKind} {xs : List Int} (h : Rd W p k xs) (hg : W.grownBy W' row) (hr : ∀ r, row = some r → ∃ o : Obj, W.heap[r]? = some o ∧ o.isCells = false) : Rd W' p k xs := fun hp => by
  obtain ⟨b, o, e, hc⟩ := h hp
  exact ⟨b, o, e, fun j hj => cell_kept (hc j hj) hg hr⟩
theorem NV.held {W W' : World} {row : Option Nat} {B K : Nat} {z : Int} {e : Ent} (h : NV B W K z e) (hg : W.grownBy W' row) (hr : ∀ r, row = some r → ∃ o : Obj, W.heap[r]? = some o ∧ o.isCells = false) : NV B W' K z e := by
  obtain ⟨xs, h1, h2⟩ := h
  refine ⟨xs, ⟨h1.len, h1.rd.held hg hr, h1.u, h1.nrm, h1.sg, h1.pn, h1.v, h1.fr, h1.fz.kept hg fun a ha e' => ?_⟩, h2⟩
  obtain ⟨o, ho, hc⟩ := hr a.block e'.symm
  rcases Nat.eq_zero_or_pos e.n with hn | hn
  · rw [h1.pn hn] at ha; cases ha
  · obtain ⟨b, off, hp, hcl⟩ := h1.rd (by rw [h1.len]; exact hn)
    rw [hp] at ha; cases ha
    obtain ⟨o', ho', hc'⟩ := cells_of_cell (hcl 0 (by rw [h1.len]; exact hn))
    rw [ho] at ho'; cases ho'; rw [hc] at hc'; cases hc'
theorem told_own (B : Nat) (zs : List Int) (len K B0 : Nat) (pre : List (Nat × Ent)) (x : Nat × Ent) : OwnFrom B fun (_ : Unit) W => Told zs len K B0 pre x W := fun _ W W' row h hg hr => ⟨h.1, h.2.1, h.2.2.1, h.2.2.2.held hg fun r e => (hr r e).2⟩
attribute [local go_sem] Oper.semAt_some
structure Hole (lo base N : Nat) (A B : World) : Prop where
  os : B.os = A.os
  tape : B.tape = A.tape
  output : B.output = A.output
  size : A.heap.size ≤ B.heap.size
  block : ∀ k, k < N → (k < lo ∨ base ≤ k) → B.heap[k]? = A.heap[k]?
theorem Hole.of {lo base N : Nat} {A B : World} (h : Below N A B) : Hole lo base N A B := ⟨h.os, h.tape, h.output, h.size, fun k hk _ => h.block k hk⟩
theorem Hole.refl (lo base N : Nat) (A : World) : Hole lo base N A A := .of (Below.refl _ _)
theorem Hole.trans {lo base N : Nat} {A B C : World} (h : Hole lo base N A B) (k : Hole lo base N B C) : Hole lo base N A C := ⟨k.os.trans h.os, k.tape.trans h.tape, k.output.trans h.output, Nat.le_trans h.size k.size, fun i hi hx => (k.block i hi hx).trans (h.block i hi hx)⟩
theorem Hole.set {lo base N : Nat} {A B : World} (h : Hole lo base N A B) (a : Addr) (v : Value) (ha : (lo ≤ a.block ∧ a.block < base) ∨ N ≤ a.block) : Hole lo base N A (B.setCell a v) :=
  ⟨h.os, h.tape, h.output, by simpa [World.setCell] using h.size, fun i hi hx => by
    rw [heap_setCell_other B a i v (fun e => by subst e; omega)]
    exact h.block i hi hx⟩
theorem range_hole {α : Type} {F : Fence} {n : Nat} {P : Program} {g : Operand} {ps : Array Tmp} {assign body : Code} {Q : Exit → Act → World → Prop} {a : Act} {w w0 : World} {lo base : Nat} (hro : F.round = none) (h1 : 1 ≤ n) {gf : Nat} {lb : Array Value}
    (hg : a.eval g = .func (.func gf) #[] lb) (hFg : F.fn gf) (eg : ∀ args w, (callFunc gf args).run P w = .ok (.enter gf args) w) {encs : α → Array Value} {T : List α → α → World → Prop} {S : List α → Prop}
    (hit : ∀ (l : Nat) (J Jx : List α → World → Prop), (∀ s A B, J s A → Below A.heap.size A B → J s B) →
      (∀ pre x W, J pre W → T pre x W → YieldAt F (n - 1 - 1) P l (encs x) W fun e W' => (e = .returned (.bool true) ∧ J (pre ++ [x]) W' ∧ Hole lo base w0.heap.size W W') ∨ (e = .returned (.bool false) ∧ Jx (pre ++ [x]) W')) →
      ∀ W, Hole lo base w0.heap.size w0 W → w.heap.size ≤ W.heap.size → J [] W → CallsIn F (n - 1) P gf (#[.func (.yield l) #[] #[]] ++ lb) W fun e W' => (∃ v, e = .returned v) ∧ ((∃ xs, S xs ∧ J xs W') ∨ ∃ pre, Jx pre W'))
    (hb0 : Hole lo base w0.heap.size w0 w) (hps : ∀ x, (encs x).size = ps.size)
    (I : List α → World → Prop) (Ix : Code → List α → World → Prop) (Ia : List α → α → Nat → World → Prop) (hI : OwnFrom w.heap.size I) (hIx : ∀ c, OwnFrom w.heap.size (Ix c)) (hIa : ∀ pre x b, OwnFrom w.heap.size fun (_ : Unit) W => Ia pre x b W) (h0 : I [] w) (A : α → Nat → Act)
    (hassign : ∀ (l : Nat) (pre : List α) (x : α) (W : World) (K : Act → World → Prop), I pre W → T pre x W → (∀ b V, Ia pre x b V → KeepsOthers W V → Hole lo base w0.heap.size W V → K (A x b) V) →
      assign.wpIn (F.inRound l) (n - 1 - 1) P (Exit.then K fun _ _ _ => False) { tmps := (ps.zip (encs x)).foldl (fun t (p, v) => t.setIfInBounds p v) a.tmps, defers := [] } W)
    (hbody : ∀ (l : Nat) (pre : List α) (x : α) (b : Nat) (W : World), Ia pre x b W → body.wpIn (F.inRound l) (n - 1 - 1) P (lft (fun V => KeepsOthers W V ∧ Hole lo base w0.heap.size W V ∧ I (pre ++ [x]) V) fun c V => KeepsOthers W V ∧ Ix c (pre ++ [x]) V) (A x b) W)
    (hdone : ∀ (D : Nat) (xs : List α) (W : World), w.heap.size ≤ D → S xs → I xs W → W.heap[D]? = some (.deferred (some [])) → Q .normal { a with defers := { target := .collected D, args := #[] } :: a.defers } W)
    (hstop : ∀ (D : Nat) (c : Code) (pre : List α) (W : World), w.heap.size ≤ D → Ix c pre W → W.heap[D]? = some (.deferred (some [])) → c.wpIn F n P Q { a with defers := { target := .collected D, args := #[] } :: a.defers } W) :
    (Code.rangeFunc g ps assign body).wpIn F n P Q a w := by
  refine range_lay hro h1 hg hFg eg fun r rf rs re rt rp ra rb => ?_
  obtain ⟨st, pe, fn, tmps, params, asg, bod, dfs⟩ := r
  dsimp only at rf rs re rt rp ra rb
  subst rs re rt rp ra rb
  have hsz := hb0.size
  have put : ∀ {V : World} {o : Obj} (o' : Obj), V.heap[w.heap.size + 1]? = some o → Hole lo base w0.heap.size V (V.putObj (w.heap.size + 1) o') := fun o' h => .of <|
    (Below.refl w0.heap.size _).grown (grownBy_putObj' _ _ o') (by have := (Array.getElem?_eq_some_iff.1 h).1; omega) (fun k e => by cases e; omega)
  have beside : ∀ {V : World} {o : Obj}, V.heap[w.heap.size]? = some (.deferred (some [])) → (V.putObj (w.heap.size + 1) o).heap[w.heap.size]? = some (.deferred (some [])) := fun h => (World.putObj_heap_other (by omega)).trans h
  obtain ⟨L, hL⟩ : ∃ L : LoopState → Option Code → Loop, L = fun st pe => ⟨st, pe, fn, a.tmps, params, asg, bod, dfs⟩ := ⟨_, rfl⟩
  refine (hit (w.heap.size + 1) (fun pre V => I pre V ∧ V.heap[w.heap.size + 1]? = some (.loop (L .ready none)) ∧ V.heap[w.heap.size]? = some (.deferred (some [])))
    (fun pre V => ∃ c, Ix c pre V ∧ V.heap[w.heap.size + 1]? = some (.loop (L .done (some c))) ∧ V.heap[w.heap.size]? = some (.deferred (some []))) ?abide ?round _ ?bel (by simp; omega) ?start).mono ?fin
  case abide =>
    rintro s A B ⟨hi, hl, hd⟩ hb
    exact ⟨hI s A B none hi (grownBy_below hb none) (fun _ e => by cases e), (hb.block _ (Array.getElem?_eq_some_iff.1 hl).1).trans hl, (hb.block _ (Array.getElem?_eq_some_iff.1 hd).1).trans hd⟩
  case round =>
    rintro pre x W ⟨hi, hl, hd⟩ ht
    subst hL
    refine yield_told (r := ⟨.ready, none, fn, a.tmps, params, asg, bod, dfs⟩) rf hl rfl (hps x) ?_
    refine hassign (w.heap.size + 1) pre x W _ hi ht fun b V hia hkV hBV => ?_
    have hlV := hkV.same _ _ hl rfl
    have hdV := hkV.same _ _ hd rfl
    dsimp only at hlV
    refine ⟨hlV, ?_⟩
    have hbu : (V.putObj (w.heap.size + 1) (.loop ⟨.busy, none, fn, a.tmps, params, asg, bod, dfs⟩)).heap[w.heap.size + 1]? = some (.loop ⟨.busy, none, fn, a.tmps, params, asg, bod, dfs⟩) := World.putObj_heap_same (Array.getElem?_eq_some_iff.1 hlV).1
    refine wpIn_mono (hbody (w.heap.size + 1) pre x b _ ((hIa pre x b).putObj (s := ()) (.loop ⟨.busy, none, fn, a.tmps, params, asg, bod, dfs⟩) hia (by omega) hlV rfl)) (lft_mono ?_ ?_)
    · rintro U ⟨hk, hB, hu⟩
      have hlu := hk.same _ _ hbu rfl
      have hdu := hk.same _ _ (beside hdV) rfl
      exact ⟨hlu, .inl ⟨rfl, ⟨hI.putObj _ hu (by omega) hlu rfl, World.putObj_heap_same (Array.getElem?_eq_some_iff.1 hlu).1, beside hdu⟩, ((hBV.trans (put _ hlV)).trans hB).trans (put _ hlu)⟩⟩
    · rintro c U ⟨hk, hu⟩
      have hlu := hk.same _ _ hbu rfl
      have hdu := hk.same _ _ (beside hdV) rfl
      exact ⟨hlu, .inr ⟨rfl, c, (hIx c).putObj _ hu (by omega) hlu rfl, World.putObj_heap_same (Array.getElem?_eq_some_iff.1 hlu).1, beside hdu⟩⟩
  case bel => exact hb0.trans (.of ((((Below.refl _ w).alloc (Nat.le_refl _) _).alloc (by simp) _).mono hsz))
  case start => exact ⟨hI.alloc _ (hI.alloc _ h0), by rw [hL]; have := World.alloc_heap_new (w.alloc (.deferred (some []))) (.loop ⟨.ready, none, fn, a.tmps, params, asg, bod, dfs⟩); rwa [World.size_alloc] at this, (Below.heap_alloc _ _ _ (by simp)).trans (World.alloc_heap_new w _)⟩
  case fin =>
    rintro e V ⟨hv, ⟨xs, hS, hi, hl, hd⟩ | ⟨pre, c, hi, hl, hd⟩⟩
    · exact ⟨hv, _, hl, by rw [hL]; simp, .inl ⟨by rw [hL], hdone _ xs _ (Nat.le_refl _) hS (hI.putObj _ hi (by omega) hl rfl) (beside hd)⟩⟩
    · exact ⟨hv, _, hl, by rw [hL]; simp, .inr ⟨c, by rw [hL], hstop _ c pre _ (Nat.le_refl _) ((hIx c).putObj _ hi (by omega) hl rfl) (beside hd)⟩⟩
set_option maxRecDepth 100000 in
theorem terms1_hole (n : Nat) (hn : 1 ≤ n) (l Bs B0 lo base : Nat) (w0 : World) {K : Nat} {p : Option Addr} {len : Nat} {es : List Ent} {zs : List Int} (hP : ∀ W, Hole lo base w0.heap.size w0 W → PA W K p len len es zs) (hlen : len ≤ 1000000) (hK : K ≤ 1000) (J Jx : List (Nat × Ent) → World → Prop) (hJ : ∀ s A B, J s A → Below A.heap.size A B → J s B)
    (hY : ∀ pre x W, J pre W → Told zs len K B0 pre x W → YieldAt Fence.wide (n - 1) Tryz.prog l #[.int .i64 ((x.1 : Nat) : Int), .agg #[.bool x.2.s, .slice x.2.p x.2.n x.2.c]] W fun e W' =>
      (e = .returned (.bool true) ∧ J (pre ++ [x]) W' ∧ Hole lo base w0.heap.size W W') ∨ (e = .returned (.bool false) ∧ Jx (pre ++ [x]) W'))
    (W : World) (hW : Hole lo base w0.heap.size w0 W) (hB0 : B0 ≤ W.heap.size) (hBs : W.cell? ⟨Bs, 0, none⟩ = some (.slice p len len)) (h0 : J [] W) :
    CallsIn Fence.wide n Tryz.prog 140 #[.func (.yield l) #[] #[], .pointer (some ⟨Bs, 0, none⟩)] W fun e W' => (∃ v, e = .returned v) ∧
      ((∃ ys, ys.map (·.1) = idx zs len ∧ J ys W') ∨ (∃ pre, Jx pre W')) := by
  refine callsIn_of_wp Tryz.func140 rfl trivial ?_ rfl
  simp only [Tryz.ntmps140, List.size_toArray, List.length_cons, List.length_nil, Nat.reduceAdd, Nat.reduceSub, Array.replicate_succ, Array.replicate_zero, List.push_toArray, List.append_toArray, List.nil_append, List.cons_append]
  have HJ := (show Hid _ from hJ)
  have HY := (show Hid _ from hY)
  clear hJ hY
  gi_wp2
  gi_loopw [3, 4, 7] (fun _ _ i wr => ∃ k : Nat, k ≤ len ∧ i = .int .i64 k ∧ Hid ((∃ ys, ys.map (·.1) = idx zs k ∧ J ys wr) ∧ Hole lo base w0.heap.size w0 wr ∧ B0 ≤ wr.heap.size))
    (fun _ _ i _ => len - (intOf i).toNat)
  case atStart => exact ⟨0, Nat.zero_le _, rfl, ⟨[], rfl, h0⟩, hW, hB0⟩
  case round =>
    obtain ⟨k, hk, rfl, H⟩ := hrel
    by_cases hlt : k < len
    · obtain ⟨⟨ys, hys, hJs⟩, hB, hs0⟩ := H.out
      have hel := (hP w0 (Hole.refl _ _ _ _)).el
      have hPr := hP _ hB
      obtain ⟨b, o, hp, hc⟩ := hPr.pl (by omega)
      subst hp
      obtain ⟨c0, c1⟩ := hc k (by omega)
      have hv := hPr.ev k hlt
      have HI : Hid (ys.map (·.1) = idx zs k ∧ J ys wr ∧ Hole lo base w0.heap.size w0 wr) := ⟨hys, hJs, hB⟩
      have hli : ys.length ≤ k := by rw [← List.length_map (f := (·.1)), hys]; exact idx_len zs k
      clear H hys hJs hB hPr hc
      gi_wp2_with fail
      have hal := bel_al (o := .cells #[.bool (ge es k).s, .slice (ge es k).p (ge es k).n (ge es k).c] 24) (Below.refl wr.heap.size wr)
      have hX : Bx (wr.alloc (.cells #[.bool (ge es k).s, .slice (ge es k).p (ge es k).n (ge es k).c] 24)) wr.heap.size (.bool (ge es k).s) (.slice (ge es k).p (ge es k).n (ge es k).c) := Bx.new _ _ _ rfl
      have hv1 := hv.below hal
      generalize wr.alloc (.cells #[.bool (ge es k).s, .slice (ge es k).p (ge es k).n (ge es k).c] 24) = W1 at *
      refine ⟨trivial, (callsIn_wide.2 (Sign_ev hv1)).mono ?_⟩
      rintro r w2 ⟨rfl, hb2⟩
      have hB2 := bnext' hal hb2
      have hv2 := hv1.below hb2
      obtain ⟨q0, q1, -, -⟩ := hX.later hb2
      clear hX hv1 hal hb2 c0 c1
      have hcs : Hid (gx zs k = 0 ∨ ¬ gx zs k = 0) := Classical.em _
      rcases hcs.out with hz | hz
      · rw [isgn_zero hz]
        have HZ : Hid (idx zs (k + 1) = idx zs k) := by show _ = _; rw [idx_succ, if_pos hz]
        clear hz hcs hv2
        gi_wp2
        refine ⟨trivial, ?_⟩
        gi_wp2
        refine ⟨fun _ h => (by cases h), ?_⟩
        gi_wp2
        go_roundw
        case rel => exact ⟨k + 1, by omega, by simp, ⟨ys, by rw [HZ.out]; exact HI.out.1, HJ.out _ _ _ HI.out.2.1 hB2⟩, HI.out.2.2.trans (.of (hB2.mono HI.out.2.2.size)), Nat.le_trans hs0 hB2.size⟩
        case measure => simp [intOf]; omega
      · have HZ : Hid (idx zs (k + 1) = idx zs k ++ [k]) := by show _ = _; rw [idx_succ, if_neg hz]
        have hi : isgn (gx zs k) = 1 ∨ isgn (gx zs k) = -1 := by
          rcases (show 0 < gx zs k ∨ gx zs k < 0 by omega) with h | h
          · exact .inl (isgn_pos h)
          · exact .inr (isgn_neg h)
        have ho := own_any hv2 hK
        have HN : Hid (¬ gx zs k = 0) := hz
        clear hz hcs
        rcases hi with hi | hi
        all_goals
          rw [hi]
          gi_wp2_with fail
          refine ⟨trivial, (callsIn_wide.2 ho).mono ?_⟩
          rintro r w3 ⟨f, rfl, hf, hb3⟩
          have hB3 := bnext' hB2 hb3
          obtain ⟨fn, tmps, assign, body, hy, hR⟩ := HY.out ys (k, f) w3 (HJ.out _ _ _ HI.out.2.1 hB3) ⟨HI.out.1, hlt, HN.out, hf.mono (Nat.le_trans hs0 hB2.size)⟩
          dsimp only at hy
          gi_wp2_with fail
          refine hR.mono ?_
          rintro e W3 (⟨rfl, hJ3, hk3⟩ | ⟨rfl, hJx3⟩)
          · have HF : Hid ((ys ++ [(k, f)]).map (·.1) = idx zs (k + 1) ∧ J (ys ++ [(k, f)]) W3 ∧ Hole lo base w0.heap.size w0 W3 ∧ B0 ≤ W3.heap.size) := ⟨by rw [List.map_append, HI.out.1, HZ.out]; rfl, hJ3, (HI.out.2.2.trans (.of (hB3.mono HI.out.2.2.size))).trans hk3, Nat.le_trans (Nat.le_trans hs0 hB3.size) hk3.size⟩
            clear hJ3 hk3 hR hy q0 q1
            gi_wp2
            go_roundw
            case rel => exact ⟨k + 1, by omega, by simp, ⟨_, HF.out.1, HF.out.2.1⟩, HF.out.2.2.1, HF.out.2.2.2⟩
            case measure => simp [intOf]; omega
          · have HF : Hid (Jx (ys ++ [(k, f)]) W3) := hJx3
            clear hJx3 hR hy q0 q1
            gi_wp2
            refine bodyPost_ret (results_none rfl _ _ _) rfl ?_
            exact ⟨⟨_, rfl⟩, .inr ⟨_, HF.out⟩⟩
    · obtain rfl : k = len := by omega
      gi_wp2
      go_end0
      exact ⟨⟨_, rfl⟩, .inl H.out.1⟩
section
variable {P : Program} {ops : Array Oper} {Q : Exit → Act → World → Prop} {md : Region.Mode}
theorem count_down {l : Array Bool} {i : Nat} (h : l.getD i true = false) : (l.setIfInBounds i true).toList.count false < l.toList.count false := by
  have hi : i < l.size := by
    rcases Nat.lt_or_ge i l.size with h' | h'
    · exact h'
    · simp [Array.getElem?_eq_none h'] at h
  have hv : l.toList[i]'(by simpa using hi) = false := by simpa [hi] using h
  have hp : 0 < l.toList.count false := List.count_pos_iff.2 (hv ▸ List.getElem_mem _)
  rw [Array.toList_setIfInBounds, List.count_set (by simpa using hi), hv]
  show _ - 1 + 0 < _
  omega
def ahead (ops : Array Oper) : Bool := (List.range ops.size).all fun i => ((ops[i]?).map (·.after.all fun e => decide (e.on < i))).getD true
theorem all_listed (ha : ahead ops = true) {listed : Array Bool} (hr : Region.ready md ops listed = []) : ∀ j, j < ops.size → listed.getD j true = true := by
  intro j
  induction j using Nat.strongRecOn with
  | _ j ih =>
    intro hj
    cases hc : listed.getD j true with
    | true => rfl
    | false =>
      exfalso
      have ho : ops[j]? = some ops[j] := Array.getElem?_eq_getElem hj
      have hsz : j < listed.size := by
        rcases Nat.lt_or_ge j listed.size with h' | h'
        · exact h'
        · simp [Array.getElem?_eq_none h'] at hc
      have : j ∈ Region.ready md ops listed := by
        rw [mem_ready]
        refine ⟨hc, ops[j], ho, fun e he _ => ?_⟩
        have h1 := List.all_eq_true.1 ha j (List.mem_range.2 hj)
        rw [ho] at h1
        simp only [Option.map_some, Option.getD_some, Array.all_eq_true_iff_forall_mem, decide_eq_true_eq] at h1
        have h2 := h1 e he
        have h3 := ih e.on h2 (by omega)
        have h4 : e.on < listed.size := by omega
        simpa [h4] using h3
      rw [hr] at this
      cases this
theorem wpAny_inv (I : Array Bool → Act → World → Prop) (ha : ahead ops = true)
    (hend : ∀ listed a w, I listed a w → (∀ j, j < ops.size → listed.getD j true = true) → Q .normal a w)
    (hstep : ∀ listed a w, I listed a w → ∀ i o, ops[i]? = some o → listed.getD i true = false → (∀ e ∈ o.after, Region.binds md e = true → listed.getD e.on false = true) → wpOp P ops Q i (fun a' w' => I (listed.setIfInBounds i true) a' w') a w) :
    ∀ (fuel : Nat) (listed : Array Bool) (a : Act) (w : World), listed.toList.count false ≤ fuel → I listed a w → wpAny P md ops Q fuel listed a w := by
  intro fuel
  induction fuel with
  | zero =>
    intro listed a w hc hI
    have hr : Region.ready md ops listed = [] := by
      rw [List.eq_nil_iff_forall_not_mem]
      intro j hj
      have h1 := count_down (mem_ready.1 hj).1
      omega
    exact ⟨hr, hend _ _ _ hI (all_listed ha hr)⟩
  | succ fuel ih =>
    intro listed a w hc hI
    refine ⟨fun hr => hend _ _ _ hI (all_listed ha hr), fun i hi => ?_⟩
    obtain ⟨h0, o, ho, hd⟩ := mem_ready.1 hi
    exact wpOp_mono (fun a' w' h => ih _ _ _ (by have := count_down h0; omega) h) (hstep _ _ _ hI i o ho h0 hd)
theorem region_inv {id : Nat} {a : Act} {w : World} (hm : P.follows .mixedOrders = true) (I : Array Bool → Act → World → Prop) (ha : ahead ops = true)
    (hend : ∀ listed a w, I listed a w → (∀ j, j < ops.size → listed.getD j true = true) → Q .normal a w)
    (hstep : ∀ listed a w, I listed a w → ∀ i o, ops[i]? = some o → listed.getD i true = false → (∀ e ∈ o.after, Region.binds .any e = true → listed.getD e.on false = true) → wpOp P ops Q i (fun a' w' => I (listed.setIfInBounds i true) a' w') a w)
    (h : I (Array.replicate ops.size false) a { w with drawn := w.drawn + 1 }) : (Code.region id ops true).wp P Q a w :=
  wp_region_any hm (wpAny_inv I ha hend hstep _ _ _ _ (by simp) h)
end
end Go.Proofs.YtifebbacnlhggaaGreatDoor
