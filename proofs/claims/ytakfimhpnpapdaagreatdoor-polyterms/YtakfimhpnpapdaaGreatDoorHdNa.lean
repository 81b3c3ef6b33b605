/-
  upoly.Terms.
-/
import Derived.Test.YtakfimhpnpapdaaGreatDoorUeUfUg
import Derived.RangeFuncNested
import Derived.RangeFuncBound
import Derived.RangeFuncCalls
import Derived.RangeFuncLeaves
import Derived.Shelf.Abstract
import Derived.Shelf.RegionOpen
import Derived.WalkKit
import Derived.OwnWalkIn
import Derived.TacticsInMore
import Derived.LoopNIn
import Derived.LoopIn
import Derived.Test.YtakfimhpnpapdaaGreatDoorMmWa
namespace Go.Proofs.YtakfimhpnpapdaaGreatDoor
open Go.RowKit Go.Shelf
set_option linter.unusedVariables false
set_option linter.unusedSimpArgs false

set_option maxHeartbeats 2000000 in
set_option maxRecDepth 100000 in
/-- upoly.Terms: the normal form in a variable of its own, and the closure over it. -/
theorem uTerms_any {w : World} {K : Nat} {p : Option Addr} {n nc : Nat} {es : List Ent} {zs : List Int} (h : PA w K p n nc es zs) (hn : n ≤ 1000000) (hK : K ≤ 1000) :
    Calls Tryz.prog 21 #[.slice p n nc] w fun r w' => ∃ g q m fs, r = .returned (.func (.func 45) #[] #[.pointer (some ⟨g, 0, none⟩)]) ∧ w'.cell? ⟨g, 0, none⟩ = some (.slice q m m) ∧ PN w.heap.size w' K q m fs (tr zs) ∧ Below w.heap.size w w' := by
  go_enter Tryz.func21, Tryz.ntmps21
  go_wp2_with fail
  refine (uNorm_any K p n nc es zs _ h hn hK).mono ?_
  rintro r w1 ⟨q, m, fs, rfl, h1, hb1⟩
  have hal := bel_al (o := .cells #[.slice q m m] 23) (Below.refl w1.heap.size w1)
  have HF : Hid (PN w.heap.size (w1.alloc (.cells #[.slice q m m] 23)) K q m fs (tr zs) ∧ Below w.heap.size w (w1.alloc (.cells #[.slice q m m] 23))) := ⟨h1.below hal, bnext' hb1 hal⟩
  clear h1
  go_wp2
  go_ret
  exact ⟨w1.heap.size, q, m, fs, rfl, by simp [go_sem], HF.out⟩
attribute [local go_sem] Oper.semAt_some
/-- The powers that are there, among the first k. -/
def idx (zs : List Int) (k : Nat) : List Nat := (List.range k).filter fun j => gx zs j ≠ 0
theorem idx_succ (zs : List Int) (k : Nat) : idx zs (k + 1) = if gx zs k = 0 then idx zs k else idx zs k ++ [k] := by
  unfold idx
  rw [List.range_succ, List.filter_append]
  split
  · rename_i h; simp [h]
  · rename_i h; simp [h]
theorem idx_len (zs : List Int) (k : Nat) : (idx zs k).length ≤ k := by
  unfold idx
  exact Nat.le_trans (List.length_filter_le _ _) (by simp)
set_option maxHeartbeats 2000000 in
set_option maxRecDepth 100000 in
/-- The closure of Terms: for every loop body that keeps what lay below w0. -/
theorem terms1_in (n : Nat) (hn : 1 ≤ n) (l Bs : Nat) (w0 : World) {K : Nat} {p : Option Addr} {len : Nat} {es : List Ent} {zs : List Int} (hP : PA w0 K p len len es zs) (hlen : len ≤ 1000000) (hK : K ≤ 1000) (J Jx : List (Nat × Ent) → World → Prop) (hJ : ∀ s A B, J s A → Below A.heap.size A B → J s B)
    (hY : ∀ pre x W, J pre W → pre.length < len → YieldAt Fence.wide (n - 1) Tryz.prog l #[.int .i64 ((x.1 : Nat) : Int), .agg #[.bool x.2.s, .slice x.2.p x.2.n x.2.c]] W fun e W' =>
      (e = .returned (.bool true) ∧ J (pre ++ [x]) W' ∧ Below w0.heap.size W W') ∨ (e = .returned (.bool false) ∧ Jx (pre ++ [x]) W'))
    (W : World) (hW : Below w0.heap.size w0 W) (hBs : W.cell? ⟨Bs, 0, none⟩ = some (.slice p len len)) (h0 : J [] W) :
    CallsIn Fence.wide n Tryz.prog 45 #[.func (.yield l) #[] #[], .pointer (some ⟨Bs, 0, none⟩)] W fun e W' => (∃ v, e = .returned v) ∧
      ((∃ ys, ys.map (·.1) = idx zs len ∧ J ys W') ∨ (∃ pre, Jx pre W')) := by
  refine callsIn_of_wp Tryz.func45 rfl trivial ?_ rfl
  simp only [Tryz.ntmps45, List.size_toArray, List.length_cons, List.length_nil, Nat.reduceAdd, Nat.reduceSub, Array.replicate_succ, Array.replicate_zero, List.push_toArray, List.append_toArray, List.nil_append, List.cons_append]
  have HJ := (show Hid _ from hJ)
  have HY := (show Hid _ from hY)
  clear hJ hY
  gi_wp2
  gi_loopw [3, 4, 7] (fun _ _ i wr => ∃ k : Nat, k ≤ len ∧ i = .int .i64 k ∧ Hid ((∃ ys, ys.map (·.1) = idx zs k ∧ J ys wr) ∧ Below w0.heap.size w0 wr))
    (fun _ _ i _ => len - (intOf i).toNat)
  case atStart => exact ⟨0, Nat.zero_le _, rfl, ⟨[], rfl, h0⟩, hW⟩
  case round =>
    obtain ⟨k, hk, rfl, H⟩ := hrel
    by_cases hlt : k < len
    · obtain ⟨⟨ys, hys, hJs⟩, hB⟩ := H.out
      have hel := hP.el
      have hPr := hP.below hB
      obtain ⟨b, o, hp, hc⟩ := hPr.pl (by omega)
      subst hp
      obtain ⟨c0, c1⟩ := hc k (by omega)
      have hv := hPr.ev k hlt
      have HI : Hid (ys.map (·.1) = idx zs k ∧ J ys wr ∧ Below w0.heap.size w0 wr) := ⟨hys, hJs, hB⟩
      have hli : ys.length ≤ k := by rw [← List.length_map (f := (·.1)), hys]; exact idx_len zs k
      clear H hys hJs hB hPr hc
      gi_wp2_with fail
      have hal := bel_al (o := .cells #[.bool (ge es k).s, .slice (ge es k).p (ge es k).n (ge es k).c] 29) (Below.refl wr.heap.size wr)
      have hX : Bx (wr.alloc (.cells #[.bool (ge es k).s, .slice (ge es k).p (ge es k).n (ge es k).c] 29)) wr.heap.size (.bool (ge es k).s) (.slice (ge es k).p (ge es k).n (ge es k).c) := Bx.new _ _ _ rfl
      have hv1 := hv.below hal
      generalize wr.alloc (.cells #[.bool (ge es k).s, .slice (ge es k).p (ge es k).n (ge es k).c] 29) = W1 at *
      refine ⟨trivial, (callsIn_wide.2 (Sign_ev hv1)).mono ?_⟩
      rintro r w2 ⟨rfl, hb2⟩
      have hB2 := bnext' hal hb2
      have hv2 := hv1.below hb2
      obtain ⟨q0, q1, -, -⟩ := hX.later hb2
      clear hX hv1 hal hb2 c0 c1
      have hcs : Hid (gx zs k = 0 ∨ ¬ gx zs k = 0) := Classical.em _
      rcases hcs.out with hz | hz
      · rw [isgn_zero hz]
        have HZ : Hid (idx zs (k + 1) = idx zs k) := by show _ = _; rw [idx_succ, if_pos hz]
        clear hz hcs hv2
        gi_wp2
        refine ⟨trivial, ?_⟩
        gi_wp2
        refine ⟨fun _ h => (by cases h), ?_⟩
        gi_wp2
        go_roundw
        case rel => exact ⟨k + 1, by omega, by simp, ⟨ys, by rw [HZ.out]; exact HI.out.1, HJ.out _ _ _ HI.out.2.1 hB2⟩, HI.out.2.2.trans (hB2.mono HI.out.2.2.size)⟩
        case measure => simp [intOf]; omega
      · have HZ : Hid (idx zs (k + 1) = idx zs k ++ [k]) := by show _ = _; rw [idx_succ, if_neg hz]
        have hi : isgn (gx zs k) = 1 ∨ isgn (gx zs k) = -1 := by
          rcases (show 0 < gx zs k ∨ gx zs k < 0 by omega) with h | h
          · exact .inl (isgn_pos h)
          · exact .inr (isgn_neg h)
        have ho := own_any hv2 hK
        clear hz hcs
        rcases hi with hi | hi
        all_goals
          rw [hi]
          gi_wp2_with fail
          refine ⟨trivial, (callsIn_wide.2 ho).mono ?_⟩
          rintro r w3 ⟨f, rfl, hf, hb3⟩
          have hB3 := bnext' hB2 hb3
          obtain ⟨fn, tmps, assign, body, hy, hR⟩ := HY.out ys (k, f) w3 (HJ.out _ _ _ HI.out.2.1 hB3) (by omega)
          dsimp only at hy
          gi_wp2_with fail
          refine hR.mono ?_
          rintro e W3 (⟨rfl, hJ3, hk3⟩ | ⟨rfl, hJx3⟩)
          · have HF : Hid ((ys ++ [(k, f)]).map (·.1) = idx zs (k + 1) ∧ J (ys ++ [(k, f)]) W3 ∧ Below w0.heap.size w0 W3) := ⟨by rw [List.map_append, HI.out.1, HZ.out]; rfl, hJ3, (HI.out.2.2.trans (hB3.mono HI.out.2.2.size)).trans hk3⟩
            clear hJ3 hk3 hR hy q0 q1
            gi_wp2
            go_roundw
            case rel => exact ⟨k + 1, by omega, by simp, ⟨_, HF.out.1, HF.out.2.1⟩, HF.out.2.2⟩
            case measure => simp [intOf]; omega
          · have HF : Hid (Jx (ys ++ [(k, f)]) W3) := hJx3
            clear hJx3 hR hy q0 q1
            gi_wp2
            refine bodyPost_ret (results_none rfl _ _ _) rfl ?_
            exact ⟨⟨_, rfl⟩, .inr ⟨_, HF.out⟩⟩
    · obtain rfl : k = len := by omega
      gi_wp2
      go_end0
      exact ⟨⟨_, rfl⟩, .inl H.out.1⟩
/-- What a range over Terms may count on. -/
theorem terms_stops (n : Nat) (hn : 1 ≤ n) (Bs : Nat) (w0 : World) {K : Nat} {p : Option Addr} {len : Nat} {es : List Ent} {zs : List Int} (hP : PA w0 K p len len es zs) (hlen : len ≤ 1000000) (hK : K ≤ 1000) (hBs : w0.cell? ⟨Bs, 0, none⟩ = some (.slice p len len)) :
    SeqStopsK Fence.wide n Tryz.prog 45 #[.pointer (some ⟨Bs, 0, none⟩)] (fun x : Nat × Ent => #[Value.int .i64 ((x.1 : Nat) : Int), .agg #[.bool x.2.s, .slice x.2.p x.2.n x.2.c]]) (Below w0.heap.size) (fun ys => ys.map (·.1) = idx zs len) (fun _ => True) len w0 := fun l J Jx W hW hJ _ hY h0 => by
  refine (terms1_in n hn l Bs w0 hP hlen hK J Jx (fun s A B hs hb => hJ s A B none hs (grownBy_below hb none) (fun r e => by cases e)) hY W hW (cell_later hW hBs) h0).mono ?_
  rintro e W' ⟨he, h | ⟨pre, h⟩⟩
  · exact ⟨he, .inl h⟩
  · exact ⟨he, .inr ⟨pre, trivial, h⟩⟩
end Go.Proofs.YtakfimhpnpapdaaGreatDoor
/-
  A range over a function whose body is told what it is handed.
-/
namespace Go.Proofs.YtakfimhpnpapdaaGreatDoor
open Go.RowKit

/-- How the body of a round is left: off its end, or by a jump. -/
def lft (G : World → Prop) (H : Code → World → Prop) : Exit → Act → World → Prop
  | .normal, _, V => G V
  | .ret, _, V => H .ret V
  | .exit i, _, V => H (.exit i) V
  | .goto t, _, V => H (.goto t) V
  | .panic _, _, _ => False
  | .outgrown, _, _ => False

theorem lft_mono {G G' : World → Prop} {H H' : Code → World → Prop} (hG : ∀ V, G V → G' V) (hH : ∀ c V, H c V → H' c V) : ∀ e a V, lft G H e a V → lft G' H' e a V := by
  intro e a V h
  cases e with
  | normal => exact hG V h
  | ret => exact hH _ V h
  | exit i => exact hH _ V h
  | goto t => exact hH _ V h
  | panic c => exact h.elim
  | outgrown => exact h.elim

/-- One round, out of the walk of its assignments and its body: what it leaves is what the body left, with the record written. -/
theorem yield_told {F : Fence} {m : Nat} {P : Program} {l : Nat} {r : Loop} {args : Array Value} {W : World} {R : Ending → World → Prop} (hF : F.fn r.fn) (hl : W.heap[l]? = some (.loop r)) (hr : r.state = .ready) (hs : args.size = r.params.size)
    (hA : r.assign.wpIn (F.inRound l) m P (Exit.then (fun a₁ V => V.heap[l]? = some (.loop r) ∧ r.body.wpIn (F.inRound l) m P
        (lft (fun U => U.heap[l]? = some (.loop { r with state := .busy }) ∧ R (.returned (.bool true)) (U.putObj l (.loop { r with state := .ready, pending := none })))
          fun c U => U.heap[l]? = some (.loop { r with state := .busy }) ∧ R (.returned (.bool false)) (U.putObj l (.loop { r with state := .done, pending := some c })))
        a₁ (V.putObj l (.loop { r with state := .busy }))) fun _ _ _ => False) { tmps := (r.params.zip args).foldl (fun t (p, v) => t.setIfInBounds p v) r.tmps, defers := [] } W) :
    YieldAt F m P l args W R := by
  refine ⟨_, _, _, _, run_yield hl hs, roundIn_of_wpIn hF (wpIn_mono hA ?_)⟩
  intro e a V h
  cases e with
  | normal =>
    obtain ⟨hV, hB⟩ := h
    refine ⟨_, run_beginRound hV hr, wpIn_mono hB ?_⟩
    intro e a U h
    cases e with
    | normal => exact ⟨_, _, run_endRound none h.1, h.2⟩
    | ret => exact ⟨_, _, run_endRound (some .ret) h.1, h.2⟩
    | exit i => exact ⟨_, _, run_endRound (some (.exit i)) h.1, h.2⟩
    | goto t => exact ⟨_, _, run_endRound (some (.goto t)) h.1, h.2⟩
    | panic c => exact h.elim
    | outgrown => exact h.elim
  | ret => exact h.elim
  | exit i => exact h.elim
  | goto t => exact h.elim
  | panic c => exact h.elim
  | outgrown => exact h.elim

/-- The statement, out of the call of the function that is ranged over. -/
theorem range_lay {F : Fence} {n : Nat} {P : Program} {g : Operand} {ps : Array Tmp} {assign body : Code} {Q : Exit → Act → World → Prop} {a : Act} {w : World} (hro : F.round = none) (h1 : 1 ≤ n) {gf : Nat} {lb : Array Value}
    (hg : a.eval g = .func (.func gf) #[] lb) (hFg : F.fn gf) (eg : ∀ args w, (callFunc gf args).run P w = .ok (.enter gf args) w)
    (h : ∀ r : Loop, F.fn r.fn → r.state = .ready → r.pending = none → r.tmps = a.tmps → r.params = ps → r.assign = assign → r.body = body →
      CallsIn F (n - 1) P gf (#[.func (.yield (w.heap.size + 1)) #[] #[]] ++ lb) ((w.alloc (.deferred (some []))).alloc (.loop r)) fun e V => (∃ v, e = .returned v) ∧ ∃ s : Loop, V.heap[w.heap.size + 1]? = some (.loop s) ∧ s.state ≠ .busy ∧
        ((s.pending = none ∧ Q .normal { a with defers := { target := .collected w.heap.size, args := #[] } :: a.defers } (V.putObj (w.heap.size + 1) (.loop { s with state := .exhausted }))) ∨
         ∃ c, s.pending = some c ∧ c.wpIn F n P Q { a with defers := { target := .collected w.heap.size, args := #[] } :: a.defers } (V.putObj (w.heap.size + 1) (.loop { s with state := .exhausted })))) :
    (Code.rangeFunc g ps assign body).wpIn F n P Q a w := by
  refine wpIn_rangeFunc fun fn hfn => ?_
  rw [hro]
  obtain ⟨W1, hW1⟩ : ∃ W1, W1 = (w.alloc (.deferred (some []))).alloc (.loop { state := .ready, pending := none, fn, tmps := a.tmps, params := ps, assign, body, defers := w.heap.size }) := ⟨_, rfl⟩
  refine ⟨_, _, W1, { target := .fn (.func gf) lb, args := #[.func (.yield (w.heap.size + 1)) #[] #[]] }, W1, gf, _, W1, hW1 ▸ run_enterLoop_outer fn a.tmps ps assign body, ?res, ?leads, ?inv, fun _ => h1, (hW1 ▸ h { state := .ready, pending := none, fn, tmps := a.tmps, params := ps, assign, body, defers := w.heap.size } hfn rfl rfl rfl rfl rfl rfl : CallsIn ..).mono ?fin⟩
  case res => simp only [resolve, hg]; simp [go_sem]
  case leads => intro f e; simp [Target.leads] at e; subst e; exact hFg
  case inv => simp [invoke, go_sem, eg]
  case fin =>
    rintro e V ⟨⟨v, rfl⟩, s, hs, hb, hq⟩
    refine ⟨_, _, run_endLoop hs hb, ?_⟩
    rcases hq with ⟨hp, hq⟩ | ⟨c, hp, hq⟩ <;> rw [hp] at hq ⊢ <;> exact hq

/-- A range over a function that tells T of what it hands on. -/
theorem range_told {α : Type} {F : Fence} {n : Nat} {P : Program} {g : Operand} {ps : Array Tmp} {assign body : Code} {Q : Exit → Act → World → Prop} {a : Act} {w w0 : World} (hro : F.round = none) (h1 : 1 ≤ n) {gf : Nat} {lb : Array Value}
    (hg : a.eval g = .func (.func gf) #[] lb) (hFg : F.fn gf) (eg : ∀ args w, (callFunc gf args).run P w = .ok (.enter gf args) w) {encs : α → Array Value} {T : List α → α → World → Prop} {S : List α → Prop}
    (hit : ∀ (l : Nat) (J Jx : List α → World → Prop), (∀ s A B, J s A → Below A.heap.size A B → J s B) →
      (∀ pre x W, J pre W → T pre x W → YieldAt F (n - 1 - 1) P l (encs x) W fun e W' => (e = .returned (.bool true) ∧ J (pre ++ [x]) W' ∧ Below w0.heap.size W W') ∨ (e = .returned (.bool false) ∧ Jx (pre ++ [x]) W')) →
      ∀ W, Below w0.heap.size w0 W → w.heap.size ≤ W.heap.size → J [] W → CallsIn F (n - 1) P gf (#[.func (.yield l) #[] #[]] ++ lb) W fun e W' => (∃ v, e = .returned v) ∧ ((∃ xs, S xs ∧ J xs W') ∨ ∃ pre, Jx pre W'))
    (hb0 : Below w0.heap.size w0 w) (hps : ∀ x, (encs x).size = ps.size)
    (I : List α → World → Prop) (Ix : Code → List α → World → Prop) (Ia : List α → α → Nat → World → Prop) (hI : OwnFrom w.heap.size I) (hIx : ∀ c, OwnFrom w.heap.size (Ix c)) (hIa : ∀ pre x b, OwnFrom w.heap.size fun (_ : Unit) W => Ia pre x b W) (h0 : I [] w) (A : α → Nat → Act)
    (hassign : ∀ (l : Nat) (pre : List α) (x : α) (W : World) (K : Act → World → Prop), I pre W → T pre x W → (∀ b V, Ia pre x b V → KeepsOthers W V → Below w0.heap.size W V → K (A x b) V) →
      assign.wpIn (F.inRound l) (n - 1 - 1) P (Exit.then K fun _ _ _ => False) { tmps := (ps.zip (encs x)).foldl (fun t (p, v) => t.setIfInBounds p v) a.tmps, defers := [] } W)
    (hbody : ∀ (l : Nat) (pre : List α) (x : α) (b : Nat) (W : World), Ia pre x b W → body.wpIn (F.inRound l) (n - 1 - 1) P (lft (fun V => KeepsOthers W V ∧ Below w0.heap.size W V ∧ I (pre ++ [x]) V) fun c V => KeepsOthers W V ∧ Ix c (pre ++ [x]) V) (A x b) W)
    (hdone : ∀ (D : Nat) (xs : List α) (W : World), w.heap.size ≤ D → S xs → I xs W → W.heap[D]? = some (.deferred (some [])) → Q .normal { a with defers := { target := .collected D, args := #[] } :: a.defers } W)
    (hstop : ∀ (D : Nat) (c : Code) (pre : List α) (W : World), w.heap.size ≤ D → Ix c pre W → W.heap[D]? = some (.deferred (some [])) → c.wpIn F n P Q { a with defers := { target := .collected D, args := #[] } :: a.defers } W) :
    (Code.rangeFunc g ps assign body).wpIn F n P Q a w := by
  refine range_lay hro h1 hg hFg eg fun r rf rs re rt rp ra rb => ?_
  obtain ⟨st, pe, fn, tmps, params, asg, bod, dfs⟩ := r
  dsimp only at rf rs re rt rp ra rb
  subst rs re rt rp ra rb
  have hsz := hb0.size
  have put : ∀ {V : World} {o : Obj} (o' : Obj), V.heap[w.heap.size + 1]? = some o → Below w0.heap.size V (V.putObj (w.heap.size + 1) o') := fun o' h =>
    (Below.refl w0.heap.size _).grown (grownBy_putObj' _ _ o') (by have := (Array.getElem?_eq_some_iff.1 h).1; omega) (fun k e => by cases e; omega)
  have beside : ∀ {V : World} {o : Obj}, V.heap[w.heap.size]? = some (.deferred (some [])) → (V.putObj (w.heap.size + 1) o).heap[w.heap.size]? = some (.deferred (some [])) := fun h => (World.putObj_heap_other (by omega)).trans h
  obtain ⟨L, hL⟩ : ∃ L : LoopState → Option Code → Loop, L = fun st pe => ⟨st, pe, fn, a.tmps, params, asg, bod, dfs⟩ := ⟨_, rfl⟩
  refine (hit (w.heap.size + 1) (fun pre V => I pre V ∧ V.heap[w.heap.size + 1]? = some (.loop (L .ready none)) ∧ V.heap[w.heap.size]? = some (.deferred (some [])))
    (fun pre V => ∃ c, Ix c pre V ∧ V.heap[w.heap.size + 1]? = some (.loop (L .done (some c))) ∧ V.heap[w.heap.size]? = some (.deferred (some []))) ?abide ?round _ ?bel (by simp; omega) ?start).mono ?fin
  case abide =>
    rintro s A B ⟨hi, hl, hd⟩ hb
    exact ⟨hI s A B none hi (grownBy_below hb none) (fun _ e => by cases e), (hb.block _ (Array.getElem?_eq_some_iff.1 hl).1).trans hl, (hb.block _ (Array.getElem?_eq_some_iff.1 hd).1).trans hd⟩
  case round =>
    rintro pre x W ⟨hi, hl, hd⟩ ht
    subst hL
    refine yield_told (r := ⟨.ready, none, fn, a.tmps, params, asg, bod, dfs⟩) rf hl rfl (hps x) ?_
    refine hassign (w.heap.size + 1) pre x W _ hi ht fun b V hia hkV hBV => ?_
    have hlV := hkV.same _ _ hl rfl
    have hdV := hkV.same _ _ hd rfl
    dsimp only at hlV
    refine ⟨hlV, ?_⟩
    have hbu : (V.putObj (w.heap.size + 1) (.loop ⟨.busy, none, fn, a.tmps, params, asg, bod, dfs⟩)).heap[w.heap.size + 1]? = some (.loop ⟨.busy, none, fn, a.tmps, params, asg, bod, dfs⟩) := World.putObj_heap_same (Array.getElem?_eq_some_iff.1 hlV).1
    refine wpIn_mono (hbody (w.heap.size + 1) pre x b _ ((hIa pre x b).putObj (s := ()) (.loop ⟨.busy, none, fn, a.tmps, params, asg, bod, dfs⟩) hia (by omega) hlV rfl)) (lft_mono ?_ ?_)
    · rintro U ⟨hk, hB, hu⟩
      have hlu := hk.same _ _ hbu rfl
      have hdu := hk.same _ _ (beside hdV) rfl
      exact ⟨hlu, .inl ⟨rfl, ⟨hI.putObj _ hu (by omega) hlu rfl, World.putObj_heap_same (Array.getElem?_eq_some_iff.1 hlu).1, beside hdu⟩, ((hBV.trans (put _ hlV)).trans hB).trans (put _ hlu)⟩⟩
    · rintro c U ⟨hk, hu⟩
      have hlu := hk.same _ _ hbu rfl
      have hdu := hk.same _ _ (beside hdV) rfl
      exact ⟨hlu, .inr ⟨rfl, c, (hIx c).putObj _ hu (by omega) hlu rfl, World.putObj_heap_same (Array.getElem?_eq_some_iff.1 hlu).1, beside hdu⟩⟩
  case bel => exact hb0.trans ((((Below.refl _ w).alloc (Nat.le_refl _) _).alloc (by simp) _).mono hsz)
  case start => exact ⟨hI.alloc _ (hI.alloc _ h0), by rw [hL]; have := World.alloc_heap_new (w.alloc (.deferred (some []))) (.loop ⟨.ready, none, fn, a.tmps, params, asg, bod, dfs⟩); rwa [World.size_alloc] at this, (Below.heap_alloc _ _ _ (by simp)).trans (World.alloc_heap_new w _)⟩
  case fin =>
    rintro e V ⟨hv, ⟨xs, hS, hi, hl, hd⟩ | ⟨pre, c, hi, hl, hd⟩⟩
    · exact ⟨hv, _, hl, by rw [hL]; simp, .inl ⟨by rw [hL], hdone _ xs _ (Nat.le_refl _) hS (hI.putObj _ hi (by omega) hl rfl) (beside hd)⟩⟩
    · exact ⟨hv, _, hl, by rw [hL]; simp, .inr ⟨c, by rw [hL], hstop _ c pre _ (Nat.le_refl _) ((hIx c).putObj _ hi (by omega) hl rfl) (beside hd)⟩⟩
end Go.Proofs.YtakfimhpnpapdaaGreatDoor
