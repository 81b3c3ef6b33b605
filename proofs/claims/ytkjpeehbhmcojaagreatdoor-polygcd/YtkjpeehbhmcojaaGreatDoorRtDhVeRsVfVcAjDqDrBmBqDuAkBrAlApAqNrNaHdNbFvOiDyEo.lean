/-
  ashlarref1.Bits, and that it is limbs.Bits' number.
-/
import Derived.Test.YtkjpeehbhmcojaaGreatDoorRdLnWrIbWg
import Derived.Test.YtkjpeehbhmcojaaGreatDoorAbDnDoAcReRxRfRhCqRrRwVa
import Derived.Test.YtkjpeehbhmcojaaGreatDoorUoDmVtAfBpBnBoAhAdBsDtAgWvUhAiRzVd
import Derived.Test.YtkjpeehbhmcojaaGreatDoorDcUjLeUk
import Derived.Test.YtkjpeehbhmcojaaGreatDoorRmRpDkDlDbRiRjRg
import Derived.Deep.DeepFit
import Derived.Test.YtkjpeehbhmcojaaGreatDoorRoVbDaCxRb
import Derived.Test.YtkjpeehbhmcojaaGreatDoorBbCvNjUbUcUdOwRaWmBe
import Derived.Test.YtkjpeehbhmcojaaGreatDoorRkUiVq
import Derived.Test.YtkjpeehbhmcojaaGreatDoorCyViDsAeVuWxUpUq
import Derived.Defers
import Derived.Recover
import Derived.Laws.Pointers
import Derived.Test.YtkjpeehbhmcojaaGreatDoorPlS1Mm
import Derived.RangeFuncNested
import Derived.RangeFuncBound
import Derived.Test.YtkjpeehbhmcojaaGreatDoorUeUfUg
import Derived.RangeFuncCalls
import Derived.RangeFuncLeaves
import Derived.Shelf.Abstract
import Derived.Shelf.RegionOpen
import Derived.WalkKit
import Derived.OwnWalkIn
import Derived.TacticsInMore
import Derived.LoopNIn
import Derived.LoopIn
import Derived.RegionTactic
namespace Go.Proofs.YtkjpeehbhmcojaaGreatDoor
open Go.RowKit
set_option linter.unusedVariables false
set_option linter.unusedSimpArgs false
set_option maxHeartbeats 8000000
set_option maxRecDepth 100000 in
theorem rpDeg_any (p : Option Addr) (n nc : Nat) (w : World) (hn : n ≤ 1000000) :
    Calls Tryz.prog 31 #[.slice p n nc] w fun r w' => r = .returned (.int .i64 ((n : Int) - 1)) ∧ Below w.heap.size w w' := by
  have v1 : IntKind.i64.wrap ((n : Int) - 1) = (n : Int) - 1 := by rw [IntKind.wrap_i64]; omega
  go_enter Tryz.func31, Tryz.ntmps31
  go_wp2
  go_ret
  exact ⟨rfl, Below.refl _ _⟩
theorem Sub_ev {w : World} {K L : Nat} {x y : Int} {e f : Ent} (h : EV w K x e) (k : EV w L y f) : Calls Tryz.prog 111 #[.agg #[.bool e.s, .slice e.p e.n e.c], .agg #[.bool f.s, .slice f.p f.n f.c]] w fun r w' => ∃ u : Ent, r = .returned (.agg #[.bool u.s, .slice u.p u.n u.c]) ∧ NV w.heap.size w' (K + L + 1) (x - y) u ∧ Below w.heap.size w w' := by
  obtain ⟨xs, h1, rfl, h3⟩ := h
  obtain ⟨ys, k1, rfl, k3⟩ := k
  refine (Sub_any e.s f.s e.p f.p e.n e.c f.n f.c xs ys w h1 k1).mono ?_
  rintro r w' ⟨s', p', n', zs, g1, g2, g3, g4⟩
  exact ⟨⟨s', p', n', n'⟩, g1, ⟨zs, g2, rfl, by show n' ≤ _; omega⟩, g4⟩
theorem rd_one (w : World) (z : Int) (t : Nat) : Rd (w.alloc (.cells #[.int .i64 z] t)) (some ⟨w.heap.size, 0, none⟩) .i64 [z] := fun _ => ⟨w.heap.size, 0, rfl, fun j hj => by
  obtain rfl : j = 0 := by simp at hj; omega
  simp [go_sem, gx]⟩
def LastsB {α : Type} (E : World → Nat → Nat → α → Hdr → Prop) : Prop :=
  ∀ {w w' : World} {B T : Nat} {z : α} {h : Hdr}, E w B T z h → T ≤ w.heap.size → (∀ b, B ≤ b → b < T → w'.heap[b]? = w.heap[b]?) → E w' B T z h
structure Kq (lo base : Nat) (w w' : World) : Prop where
  os : w'.os = w.os
  tape : w'.tape = w.tape
  output : w'.output = w.output
  size : w.heap.size ≤ w'.heap.size
  block : ∀ k, k < w.heap.size → (k < lo ∨ base ≤ k) → w'.heap[k]? = w.heap[k]?
section
variable {lo base : Nat} {w w1 w2 : World}
theorem Kq.trans (h : Kq lo base w w1) (k : Kq lo base w1 w2) : Kq lo base w w2 :=
  ⟨k.os.trans h.os, k.tape.trans h.tape, k.output.trans h.output, Nat.le_trans h.size k.size, fun i hi hx => (k.block i (Nat.lt_of_lt_of_le hi h.size) hx).trans (h.block i hi hx)⟩
end
open Go.RowKit Go.Shelf
set_option maxRecDepth 100000 in
theorem uTerms_any {w : World} {K : Nat} {p : Option Addr} {n nc : Nat} {es : List Ent} {zs : List Int} (h : PA w K p n nc es zs) (hn : n ≤ 1000000) (hK : K ≤ 1000) :
    Calls Tryz.prog 18 #[.slice p n nc] w fun r w' => ∃ g q m fs, r = .returned (.func (.func 50) #[] #[.pointer (some ⟨g, 0, none⟩)]) ∧ w'.cell? ⟨g, 0, none⟩ = some (.slice q m m) ∧ PN w.heap.size w' K q m fs (tr zs) ∧ Below w.heap.size w w' := by
  go_enter Tryz.func18, Tryz.ntmps18
  go_wp2_with fail
  refine (uNorm_any K p n nc es zs _ h hn hK).mono ?_
  rintro r w1 ⟨q, m, fs, rfl, h1, hb1⟩
  have hal := bel_al (o := .cells #[.slice q m m] 23) (Below.refl w1.heap.size w1)
  have HF : Hid (PN w.heap.size (w1.alloc (.cells #[.slice q m m] 23)) K q m fs (tr zs) ∧ Below w.heap.size w (w1.alloc (.cells #[.slice q m m] 23))) := ⟨h1.below hal, bnext' hb1 hal⟩
  clear h1
  go_wp2
  go_ret
  exact ⟨w1.heap.size, q, m, fs, rfl, by simp [go_sem], HF.out⟩
attribute [local go_sem] Oper.semAt_some
def idx (zs : List Int) (k : Nat) : List Nat := (List.range k).filter fun j => gx zs j ≠ 0
theorem idx_succ (zs : List Int) (k : Nat) : idx zs (k + 1) = if gx zs k = 0 then idx zs k else idx zs k ++ [k] := by
  unfold idx
  rw [List.range_succ, List.filter_append]
  split
  · rename_i h; simp [h]
  · rename_i h; simp [h]
theorem idx_len (zs : List Int) (k : Nat) : (idx zs k).length ≤ k := by
  unfold idx
  exact Nat.le_trans (List.length_filter_le _ _) (by simp)
set_option maxRecDepth 100000 in
theorem terms1_in (n : Nat) (hn : 1 ≤ n) (l Bs : Nat) (w0 : World) {K : Nat} {p : Option Addr} {len : Nat} {es : List Ent} {zs : List Int} (hP : PA w0 K p len len es zs) (hlen : len ≤ 1000000) (hK : K ≤ 1000) (J Jx : List (Nat × Ent) → World → Prop) (hJ : ∀ s A B, J s A → Below A.heap.size A B → J s B)
    (hY : ∀ pre x W, J pre W → pre.length < len → YieldAt Fence.wide (n - 1) Tryz.prog l #[.int .i64 ((x.1 : Nat) : Int), .agg #[.bool x.2.s, .slice x.2.p x.2.n x.2.c]] W fun e W' =>
      (e = .returned (.bool true) ∧ J (pre ++ [x]) W' ∧ Below w0.heap.size W W') ∨ (e = .returned (.bool false) ∧ Jx (pre ++ [x]) W'))
    (W : World) (hW : Below w0.heap.size w0 W) (hBs : W.cell? ⟨Bs, 0, none⟩ = some (.slice p len len)) (h0 : J [] W) :
    CallsIn Fence.wide n Tryz.prog 50 #[.func (.yield l) #[] #[], .pointer (some ⟨Bs, 0, none⟩)] W fun e W' => (∃ v, e = .returned v) ∧
      ((∃ ys, ys.map (·.1) = idx zs len ∧ J ys W') ∨ (∃ pre, Jx pre W')) := by
  refine callsIn_of_wp Tryz.func50 rfl trivial ?_ rfl
  simp only [Tryz.ntmps50, List.size_toArray, List.length_cons, List.length_nil, Nat.reduceAdd, Nat.reduceSub, Array.replicate_succ, Array.replicate_zero, List.push_toArray, List.append_toArray, List.nil_append, List.cons_append]
  have HJ := (show Hid _ from hJ)
  have HY := (show Hid _ from hY)
  clear hJ hY
  gi_wp2
  gi_loopw [3, 4, 7] (fun _ _ i wr => ∃ k : Nat, k ≤ len ∧ i = .int .i64 k ∧ Hid ((∃ ys, ys.map (·.1) = idx zs k ∧ J ys wr) ∧ Below w0.heap.size w0 wr))
    (fun _ _ i _ => len - (intOf i).toNat)
  case atStart => exact ⟨0, Nat.zero_le _, rfl, ⟨[], rfl, h0⟩, hW⟩
  case round =>
    obtain ⟨k, hk, rfl, H⟩ := hrel
    by_cases hlt : k < len
    · obtain ⟨⟨ys, hys, hJs⟩, hB⟩ := H.out
      have hel := hP.el
      have hPr := hP.below hB
      obtain ⟨b, o, hp, hc⟩ := hPr.pl (by omega)
      subst hp
      obtain ⟨c0, c1⟩ := hc k (by omega)
      have hv := hPr.ev k hlt
      have HI : Hid (ys.map (·.1) = idx zs k ∧ J ys wr ∧ Below w0.heap.size w0 wr) := ⟨hys, hJs, hB⟩
      have hli : ys.length ≤ k := by rw [← List.length_map (f := (·.1)), hys]; exact idx_len zs k
      clear H hys hJs hB hPr hc
      gi_wp2_with fail
      have hal := bel_al (o := .cells #[.bool (ge es k).s, .slice (ge es k).p (ge es k).n (ge es k).c] 47) (Below.refl wr.heap.size wr)
      have hX : Bx (wr.alloc (.cells #[.bool (ge es k).s, .slice (ge es k).p (ge es k).n (ge es k).c] 47)) wr.heap.size (.bool (ge es k).s) (.slice (ge es k).p (ge es k).n (ge es k).c) := Bx.new _ _ _ rfl
      have hv1 := hv.below hal
      generalize wr.alloc (.cells #[.bool (ge es k).s, .slice (ge es k).p (ge es k).n (ge es k).c] 47) = W1 at *
      refine ⟨trivial, (callsIn_wide.2 (Sign_ev hv1)).mono ?_⟩
      rintro r w2 ⟨rfl, hb2⟩
      have hB2 := bnext' hal hb2
      have hv2 := hv1.below hb2
      obtain ⟨q0, q1, -, -⟩ := hX.later hb2
      clear hX hv1 hal hb2 c0 c1
      have hcs : Hid (gx zs k = 0 ∨ ¬ gx zs k = 0) := Classical.em _
      rcases hcs.out with hz | hz
      · rw [isgn_zero hz]
        have HZ : Hid (idx zs (k + 1) = idx zs k) := by show _ = _; rw [idx_succ, if_pos hz]
        clear hz hcs hv2
        gi_wp2
        refine ⟨trivial, ?_⟩
        gi_wp2
        refine ⟨fun _ h => (by cases h), ?_⟩
        gi_wp2
        go_roundw
        case rel => exact ⟨k + 1, by omega, by simp, ⟨ys, by rw [HZ.out]; exact HI.out.1, HJ.out _ _ _ HI.out.2.1 hB2⟩, HI.out.2.2.trans (hB2.mono HI.out.2.2.size)⟩
        case measure => simp [intOf]; omega
      · have HZ : Hid (idx zs (k + 1) = idx zs k ++ [k]) := by show _ = _; rw [idx_succ, if_neg hz]
        have hi : isgn (gx zs k) = 1 ∨ isgn (gx zs k) = -1 := by
          rcases (show 0 < gx zs k ∨ gx zs k < 0 by omega) with h | h
          · exact .inl (isgn_pos h)
          · exact .inr (isgn_neg h)
        have ho := own_any hv2 hK
        clear hz hcs
        rcases hi with hi | hi
        all_goals
          rw [hi]
          gi_wp2_with fail
          refine ⟨trivial, (callsIn_wide.2 ho).mono ?_⟩
          rintro r w3 ⟨f, rfl, hf, hb3⟩
          have hB3 := bnext' hB2 hb3
          obtain ⟨fn, tmps, assign, body, hy, hR⟩ := HY.out ys (k, f) w3 (HJ.out _ _ _ HI.out.2.1 hB3) (by omega)
          dsimp only at hy
          gi_wp2_with fail
          refine hR.mono ?_
          rintro e W3 (⟨rfl, hJ3, hk3⟩ | ⟨rfl, hJx3⟩)
          · have HF : Hid ((ys ++ [(k, f)]).map (·.1) = idx zs (k + 1) ∧ J (ys ++ [(k, f)]) W3 ∧ Below w0.heap.size w0 W3) := ⟨by rw [List.map_append, HI.out.1, HZ.out]; rfl, hJ3, (HI.out.2.2.trans (hB3.mono HI.out.2.2.size)).trans hk3⟩
            clear hJ3 hk3 hR hy q0 q1
            gi_wp2
            go_roundw
            case rel => exact ⟨k + 1, by omega, by simp, ⟨_, HF.out.1, HF.out.2.1⟩, HF.out.2.2⟩
            case measure => simp [intOf]; omega
          · have HF : Hid (Jx (ys ++ [(k, f)]) W3) := hJx3
            clear hJx3 hR hy q0 q1
            gi_wp2
            refine bodyPost_ret (results_none rfl _ _ _) rfl ?_
            exact ⟨⟨_, rfl⟩, .inr ⟨_, HF.out⟩⟩
    · obtain rfl : k = len := by omega
      gi_wp2
      go_end0
      exact ⟨⟨_, rfl⟩, .inl H.out.1⟩
theorem terms_stops (n : Nat) (hn : 1 ≤ n) (Bs : Nat) (w0 : World) {K : Nat} {p : Option Addr} {len : Nat} {es : List Ent} {zs : List Int} (hP : PA w0 K p len len es zs) (hlen : len ≤ 1000000) (hK : K ≤ 1000) (hBs : w0.cell? ⟨Bs, 0, none⟩ = some (.slice p len len)) :
    SeqStopsK Fence.wide n Tryz.prog 50 #[.pointer (some ⟨Bs, 0, none⟩)] (fun x : Nat × Ent => #[Value.int .i64 ((x.1 : Nat) : Int), .agg #[.bool x.2.s, .slice x.2.p x.2.n x.2.c]]) (Below w0.heap.size) (fun ys => ys.map (·.1) = idx zs len) (fun _ => True) len w0 := fun l J Jx W hW hJ _ hY h0 => by
  refine (terms1_in n hn l Bs w0 hP hlen hK J Jx (fun s A B hs hb => hJ s A B none hs (grownBy_below hb none) (fun r e => by cases e)) hY W hW (cell_later hW hBs) h0).mono ?_
  rintro e W' ⟨he, h | ⟨pre, h⟩⟩
  · exact ⟨he, .inl h⟩
  · exact ⟨he, .inr ⟨pre, trivial, h⟩⟩
attribute [local go_sem] Oper.semAt_some
def Told (zs : List Int) (len K B : Nat) (pre : List (Nat × Ent)) (x : Nat × Ent) (W : World) : Prop := pre.map (·.1) = idx zs x.1 ∧ x.1 < len ∧ ¬ gx zs x.1 = 0 ∧ NV B W K (gx zs x.1) x.2
theorem Rd.held {W W' : World} {row : Option Nat} {p : Option Addr} {k : IntKind} {xs : List Int} (h : Rd W p k xs) (hg : W.grownBy W' row) (hr : ∀ r, row = some r → ∃ o : Obj, W.heap[r]? = some o ∧ o.isCells = false) : Rd W' p k xs := fun hp => by
  obtain ⟨b, o, e, hc⟩ := h hp
  exact ⟨b, o, e, fun j hj => cell_kept (hc j hj) hg hr⟩
theorem NV.held {W W' : World} {row : Option Nat} {B K : Nat} {z : Int} {e : Ent} (h : NV B W K z e) (hg : W.grownBy W' row) (hr : ∀ r, row = some r → ∃ o : Obj, W.heap[r]? = some o ∧ o.isCells = false) : NV B W' K z e := by
  obtain ⟨xs, h1, h2⟩ := h
  refine ⟨xs, ⟨h1.len, h1.rd.held hg hr, h1.u, h1.nrm, h1.sg, h1.pn, h1.v, h1.fr, h1.fz.kept hg fun a ha e' => ?_⟩, h2⟩
  obtain ⟨o, ho, hc⟩ := hr a.block e'.symm
  rcases Nat.eq_zero_or_pos e.n with hn | hn
  · rw [h1.pn hn] at ha; cases ha
  · obtain ⟨b, off, hp, hcl⟩ := h1.rd (by rw [h1.len]; exact hn)
    rw [hp] at ha; cases ha
    obtain ⟨o', ho', hc'⟩ := cells_of_cell (hcl 0 (by rw [h1.len]; exact hn))
    rw [ho] at ho'; cases ho'; rw [hc] at hc'; cases hc'
theorem told_own (B : Nat) (zs : List Int) (len K B0 : Nat) (pre : List (Nat × Ent)) (x : Nat × Ent) : OwnFrom B fun (_ : Unit) W => Told zs len K B0 pre x W := fun _ W W' row h hg hr => ⟨h.1, h.2.1, h.2.2.1, h.2.2.2.held hg fun r e => (hr r e).2⟩
attribute [local go_sem] Oper.semAt_some
structure Hole (lo base N : Nat) (A B : World) : Prop where
  os : B.os = A.os
  tape : B.tape = A.tape
  output : B.output = A.output
  size : A.heap.size ≤ B.heap.size
  block : ∀ k, k < N → (k < lo ∨ base ≤ k) → B.heap[k]? = A.heap[k]?
theorem Hole.trans {lo base N : Nat} {A B C : World} (h : Hole lo base N A B) (k : Hole lo base N B C) : Hole lo base N A C := ⟨k.os.trans h.os, k.tape.trans h.tape, k.output.trans h.output, Nat.le_trans h.size k.size, fun i hi hx => (k.block i hi hx).trans (h.block i hi hx)⟩
theorem Hole.set {lo base N : Nat} {A B : World} (h : Hole lo base N A B) (a : Addr) (v : Value) (ha : (lo ≤ a.block ∧ a.block < base) ∨ N ≤ a.block) : Hole lo base N A (B.setCell a v) :=
  ⟨h.os, h.tape, h.output, by simpa [World.setCell] using h.size, fun i hi hx => by
    rw [heap_setCell_other B a i v (fun e => by subst e; omega)]
    exact h.block i hi hx⟩
section
variable {P : Program} {ops : Array Oper} {Q : Exit → Act → World → Prop} {md : Region.Mode}
theorem count_down {l : Array Bool} {i : Nat} (h : l.getD i true = false) : (l.setIfInBounds i true).toList.count false < l.toList.count false := by
  have hi : i < l.size := by
    rcases Nat.lt_or_ge i l.size with h' | h'
    · exact h'
    · simp [Array.getElem?_eq_none h'] at h
  have hv : l.toList[i]'(by simpa using hi) = false := by simpa [hi] using h
  have hp : 0 < l.toList.count false := List.count_pos_iff.2 (hv ▸ List.getElem_mem _)
  rw [Array.toList_setIfInBounds, List.count_set (by simpa using hi), hv]
  show _ - 1 + 0 < _
  omega
def ahead (ops : Array Oper) : Bool := (List.range ops.size).all fun i => ((ops[i]?).map (·.after.all fun e => decide (e.on < i))).getD true
end
def lay (listed : Array Bool) (vals : Nat → Value) : List (Nat × Nat) → Array Value → Array Value
  | [], t => t
  | (i, d) :: l, t => lay listed vals l (if listed.getD i false = true then t.setIfInBounds d (vals i) else t)
theorem lay_comm (listed : Array Bool) (vals : Nat → Value) (d : Nat) (v : Value) : ∀ (l : List (Nat × Nat)) (t : Array Value), d ∉ l.map Prod.snd → lay listed vals l (t.setIfInBounds d v) = (lay listed vals l t).setIfInBounds d v
  | [], t, _ => rfl
  | (i, e) :: l, t, h => by
    simp only [List.map_cons, List.mem_cons, not_or] at h
    rw [lay, lay]
    split
    · rw [← lay_comm listed vals d v l _ h.2, Array.setIfInBounds_comm _ _ h.1]
    · exact lay_comm listed vals d v l t h.2
theorem lay_other (listed : Array Bool) (vals : Nat → Value) (s : Nat) : ∀ (l : List (Nat × Nat)) (t : Array Value), s ∉ l.map Prod.snd → (lay listed vals l t).getD s undef = t.getD s undef
  | [], t, _ => rfl
  | (i, e) :: l, t, h => by
    simp only [List.map_cons, List.mem_cons, not_or] at h
    rw [lay, lay_other listed vals s l _ h.2]
    split
    · simp [Array.getElem?_setIfInBounds, Ne.symm h.1]
    · rfl
theorem lay_size (listed : Array Bool) (vals : Nat → Value) : ∀ (l : List (Nat × Nat)) (t : Array Value), (lay listed vals l t).size = t.size
  | [], t => rfl
  | (i, e) :: l, t => by
    rw [lay, lay_size listed vals l]
    split <;> simp
theorem lay_at (listed : Array Bool) (vals : Nat → Value) (i d : Nat) (hi : listed.getD i false = true) : ∀ (l : List (Nat × Nat)) (t : Array Value), (l.map Prod.snd).Nodup → (i, d) ∈ l → d < t.size → (lay listed vals l t).getD d undef = vals i
  | [], t, _, h, _ => by cases h
  | (j, e) :: l, t, hn, h, hd => by
    simp only [List.map_cons, List.nodup_cons] at hn
    rw [lay]
    rcases List.mem_cons.1 h with h1 | h1
    · cases h1
      rw [if_pos hi, lay_other listed vals d l _ hn.1]
      simp [hd]
    · refine lay_at listed vals i d hi l _ hn.2 h1 ?_
      split <;> simpa using hd
theorem lay_same (listed : Array Bool) (vals : Nat → Value) (j : Nat) (v : Value) : ∀ (l : List (Nat × Nat)) (t : Array Value), j ∉ l.map Prod.fst → lay (listed.setIfInBounds j true) (fun i => if i = j then v else vals i) l t = lay listed vals l t
  | [], t, _ => rfl
  | (i, e) :: l, t, h => by
    simp only [List.map_cons, List.mem_cons, not_or] at h
    have h1 : (listed.setIfInBounds j true).getD i false = listed.getD i false := by simp [Array.getElem?_setIfInBounds, h.1]
    rw [lay, lay, h1, if_neg (Ne.symm h.1), lay_same listed vals j v l _ h.2]
theorem lay_put (listed : Array Bool) (vals : Nat → Value) (j d : Nat) (v : Value) (hj : listed.getD j true = false) : ∀ (l : List (Nat × Nat)) (t : Array Value), (l.map Prod.fst).Nodup → (l.map Prod.snd).Nodup → (j, d) ∈ l → lay (listed.setIfInBounds j true) (fun i => if i = j then v else vals i) l t = (lay listed vals l t).setIfInBounds d v
  | [], t, _, _, h => by cases h
  | (i, e) :: l, t, hf, hs, h => by
    simp only [List.map_cons, List.nodup_cons] at hf hs
    have hlt : j < listed.size := by
      rcases Nat.lt_or_ge j listed.size with h' | h'
      · exact h'
      · simp [Array.getElem?_eq_none h'] at hj
    have hj' : listed.getD j false = false := by simpa [hlt] using hj
    have hnew : (listed.setIfInBounds j true).getD j false = true := by simp [hlt]
    rw [lay, lay]
    rcases List.mem_cons.1 h with h1 | h1
    · cases h1
      rw [if_pos hnew, if_pos rfl, hj', if_neg (by decide), lay_same listed vals j v l _ hf.1, lay_comm listed vals d v l t hs.1]
    · have hij : i ≠ j := fun e' => hf.1 (by rw [e']; exact List.mem_map.2 ⟨(j, d), h1, rfl⟩)
      have h2 : (listed.setIfInBounds j true).getD i false = listed.getD i false := by simp [Array.getElem?_setIfInBounds, Ne.symm hij]
      rw [h2, if_neg hij]
      exact lay_put listed vals j d v hj l _ hf.2 hs.2 h1
section
variable {P : Program} {ops : Array Oper} {Q : Exit → Act → World → Prop}
end
inductive Ans where
  | val (v : Value)
  | row (n : Nat) (xs : List Int)
section
variable {P : Program} {Q : Exit → Act → World → Prop} {W : World} {t0 : Array Value} {dl : List (Nat × Nat)} {ans : List Ans} {i : Nat} {o : Oper}
end
structure An where
  is : Value → World → Prop
  later : ∀ {v : Value} {w w' : World}, is v w → Below w.heap.size w w' → is v w'
instance : Inhabited An := ⟨⟨fun _ _ => True, fun _ _ => trivial⟩⟩
def An.val (u : Value) : An := ⟨fun v _ => v = u, fun h _ => h⟩
theorem lay_unlisted (listed : Array Bool) (vals : Nat → Value) (k s : Nat) (hk : listed.getD k false = false) : ∀ (l : List (Nat × Nat)) (t : Array Value), (l.map Prod.snd).Nodup → (k, s) ∈ l → (lay listed vals l t).getD s undef = t.getD s undef
  | [], t, _, h => by cases h
  | (j, e) :: l, t, hn, h => by
    simp only [List.map_cons, List.nodup_cons] at hn
    rw [lay]
    rcases List.mem_cons.1 h with h1 | h1
    · cases h1
      rw [hk, if_neg (by decide), lay_other listed vals s l _ hn.1]
    · have hne : e ≠ s := fun e' => hn.1 (by rw [e']; exact List.mem_map.2 ⟨(k, s), h1, rfl⟩)
      rw [lay_unlisted listed vals k s hk l _ hn.2 h1]
      split
      · simp [Array.getElem?_setIfInBounds, hne]
      · rfl
def waits (ops : Array Oper) (k i : Nat) : Bool := match ops[k]? with
  | some o => o.after.toList.any fun e => e.on == i && Region.binds .any e
  | none => false
theorem waits_at {ops : Array Oper} {k i : Nat} (h : waits ops k i = true) : ∃ o, ops[k]? = some o ∧ ∃ e ∈ o.after, e.on = i ∧ Region.binds .any e = true := by
  unfold waits at h
  cases ho : ops[k]? with
  | none => simp [ho] at h
  | some o =>
    simp only [ho] at h
    obtain ⟨e, he, h2⟩ := List.any_eq_true.1 h
    simp only [Bool.and_eq_true, beq_iff_eq] at h2
    exact ⟨o, rfl, e, by simpa using he, h2.1, h2.2⟩
def lastFit (ops : Array Oper) (N : Nat) : Bool := decide (ops.size = N) || (decide (ops.size = N + 1) && (match ops[N]? with | some o => o.guard.isNone | none => false) && (List.range N).all fun j => waits ops N j)
def allUpto (S : Nat → Oper → Prop) (N : Nat) : Nat → List Oper → Prop
  | _, [] => True
  | i, o :: l => (i < N → S i o) ∧ allUpto S N (i + 1) l
theorem allUpto_at {S : Nat → Oper → Prop} {N : Nat} : ∀ (l : List Oper) (k : Nat), allUpto S N k l → ∀ i o, l[i]? = some o → k + i < N → S (k + i) o
  | [], _, _, i, o, h, _ => by simp at h
  | x :: l, k, h, 0, o, ho, hN => by
    simp only [List.getElem?_cons_zero, Option.some.injEq] at ho
    subst ho
    exact h.1 hN
  | x :: l, k, h, i + 1, o, ho, hN => by
    have := allUpto_at l (k + 1) h.2 i o (by simpa using ho) (by omega)
    rwa [show k + 1 + i = k + (i + 1) by omega] at this
def EndsD (P : Program) (Q : Exit → Act → World → Prop) (ops : Array Oper) (N : Nat) (a : Act) (w : World) : Prop := match ops[N]? with
  | none => Q .normal a w
  | some o => o.wp P a w (fun a' w' => Q .normal a' w') Q
structure Ends (P : Program) (Q : Exit → Act → World → Prop) (ops : Array Oper) (N : Nat) (a : Act) (w : World) : Prop where
  out : EndsD P Q ops N a w
def aheadB (ops : Array Oper) : Bool := (List.range ops.size).all fun i => ((ops[i]?).map (·.after.all fun e => !Region.binds .any e || decide (e.on < i))).getD true
theorem all_listedB {ops : Array Oper} (ha : aheadB ops = true) {listed : Array Bool} (hr : Region.ready .any ops listed = []) : ∀ j, j < ops.size → listed.getD j true = true := by
  intro j
  induction j using Nat.strongRecOn with
  | _ j ih =>
    intro hj
    cases hc : listed.getD j true with
    | true => rfl
    | false =>
      exfalso
      have ho : ops[j]? = some ops[j] := Array.getElem?_eq_getElem hj
      have hsz : j < listed.size := by
        rcases Nat.lt_or_ge j listed.size with h' | h'
        · exact h'
        · simp [Array.getElem?_eq_none h'] at hc
      have : j ∈ Region.ready .any ops listed := by
        rw [mem_ready]
        refine ⟨hc, ops[j], ho, fun e he hbn => ?_⟩
        have h1 := List.all_eq_true.1 ha j (List.mem_range.2 hj)
        rw [ho] at h1
        simp only [Option.map_some, Option.getD_some, Array.all_eq_true_iff_forall_mem, Bool.or_eq_true, Bool.not_eq_true', decide_eq_true_eq] at h1
        have h2 : e.on < j := by
          rcases h1 e he with h | h
          · rw [hbn] at h; cases h
          · exact h
        have h3 := ih e.on h2 (by omega)
        have h4 : e.on < listed.size := by omega
        simpa [h4] using h3
      rw [hr] at this
      cases this
theorem wpAny_invB {P : Program} {ops : Array Oper} {Q : Exit → Act → World → Prop} (I : Array Bool → Act → World → Prop) (ha : aheadB ops = true)
    (hend : ∀ listed a w, I listed a w → (∀ j, j < ops.size → listed.getD j true = true) → Q .normal a w)
    (hstep : ∀ listed a w, I listed a w → ∀ i o, ops[i]? = some o → listed.getD i true = false → (∀ e ∈ o.after, Region.binds .any e = true → listed.getD e.on false = true) → wpOp P ops Q i (fun a' w' => I (listed.setIfInBounds i true) a' w') a w) :
    ∀ (fuel : Nat) (listed : Array Bool) (a : Act) (w : World), listed.toList.count false ≤ fuel → I listed a w → wpAny P .any ops Q fuel listed a w := by
  intro fuel
  induction fuel with
  | zero =>
    intro listed a w hc hI
    have hr : Region.ready .any ops listed = [] := by
      rw [List.eq_nil_iff_forall_not_mem]
      intro j hj
      have h1 := count_down (mem_ready.1 hj).1
      omega
    exact ⟨hr, hend _ _ _ hI (all_listedB ha hr)⟩
  | succ fuel ih =>
    intro listed a w hc hI
    refine ⟨fun hr => hend _ _ _ hI (all_listedB ha hr), fun i hi => ?_⟩
    obtain ⟨h0, o, ho, hd⟩ := mem_ready.1 hi
    exact wpOp_mono (fun a' w' h => ih _ _ _ (by have := count_down h0; omega) h) (hstep _ _ _ hI i o ho h0 hd)
theorem region_invB {P : Program} {ops : Array Oper} {Q : Exit → Act → World → Prop} {id : Nat} {a : Act} {w : World} (hm : P.follows .mixedOrders = true) (I : Array Bool → Act → World → Prop) (ha : aheadB ops = true)
    (hend : ∀ listed a w, I listed a w → (∀ j, j < ops.size → listed.getD j true = true) → Q .normal a w)
    (hstep : ∀ listed a w, I listed a w → ∀ i o, ops[i]? = some o → listed.getD i true = false → (∀ e ∈ o.after, Region.binds .any e = true → listed.getD e.on false = true) → wpOp P ops Q i (fun a' w' => I (listed.setIfInBounds i true) a' w') a w)
    (h : I (Array.replicate ops.size false) a { w with drawn := w.drawn + 1 }) : (Code.region id ops true).wp P Q a w :=
  wp_region_any hm (wpAny_invB I ha hend hstep _ _ _ _ (by simp) h)
theorem ends_some {P : Program} {Q : Exit → Act → World → Prop} {ops : Array Oper} {N : Nat} {a : Act} {w : World} {o : Oper} (h : ops[N]? = some o) (k : o.wp P a w (fun a' w' => Q .normal a' w') Q) : Ends P Q ops N a w := by
  refine ⟨?_⟩
  rw [EndsD, h]
  exact k
section
variable {P : Program} {Q : Exit → Act → World → Prop} {W : World} {ops : Array Oper} {t0 : Array Value} {dl : List (Nat × Nat)} {ans : List An} {i : Nat} {o : Oper}
end
end Go.Proofs.YtkjpeehbhmcojaaGreatDoor
