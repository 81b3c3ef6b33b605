/-
  upoly.each.
-/
import Derived.Test.YtifebbacnlhggaaGreatDoorWgUe
import Derived.RangeFuncNested
import Derived.RangeFuncBound
import Derived.RangeFuncCalls
import Derived.RangeFuncLeaves
import Derived.Shelf.Abstract
import Derived.Shelf.RegionOpen
import Derived.WalkKit
import Derived.OwnWalkIn
import Derived.TacticsInMore
import Derived.LoopNIn
import Derived.LoopIn
import Derived.Test.YtifebbacnlhggaaGreatDoorPlMmNaWa
import Derived.RegionTactic
namespace Go.Proofs.YtifebbacnlhggaaGreatDoor
open Go.RowKit
set_option linter.unusedVariables false
set_option linter.unusedSimpArgs false

/-- Behind some rounds of each. -/
def EaI (O : World → Int → Ent → Prop) (φ : Int → Int) (g n k : Nat) (zs : List Int) (W0 wr : World) : Prop :=
  ∃ es, Row2 wr g 24 es ∧ es.length = n ∧ (∀ j, j < k → O wr (φ (gx zs j)) (ge es j) ∧ (0 < (ge es j).n → Off g (ge es j).p)) ∧ Below g W0 wr
set_option maxHeartbeats 2000000 in
set_option maxRecDepth 100000 in
/-- upoly.each. -/
theorem each_any (K : Nat) (p : Option Addr) (n nc : Nat) (es : List Ent) (zs : List Int) (w : World) (h : PA w K p n nc es zs) (hn : n ≤ 1000000) (J : Nat) (C : Array Value) (hE : ∀ args w', Sem.run Tryz.prog (callFunc J args) w' = .ok (.enter J args) w')
    (O : World → Int → Ent → Prop) (φ : Int → Int) (hOb : ∀ w w' z e, O w z e → Below w.heap.size w w' → O w' z e) (hOs : ∀ w z e g o u v, O w z e → (0 < e.n → Off g e.p) → O ((w.setCell ⟨g, o, none⟩ u).setCell ⟨g, o + 1, none⟩ v) z e)
    (hJ : ∀ w' z e, Below w.heap.size w w' → EV w' K z e → Calls Tryz.prog J (#[.agg #[.bool e.s, .slice e.p e.n e.c]] ++ C) w' fun r w'' => ∃ f : Ent, r = .returned (.agg #[.bool f.s, .slice f.p f.n f.c]) ∧ O w'' (φ z) f ∧ (0 < f.n → f.p = e.p ∧ f.n ≤ e.n ∨ Go.Proofs.YtifebbacnlhggaaGreatDoor.From w'.heap.size f.p) ∧ Below w'.heap.size w' w'') :
    Calls Tryz.prog 101 #[.slice p n nc, .func (.func J) #[] C] w fun r w' => ∃ q fs, r = .returned (.slice q n n) ∧ fs.length = n ∧ PL w' q fs ∧ Go.Proofs.YtifebbacnlhggaaGreatDoor.From w.heap.size q ∧ (∀ j, j < n → O w' (φ (gx zs j)) (ge fs j)) ∧ Below w.heap.size w w' := by
  have hmk := mk_poly n (by omega)
  have hle := h.el
  have HOb := (show Hid _ from hOb)
  have HOs := (show Hid _ from hOs)
  have HJ := (show Hid _ from hJ)
  clear hOb hOs hJ
  go_enter Tryz.func101, Tryz.ntmps101
  go_wp2_with fail
  have hR0 := Row2.new w 24 (ezs n)
  have hW0 : Below w.heap.size w (w.alloc (.cells (ca2 (ezs n)) 24)) := (Below.refl _ _).alloc (Nat.le_refl _) _
  have hs0 : w.heap.size + 1 ≤ (w.alloc (.cells (ca2 (ezs n)) 24)).heap.size := by simp
  generalize w.alloc (.cells (ca2 (ezs n)) 24) = W0 at *
  clear hmk
  go_loopw [6, 7, 13] (fun iv cv kv wr => ∃ k : Nat, k ≤ n ∧ kv = .int .i64 k ∧ Hid (EaI O φ w.heap.size n k zs W0 wr)) (fun _ _ kv _ => n - (intOf kv).toNat)
  case atStart => exact ⟨0, Nat.zero_le _, by go_num, ezs n, hR0, length_ezs n, fun j hj => by omega, Below.refl _ _⟩
  case round =>
    obtain ⟨k, hk, rfl, H⟩ := hrel
    rcases Nat.lt_or_ge k n with hlt | hge
    · obtain ⟨es', hR, hel, hev, hB⟩ := H.out
      have hBw : Below w.heap.size w wr := hW0.trans hB
      have hPA := h.below hBw
      obtain ⟨b, o, hp, hc⟩ := hPA.pl (by omega)
      subst hp
      obtain ⟨c0, c1⟩ := hc k (by omega)
      have hv := hPA.ev k hlt
      have HH : Hid (EaI O φ w.heap.size n k zs W0 wr) := H.out
      clear H hR hel hev hB hc hPA
      go_wp2_with fail
      have hal := bel_al (o := .cells #[.bool (ge es k).s, .slice (ge es k).p (ge es k).n (ge es k).c] 24) (Below.refl wr.heap.size wr)
      refine (HJ.out _ (gx zs k) (ge es k) (bnext hBw (Nat.le_refl _) hal) (hv.below hal)).mono ?_
      rintro e w1 ⟨f, rfl, hO, hF, hb1⟩
      have hb2 := bnext' hal hb1
      obtain ⟨es', hR, hel, hev, hB⟩ := HH.out
      have hR1 := hR.below hb2 hR.lt
      obtain ⟨d0, d1⟩ := hR1.cell k (by omega)
      have f0 := hR1.frozen (k * 2)
      have f1 := hR1.frozen (k * 2 + 1)
      have hoff : Hid (0 < f.n → Off w.heap.size f.p) := fun h0 => by
        rcases hF h0 with ⟨e1, e2⟩ | e1
        · rw [e1]
          obtain ⟨xs, k1, -⟩ := h.ev k hlt
          exact k1.rd.off (Nat.le_refl _) (by rw [k1.len]; omega)
        · have hs1 := hB.size
          have hs2 := hal.size
          exact off_from e1 (by omega)
      have HI : Hid (O w1 (φ (gx zs k)) f ∧ Row2 w1 w.heap.size 24 es' ∧ es'.length = n ∧ (∀ j, j < k → O w1 (φ (gx zs j)) (ge es' j) ∧ (0 < (ge es' j).n → Off w.heap.size (ge es' j).p)) ∧ Below w.heap.size W0 w1) := ⟨hO, hR1, hel, fun j hj => ⟨HOb.out _ _ _ _ (hev j hj).1 hb2, (hev j hj).2⟩, hB.trans (hb2.mono (by have := hBw.size; omega))⟩
      clear hO hF hb1 hb2 hR hel hev hB hR1 hal hv c0 c1 HH
      go_wp2
      go_roundw
      case rel =>
        obtain ⟨hO, hR, hel, hev, hB⟩ := HI.out
        refine ⟨k + 1, by omega, by go_num, es'.set k f, hR.set k f (by omega), by simpa using hel, fun j hj => ?_, ?_⟩
        · rcases Nat.lt_or_ge j k with h' | h'
          · rw [ge_set_other _ _ _ _ (by omega)]
            exact ⟨HOs.out _ _ _ _ _ _ _ (hev j h').1 (hev j h').2, (hev j h').2⟩
          · obtain rfl : j = k := by omega
            rw [ge_set_same _ _ _ (by omega)]
            exact ⟨HOs.out _ _ _ _ _ _ _ hO hoff.out, hoff.out⟩
        · exact (hB.setCell (p := ⟨w.heap.size, k * 2, none⟩) (Nat.le_refl _) _).setCell (p := ⟨w.heap.size, k * 2 + 1, none⟩) (Nat.le_refl _) _
      case measure => simp [intOf]; omega
    · obtain rfl : k = n := by omega
      obtain ⟨es', hR, hel, hev, hB⟩ := H.out
      have HI : Hid (Row2 wr w.heap.size 24 es' ∧ es'.length = k ∧ (∀ j, j < k → O wr (φ (gx zs j)) (ge es' j)) ∧ Below w.heap.size w wr) := ⟨hR, hel, fun j hj => (hev j hj).1, hW0.trans hB⟩
      clear H hR hel hev hB hge hk
      go_wp2
      go_ret
      obtain ⟨hR, hel, hev, hB⟩ := HI.out
      exact ⟨_, es', rfl, hel, hR.pl, fun a ha => by cases ha; exact Nat.le_refl _, hev, hB⟩
end Go.Proofs.YtifebbacnlhggaaGreatDoor
/-
  upoly.read, Norm, Deg.
-/
namespace Go.Proofs.YtifebbacnlhggaaGreatDoor
open Go.RowKit
set_option linter.unusedVariables false
set_option linter.unusedSimpArgs false

/-- A polynomial as read gives it. -/
structure PB (B : Nat) (w : World) (K : Nat) (p : Option Addr) (n : Nat) (es : List Ent) (zs : List Int) : Prop where
  el : es.length = n
  zl : zs.length = n
  nrm : tlen zs = n
  pl : PL w p es
  fr : Go.Proofs.YtifebbacnlhggaaGreatDoor.From B p
  ev : ∀ j, j < n → EN w K (gx zs j) (ge es j)
theorem EN.set2 {w : World} {K : Nat} {z : Int} {e : Ent} {g o : Nat} {u v : Value} (h : EN w K z e) (ho : 0 < e.n → Off g e.p) : EN ((w.setCell ⟨g, o, none⟩ u).setCell ⟨g, o + 1, none⟩ v) K z e := by
  obtain ⟨xs, h1, h2⟩ := h
  refine ⟨xs, ⟨h1.len, h1.cap, h1.bnd, h1.sml, fun hx => ?_, h1.u⟩, h2⟩
  have := ho (by rw [h1.len] at hx; exact hx)
  exact ((h1.rd.set_other ⟨g, o, none⟩ u this).set_other ⟨g, o + 1, none⟩ v this) hx
theorem PB.below {B : Nat} {w w' : World} {K : Nat} {p : Option Addr} {n : Nat} {es : List Ent} {zs : List Int} (h : PB B w K p n es zs) (hb : Below w.heap.size w w') : PB B w' K p n es zs := ⟨h.el, h.zl, h.nrm, h.pl.below hb, h.fr, fun j hj => (h.ev j hj).below hb⟩
theorem PB.pa {B : Nat} {w : World} {K : Nat} {p : Option Addr} {n : Nat} {es : List Ent} {zs : List Int} (h : PB B w K p n es zs) (hn : n ≤ 1000000) : PA w K p n n es zs :=
  ⟨h.el, h.zl, Nat.le_refl _, by unfold maxLen; omega, fun e => by
    rcases Nat.eq_zero_or_pos n with h0 | h0
    · exact h0
    · obtain ⟨b, o, hp, -⟩ := h.pl (by rw [h.el]; exact h0)
      rw [hp] at e
      exact absurd e (by simp), h.pl, fun j hj => (h.ev j hj).ev⟩
def PbP (zs : List Int) (K : Nat) (w : World) (e : Ending) (w' : World) : Prop :=
  ∃ p n es, e = .returned (.slice p n n) ∧ PB w.heap.size w' K p n es zs ∧ Below w.heap.size w w'
theorem PA.trim {w : World} {K : Nat} {p : Option Addr} {n nc : Nat} {es : List Ent} {zs : List Int} (h : PA w K p n nc es zs) : PA w K p (tlen zs) (tlen zs) (es.take (tlen zs)) (tr zs) := by
  have htl := tlen_le zs
  have hz := h.zl
  have hc := h.cap
  exact (h.take (tlen zs) (by omega)).clip fun e => by have := h.pn e; omega
theorem callBare (args : Array Value) (w' : World) : Sem.run Tryz.prog (callFunc 96 args) w' = .ok (.enter 96 args) w' := by
  have h1 : ¬ Tryz.f96.name = "runtime.NumGoroutine" := of_decide_eq_false (by kernel_rfl)
  have h2 : ¬ Tryz.f96.body = none := fun h => by cases h
  simp only [callFunc, Tryz.func96, go_sem]
  simp [h1, h2, go_sem]
theorem callOwn (args : Array Value) (w' : World) : Sem.run Tryz.prog (callFunc 103 args) w' = .ok (.enter 103 args) w' := by
  have h1 : ¬ Tryz.f103.name = "runtime.NumGoroutine" := of_decide_eq_false (by kernel_rfl)
  have h2 : ¬ Tryz.f103.body = none := fun h => by cases h
  simp only [callFunc, Tryz.func103, go_sem]
  simp [h1, h2, go_sem]
theorem NV.set2o {B : Nat} {w : World} {K : Nat} {z : Int} {e : Ent} {g o : Nat} {u v : Value} (h : NV B w K z e) (ho : 0 < e.n → Off g e.p) : NV B ((w.setCell ⟨g, o, none⟩ u).setCell ⟨g, o + 1, none⟩ v) K z e := by
  obtain ⟨xs, h1, h2⟩ := h
  refine ⟨xs, ⟨h1.len, fun hx => ?_, h1.u, h1.nrm, h1.sg, h1.pn, h1.v, h1.fr, (h1.fz.set _ _).set _ _⟩, h2⟩
  have := ho (by rw [h1.len] at hx; exact hx)
  exact ((h1.rd.set_other ⟨g, o, none⟩ u this).set_other ⟨g, o + 1, none⟩ v this) hx
set_option maxHeartbeats 2000000 in
set_option maxRecDepth 100000 in
/-- upoly.read. -/
theorem read_any (K : Nat) (p : Option Addr) (n nc : Nat) (es : List Ent) (zs : List Int) (w : World) (h : PA w K p n nc es zs) (hn : n ≤ 1000000) (hK : K ≤ 1000) :
    Calls Tryz.prog 125 #[.slice p n nc] w (PbP (tr zs) K w) := by
  have htl := tlen_le zs
  have hzl := h.zl
  go_enter Tryz.func125, Tryz.ntmps125
  go_wp2_with fail
  refine (utrim_any K p n nc es zs _ h hn).mono ?_
  rintro e w1 ⟨rfl, hb1⟩
  have h1 := (h.below hb1).trim
  have he := each_any K _ _ _ _ _ w1 h1 (by omega) 96 #[] callBare (fun w z e => EN w K z e) id (fun _ _ _ _ h hb => h.below hb) (fun _ _ _ _ _ _ _ h ho => h.set2 ho) (fun w' z e _ hv => (bare_any hv hK).mono fun r w'' ⟨f, a, b, c, d, e'⟩ => ⟨f, a, d, fun _ => .inl ⟨b, c⟩, e'⟩)
  go_wp2_with fail
  refine he.mono ?_
  rintro e w2 ⟨q, fs, rfl, k1, k2, k3, k4, hb2⟩
  clear he
  go_wp2
  go_ret
  have hs := hb1.size
  exact ⟨q, tlen zs, fs, rfl, ⟨k1, length_tr zs, tlen_tr zs, k2, fun a ha => Nat.le_trans hs (k3 a ha), k4⟩, bnext' hb1 hb2⟩
set_option maxHeartbeats 2000000 in
set_option maxRecDepth 100000 in
/-- upoly.Norm. -/
theorem uNorm_any (K : Nat) (p : Option Addr) (n nc : Nat) (es : List Ent) (zs : List Int) (w : World) (h : PA w K p n nc es zs) (hn : n ≤ 1000000) (hK : K ≤ 1000) :
    Calls Tryz.prog 49 #[.slice p n nc] w (PnP (tr zs) K w) := by
  have htl := tlen_le zs
  have hzl := h.zl
  go_enter Tryz.func49, Tryz.ntmps49
  go_wp2_with fail
  refine (utrim_any K p n nc es zs _ h hn).mono ?_
  rintro e w1 ⟨rfl, hb1⟩
  have h1 := (h.below hb1).trim
  have he := each_any K _ _ _ _ _ w1 h1 (by omega) 103 #[] callOwn (fun w z e => NV w1.heap.size w K z e) id (fun _ _ _ _ h hb => h.below hb) (fun _ _ _ _ _ _ _ h ho => h.set2o ho) (fun w' z e hb hv => (own_any hv hK).mono fun r w'' ⟨f, a, b, c⟩ => ⟨f, a, b.mono hb.size, fun _ => .inr (by obtain ⟨xs, k, -⟩ := b; exact k.fr), c⟩)
  go_wp2_with fail
  refine he.mono ?_
  rintro e w2 ⟨q, fs, rfl, k1, k2, k3, k4, hb2⟩
  clear he
  go_wp2
  go_ret
  have hs := hb1.size
  exact ⟨q, tlen zs, fs, rfl, ⟨k1, length_tr zs, tlen_tr zs, k2, fun a ha => Nat.le_trans hs (k3 a ha), fun j hj => (k4 j hj).mono hs⟩, bnext' hb1 hb2⟩
set_option maxHeartbeats 2000000 in
/-- upoly.Deg. -/
theorem uDeg_any (K : Nat) (p : Option Addr) (n nc : Nat) (es : List Ent) (zs : List Int) (w : World) (h : PA w K p n nc es zs) (hn : n ≤ 1000000) :
    Calls Tryz.prog 74 #[.slice p n nc] w fun e w' => e = .returned (.int .i64 ((tlen zs : Int) - 1)) ∧ Below w.heap.size w w' := by
  have htl := tlen_le zs
  have hzl := h.zl
  have v : IntKind.i64.wrap ((tlen zs : Int) - 1) = (tlen zs : Int) - 1 := by rw [IntKind.wrap_i64]; omega
  go_enter Tryz.func74, Tryz.ntmps74
  go_wp2_with fail
  refine (utrim_any K p n nc es zs _ h hn).mono ?_
  rintro e w1 ⟨rfl, hb1⟩
  go_wp2
  go_ret
  exact ⟨rfl, hb1⟩
end Go.Proofs.YtifebbacnlhggaaGreatDoor
/-
  upoly.Terms.
-/
namespace Go.Proofs.YtifebbacnlhggaaGreatDoor
open Go.RowKit Go.Shelf
set_option linter.unusedVariables false
set_option linter.unusedSimpArgs false

attribute [local go_sem] Oper.semAt_some
/-- The powers that are there, among the first k. -/
def idx (zs : List Int) (k : Nat) : List Nat := (List.range k).filter fun j => gx zs j ≠ 0
theorem idx_succ (zs : List Int) (k : Nat) : idx zs (k + 1) = if gx zs k = 0 then idx zs k else idx zs k ++ [k] := by
  unfold idx
  rw [List.range_succ, List.filter_append]
  split
  · rename_i h; simp [h]
  · rename_i h; simp [h]
theorem idx_len (zs : List Int) (k : Nat) : (idx zs k).length ≤ k := by
  unfold idx
  exact Nat.le_trans (List.length_filter_le _ _) (by simp)
end Go.Proofs.YtifebbacnlhggaaGreatDoor
/-
  upoly.Terms for a body that is told what it is handed.
-/
namespace Go.Proofs.YtifebbacnlhggaaGreatDoor
open Go.RowKit Go.Shelf
set_option linter.unusedVariables false
set_option linter.unusedSimpArgs false
attribute [local go_sem] Oper.semAt_some

/-- What is told: the next power that is there, and its entry. -/
def Told (zs : List Int) (len K B : Nat) (pre : List (Nat × Ent)) (x : Nat × Ent) (W : World) : Prop := pre.map (·.1) = idx zs x.1 ∧ x.1 < len ∧ ¬ gx zs x.1 = 0 ∧ NV B W K (gx zs x.1) x.2
theorem Rd.held {W W' : World} {row : Option Nat} {p : Option Addr} {k : IntKind} {xs : List Int} (h : Rd W p k xs) (hg : W.grownBy W' row) (hr : ∀ r, row = some r → ∃ o : Obj, W.heap[r]? = some o ∧ o.isCells = false) : Rd W' p k xs := fun hp => by
  obtain ⟨b, o, e, hc⟩ := h hp
  exact ⟨b, o, e, fun j hj => cell_kept (hc j hj) hg hr⟩
theorem NV.held {W W' : World} {row : Option Nat} {B K : Nat} {z : Int} {e : Ent} (h : NV B W K z e) (hg : W.grownBy W' row) (hr : ∀ r, row = some r → ∃ o : Obj, W.heap[r]? = some o ∧ o.isCells = false) : NV B W' K z e := by
  obtain ⟨xs, h1, h2⟩ := h
  refine ⟨xs, ⟨h1.len, h1.rd.held hg hr, h1.u, h1.nrm, h1.sg, h1.pn, h1.v, h1.fr, h1.fz.kept hg fun a ha e' => ?_⟩, h2⟩
  obtain ⟨o, ho, hc⟩ := hr a.block e'.symm
  rcases Nat.eq_zero_or_pos e.n with hn | hn
  · rw [h1.pn hn] at ha; cases ha
  · obtain ⟨b, off, hp, hcl⟩ := h1.rd (by rw [h1.len]; exact hn)
    rw [hp] at ha; cases ha
    obtain ⟨o', ho', hc'⟩ := cells_of_cell (hcl 0 (by rw [h1.len]; exact hn))
    rw [ho] at ho'; cases ho'; rw [hc] at hc'; cases hc'
theorem told_own (B : Nat) (zs : List Int) (len K B0 : Nat) (pre : List (Nat × Ent)) (x : Nat × Ent) : OwnFrom B fun (_ : Unit) W => Told zs len K B0 pre x W := fun _ W W' row h hg hr => ⟨h.1, h.2.1, h.2.2.1, h.2.2.2.held hg fun r e => (hr r e).2⟩
end Go.Proofs.YtifebbacnlhggaaGreatDoor
/-
  A range over a function whose body writes into some blocks that were there (from lo to base), after Na.
-/
namespace Go.Proofs.YtifebbacnlhggaaGreatDoor
open Go.RowKit Go.Shelf
set_option linter.unusedVariables false
set_option linter.unusedSimpArgs false
attribute [local go_sem] Oper.semAt_some

/-- Of the blocks below N only those from lo to base may have changed. -/
structure Hole (lo base N : Nat) (A B : World) : Prop where
  os : B.os = A.os
  tape : B.tape = A.tape
  output : B.output = A.output
  size : A.heap.size ≤ B.heap.size
  block : ∀ k, k < N → (k < lo ∨ base ≤ k) → B.heap[k]? = A.heap[k]?
theorem Hole.of {lo base N : Nat} {A B : World} (h : Below N A B) : Hole lo base N A B := ⟨h.os, h.tape, h.output, h.size, fun k hk _ => h.block k hk⟩
theorem Hole.refl (lo base N : Nat) (A : World) : Hole lo base N A A := .of (Below.refl _ _)
theorem Hole.trans {lo base N : Nat} {A B C : World} (h : Hole lo base N A B) (k : Hole lo base N B C) : Hole lo base N A C := ⟨k.os.trans h.os, k.tape.trans h.tape, k.output.trans h.output, Nat.le_trans h.size k.size, fun i hi hx => (k.block i hi hx).trans (h.block i hi hx)⟩
theorem Hole.set {lo base N : Nat} {A B : World} (h : Hole lo base N A B) (a : Addr) (v : Value) (ha : (lo ≤ a.block ∧ a.block < base) ∨ N ≤ a.block) : Hole lo base N A (B.setCell a v) :=
  ⟨h.os, h.tape, h.output, by simpa [World.setCell] using h.size, fun i hi hx => by
    rw [heap_setCell_other B a i v (fun e => by subst e; omega)]
    exact h.block i hi hx⟩

/-- A range over a function that tells T of what it hands on. -/
theorem range_hole {α : Type} {F : Fence} {n : Nat} {P : Program} {g : Operand} {ps : Array Tmp} {assign body : Code} {Q : Exit → Act → World → Prop} {a : Act} {w w0 : World} {lo base : Nat} (hro : F.round = none) (h1 : 1 ≤ n) {gf : Nat} {lb : Array Value}
    (hg : a.eval g = .func (.func gf) #[] lb) (hFg : F.fn gf) (eg : ∀ args w, (callFunc gf args).run P w = .ok (.enter gf args) w) {encs : α → Array Value} {T : List α → α → World → Prop} {S : List α → Prop}
    (hit : ∀ (l : Nat) (J Jx : List α → World → Prop), (∀ s A B, J s A → Below A.heap.size A B → J s B) →
      (∀ pre x W, J pre W → T pre x W → YieldAt F (n - 1 - 1) P l (encs x) W fun e W' => (e = .returned (.bool true) ∧ J (pre ++ [x]) W' ∧ Hole lo base w0.heap.size W W') ∨ (e = .returned (.bool false) ∧ Jx (pre ++ [x]) W')) →
      ∀ W, Hole lo base w0.heap.size w0 W → w.heap.size ≤ W.heap.size → J [] W → CallsIn F (n - 1) P gf (#[.func (.yield l) #[] #[]] ++ lb) W fun e W' => (∃ v, e = .returned v) ∧ ((∃ xs, S xs ∧ J xs W') ∨ ∃ pre, Jx pre W'))
    (hb0 : Hole lo base w0.heap.size w0 w) (hps : ∀ x, (encs x).size = ps.size)
    (I : List α → World → Prop) (Ix : Code → List α → World → Prop) (Ia : List α → α → Nat → World → Prop) (hI : OwnFrom w.heap.size I) (hIx : ∀ c, OwnFrom w.heap.size (Ix c)) (hIa : ∀ pre x b, OwnFrom w.heap.size fun (_ : Unit) W => Ia pre x b W) (h0 : I [] w) (A : α → Nat → Act)
    (hassign : ∀ (l : Nat) (pre : List α) (x : α) (W : World) (K : Act → World → Prop), I pre W → T pre x W → (∀ b V, Ia pre x b V → KeepsOthers W V → Hole lo base w0.heap.size W V → K (A x b) V) →
      assign.wpIn (F.inRound l) (n - 1 - 1) P (Exit.then K fun _ _ _ => False) { tmps := (ps.zip (encs x)).foldl (fun t (p, v) => t.setIfInBounds p v) a.tmps, defers := [] } W)
    (hbody : ∀ (l : Nat) (pre : List α) (x : α) (b : Nat) (W : World), Ia pre x b W → body.wpIn (F.inRound l) (n - 1 - 1) P (lft (fun V => KeepsOthers W V ∧ Hole lo base w0.heap.size W V ∧ I (pre ++ [x]) V) fun c V => KeepsOthers W V ∧ Ix c (pre ++ [x]) V) (A x b) W)
    (hdone : ∀ (D : Nat) (xs : List α) (W : World), w.heap.size ≤ D → S xs → I xs W → W.heap[D]? = some (.deferred (some [])) → Q .normal { a with defers := { target := .collected D, args := #[] } :: a.defers } W)
    (hstop : ∀ (D : Nat) (c : Code) (pre : List α) (W : World), w.heap.size ≤ D → Ix c pre W → W.heap[D]? = some (.deferred (some [])) → c.wpIn F n P Q { a with defers := { target := .collected D, args := #[] } :: a.defers } W) :
    (Code.rangeFunc g ps assign body).wpIn F n P Q a w := by
  refine range_lay hro h1 hg hFg eg fun r rf rs re rt rp ra rb => ?_
  obtain ⟨st, pe, fn, tmps, params, asg, bod, dfs⟩ := r
  dsimp only at rf rs re rt rp ra rb
  subst rs re rt rp ra rb
  have hsz := hb0.size
  have put : ∀ {V : World} {o : Obj} (o' : Obj), V.heap[w.heap.size + 1]? = some o → Hole lo base w0.heap.size V (V.putObj (w.heap.size + 1) o') := fun o' h => .of <|
    (Below.refl w0.heap.size _).grown (grownBy_putObj' _ _ o') (by have := (Array.getElem?_eq_some_iff.1 h).1; omega) (fun k e => by cases e; omega)
  have beside : ∀ {V : World} {o : Obj}, V.heap[w.heap.size]? = some (.deferred (some [])) → (V.putObj (w.heap.size + 1) o).heap[w.heap.size]? = some (.deferred (some [])) := fun h => (World.putObj_heap_other (by omega)).trans h
  obtain ⟨L, hL⟩ : ∃ L : LoopState → Option Code → Loop, L = fun st pe => ⟨st, pe, fn, a.tmps, params, asg, bod, dfs⟩ := ⟨_, rfl⟩
  refine (hit (w.heap.size + 1) (fun pre V => I pre V ∧ V.heap[w.heap.size + 1]? = some (.loop (L .ready none)) ∧ V.heap[w.heap.size]? = some (.deferred (some [])))
    (fun pre V => ∃ c, Ix c pre V ∧ V.heap[w.heap.size + 1]? = some (.loop (L .done (some c))) ∧ V.heap[w.heap.size]? = some (.deferred (some []))) ?abide ?round _ ?bel (by simp; omega) ?start).mono ?fin
  case abide =>
    rintro s A B ⟨hi, hl, hd⟩ hb
    exact ⟨hI s A B none hi (grownBy_below hb none) (fun _ e => by cases e), (hb.block _ (Array.getElem?_eq_some_iff.1 hl).1).trans hl, (hb.block _ (Array.getElem?_eq_some_iff.1 hd).1).trans hd⟩
  case round =>
    rintro pre x W ⟨hi, hl, hd⟩ ht
    subst hL
    refine yield_told (r := ⟨.ready, none, fn, a.tmps, params, asg, bod, dfs⟩) rf hl rfl (hps x) ?_
    refine hassign (w.heap.size + 1) pre x W _ hi ht fun b V hia hkV hBV => ?_
    have hlV := hkV.same _ _ hl rfl
    have hdV := hkV.same _ _ hd rfl
    dsimp only at hlV
    refine ⟨hlV, ?_⟩
    have hbu : (V.putObj (w.heap.size + 1) (.loop ⟨.busy, none, fn, a.tmps, params, asg, bod, dfs⟩)).heap[w.heap.size + 1]? = some (.loop ⟨.busy, none, fn, a.tmps, params, asg, bod, dfs⟩) := World.putObj_heap_same (Array.getElem?_eq_some_iff.1 hlV).1
    refine wpIn_mono (hbody (w.heap.size + 1) pre x b _ ((hIa pre x b).putObj (s := ()) (.loop ⟨.busy, none, fn, a.tmps, params, asg, bod, dfs⟩) hia (by omega) hlV rfl)) (lft_mono ?_ ?_)
    · rintro U ⟨hk, hB, hu⟩
      have hlu := hk.same _ _ hbu rfl
      have hdu := hk.same _ _ (beside hdV) rfl
      exact ⟨hlu, .inl ⟨rfl, ⟨hI.putObj _ hu (by omega) hlu rfl, World.putObj_heap_same (Array.getElem?_eq_some_iff.1 hlu).1, beside hdu⟩, ((hBV.trans (put _ hlV)).trans hB).trans (put _ hlu)⟩⟩
    · rintro c U ⟨hk, hu⟩
      have hlu := hk.same _ _ hbu rfl
      have hdu := hk.same _ _ (beside hdV) rfl
      exact ⟨hlu, .inr ⟨rfl, c, (hIx c).putObj _ hu (by omega) hlu rfl, World.putObj_heap_same (Array.getElem?_eq_some_iff.1 hlu).1, beside hdu⟩⟩
  case bel => exact hb0.trans (.of ((((Below.refl _ w).alloc (Nat.le_refl _) _).alloc (by simp) _).mono hsz))
  case start => exact ⟨hI.alloc _ (hI.alloc _ h0), by rw [hL]; have := World.alloc_heap_new (w.alloc (.deferred (some []))) (.loop ⟨.ready, none, fn, a.tmps, params, asg, bod, dfs⟩); rwa [World.size_alloc] at this, (Below.heap_alloc _ _ _ (by simp)).trans (World.alloc_heap_new w _)⟩
  case fin =>
    rintro e V ⟨hv, ⟨xs, hS, hi, hl, hd⟩ | ⟨pre, c, hi, hl, hd⟩⟩
    · exact ⟨hv, _, hl, by rw [hL]; simp, .inl ⟨by rw [hL], hdone _ xs _ (Nat.le_refl _) hS (hI.putObj _ hi (by omega) hl rfl) (beside hd)⟩⟩
    · exact ⟨hv, _, hl, by rw [hL]; simp, .inr ⟨c, by rw [hL], hstop _ c pre _ (Nat.le_refl _) ((hIx c).putObj _ hi (by omega) hl rfl) (beside hd)⟩⟩
set_option maxHeartbeats 2000000 in
set_option maxRecDepth 100000 in
/-- The closure of Terms, for a loop body that is told what it is handed. -/
theorem terms1_hole (n : Nat) (hn : 1 ≤ n) (l Bs B0 lo base : Nat) (w0 : World) {K : Nat} {p : Option Addr} {len : Nat} {es : List Ent} {zs : List Int} (hP : ∀ W, Hole lo base w0.heap.size w0 W → PA W K p len len es zs) (hlen : len ≤ 1000000) (hK : K ≤ 1000) (J Jx : List (Nat × Ent) → World → Prop) (hJ : ∀ s A B, J s A → Below A.heap.size A B → J s B)
    (hY : ∀ pre x W, J pre W → Told zs len K B0 pre x W → YieldAt Fence.wide (n - 1) Tryz.prog l #[.int .i64 ((x.1 : Nat) : Int), .agg #[.bool x.2.s, .slice x.2.p x.2.n x.2.c]] W fun e W' =>
      (e = .returned (.bool true) ∧ J (pre ++ [x]) W' ∧ Hole lo base w0.heap.size W W') ∨ (e = .returned (.bool false) ∧ Jx (pre ++ [x]) W'))
    (W : World) (hW : Hole lo base w0.heap.size w0 W) (hB0 : B0 ≤ W.heap.size) (hBs : W.cell? ⟨Bs, 0, none⟩ = some (.slice p len len)) (h0 : J [] W) :
    CallsIn Fence.wide n Tryz.prog 140 #[.func (.yield l) #[] #[], .pointer (some ⟨Bs, 0, none⟩)] W fun e W' => (∃ v, e = .returned v) ∧
      ((∃ ys, ys.map (·.1) = idx zs len ∧ J ys W') ∨ (∃ pre, Jx pre W')) := by
  refine callsIn_of_wp Tryz.func140 rfl trivial ?_ rfl
  simp only [Tryz.ntmps140, List.size_toArray, List.length_cons, List.length_nil, Nat.reduceAdd, Nat.reduceSub, Array.replicate_succ, Array.replicate_zero, List.push_toArray, List.append_toArray, List.nil_append, List.cons_append]
  have HJ := (show Hid _ from hJ)
  have HY := (show Hid _ from hY)
  clear hJ hY
  gi_wp2
  gi_loopw [3, 4, 7] (fun _ _ i wr => ∃ k : Nat, k ≤ len ∧ i = .int .i64 k ∧ Hid ((∃ ys, ys.map (·.1) = idx zs k ∧ J ys wr) ∧ Hole lo base w0.heap.size w0 wr ∧ B0 ≤ wr.heap.size))
    (fun _ _ i _ => len - (intOf i).toNat)
  case atStart => exact ⟨0, Nat.zero_le _, rfl, ⟨[], rfl, h0⟩, hW, hB0⟩
  case round =>
    obtain ⟨k, hk, rfl, H⟩ := hrel
    by_cases hlt : k < len
    · obtain ⟨⟨ys, hys, hJs⟩, hB, hs0⟩ := H.out
      have hel := (hP w0 (Hole.refl _ _ _ _)).el
      have hPr := hP _ hB
      obtain ⟨b, o, hp, hc⟩ := hPr.pl (by omega)
      subst hp
      obtain ⟨c0, c1⟩ := hc k (by omega)
      have hv := hPr.ev k hlt
      have HI : Hid (ys.map (·.1) = idx zs k ∧ J ys wr ∧ Hole lo base w0.heap.size w0 wr) := ⟨hys, hJs, hB⟩
      have hli : ys.length ≤ k := by rw [← List.length_map (f := (·.1)), hys]; exact idx_len zs k
      clear H hys hJs hB hPr hc
      gi_wp2_with fail
      have hal := bel_al (o := .cells #[.bool (ge es k).s, .slice (ge es k).p (ge es k).n (ge es k).c] 24) (Below.refl wr.heap.size wr)
      have hX : Bx (wr.alloc (.cells #[.bool (ge es k).s, .slice (ge es k).p (ge es k).n (ge es k).c] 24)) wr.heap.size (.bool (ge es k).s) (.slice (ge es k).p (ge es k).n (ge es k).c) := Bx.new _ _ _ rfl
      have hv1 := hv.below hal
      generalize wr.alloc (.cells #[.bool (ge es k).s, .slice (ge es k).p (ge es k).n (ge es k).c] 24) = W1 at *
      refine ⟨trivial, (callsIn_wide.2 (Sign_ev hv1)).mono ?_⟩
      rintro r w2 ⟨rfl, hb2⟩
      have hB2 := bnext' hal hb2
      have hv2 := hv1.below hb2
      obtain ⟨q0, q1, -, -⟩ := hX.later hb2
      clear hX hv1 hal hb2 c0 c1
      have hcs : Hid (gx zs k = 0 ∨ ¬ gx zs k = 0) := Classical.em _
      rcases hcs.out with hz | hz
      · rw [isgn_zero hz]
        have HZ : Hid (idx zs (k + 1) = idx zs k) := by show _ = _; rw [idx_succ, if_pos hz]
        clear hz hcs hv2
        gi_wp2
        refine ⟨trivial, ?_⟩
        gi_wp2
        refine ⟨fun _ h => (by cases h), ?_⟩
        gi_wp2
        go_roundw
        case rel => exact ⟨k + 1, by omega, by simp, ⟨ys, by rw [HZ.out]; exact HI.out.1, HJ.out _ _ _ HI.out.2.1 hB2⟩, HI.out.2.2.trans (.of (hB2.mono HI.out.2.2.size)), Nat.le_trans hs0 hB2.size⟩
        case measure => simp [intOf]; omega
      · have HZ : Hid (idx zs (k + 1) = idx zs k ++ [k]) := by show _ = _; rw [idx_succ, if_neg hz]
        have hi : isgn (gx zs k) = 1 ∨ isgn (gx zs k) = -1 := by
          rcases (show 0 < gx zs k ∨ gx zs k < 0 by omega) with h | h
          · exact .inl (isgn_pos h)
          · exact .inr (isgn_neg h)
        have ho := own_any hv2 hK
        have HN : Hid (¬ gx zs k = 0) := hz
        clear hz hcs
        rcases hi with hi | hi
        all_goals
          rw [hi]
          gi_wp2_with fail
          refine ⟨trivial, (callsIn_wide.2 ho).mono ?_⟩
          rintro r w3 ⟨f, rfl, hf, hb3⟩
          have hB3 := bnext' hB2 hb3
          obtain ⟨fn, tmps, assign, body, hy, hR⟩ := HY.out ys (k, f) w3 (HJ.out _ _ _ HI.out.2.1 hB3) ⟨HI.out.1, hlt, HN.out, hf.mono (Nat.le_trans hs0 hB2.size)⟩
          dsimp only at hy
          gi_wp2_with fail
          refine hR.mono ?_
          rintro e W3 (⟨rfl, hJ3, hk3⟩ | ⟨rfl, hJx3⟩)
          · have HF : Hid ((ys ++ [(k, f)]).map (·.1) = idx zs (k + 1) ∧ J (ys ++ [(k, f)]) W3 ∧ Hole lo base w0.heap.size w0 W3 ∧ B0 ≤ W3.heap.size) := ⟨by rw [List.map_append, HI.out.1, HZ.out]; rfl, hJ3, (HI.out.2.2.trans (.of (hB3.mono HI.out.2.2.size))).trans hk3, Nat.le_trans (Nat.le_trans hs0 hB3.size) hk3.size⟩
            clear hJ3 hk3 hR hy q0 q1
            gi_wp2
            go_roundw
            case rel => exact ⟨k + 1, by omega, by simp, ⟨_, HF.out.1, HF.out.2.1⟩, HF.out.2.2.1, HF.out.2.2.2⟩
            case measure => simp [intOf]; omega
          · have HF : Hid (Jx (ys ++ [(k, f)]) W3) := hJx3
            clear hJx3 hR hy q0 q1
            gi_wp2
            refine bodyPost_ret (results_none rfl _ _ _) rfl ?_
            exact ⟨⟨_, rfl⟩, .inr ⟨_, HF.out⟩⟩
    · obtain rfl : k = len := by omega
      gi_wp2
      go_end0
      exact ⟨⟨_, rfl⟩, .inl H.out.1⟩
end Go.Proofs.YtifebbacnlhggaaGreatDoor
/-
  A region whose operations come up in whatever order: by what holds behind each part of it (no order is listed).
-/
namespace Go.Proofs.YtifebbacnlhggaaGreatDoor
section
variable {P : Program} {ops : Array Oper} {Q : Exit → Act → World → Prop} {md : Region.Mode}
theorem count_down {l : Array Bool} {i : Nat} (h : l.getD i true = false) : (l.setIfInBounds i true).toList.count false < l.toList.count false := by
  have hi : i < l.size := by
    rcases Nat.lt_or_ge i l.size with h' | h'
    · exact h'
    · simp [Array.getElem?_eq_none h'] at h
  have hv : l.toList[i]'(by simpa using hi) = false := by simpa [hi] using h
  have hp : 0 < l.toList.count false := List.count_pos_iff.2 (hv ▸ List.getElem_mem _)
  rw [Array.toList_setIfInBounds, List.count_set (by simpa using hi), hv]
  show _ - 1 + 0 < _
  omega
/-- Whoever waits waits for one ahead of it. -/
def ahead (ops : Array Oper) : Bool := (List.range ops.size).all fun i => ((ops[i]?).map (·.after.all fun e => decide (e.on < i))).getD true
theorem all_listed (ha : ahead ops = true) {listed : Array Bool} (hr : Region.ready md ops listed = []) : ∀ j, j < ops.size → listed.getD j true = true := by
  intro j
  induction j using Nat.strongRecOn with
  | _ j ih =>
    intro hj
    cases hc : listed.getD j true with
    | true => rfl
    | false =>
      exfalso
      have ho : ops[j]? = some ops[j] := Array.getElem?_eq_getElem hj
      have hsz : j < listed.size := by
        rcases Nat.lt_or_ge j listed.size with h' | h'
        · exact h'
        · simp [Array.getElem?_eq_none h'] at hc
      have : j ∈ Region.ready md ops listed := by
        rw [mem_ready]
        refine ⟨hc, ops[j], ho, fun e he _ => ?_⟩
        have h1 := List.all_eq_true.1 ha j (List.mem_range.2 hj)
        rw [ho] at h1
        simp only [Option.map_some, Option.getD_some, Array.all_eq_true_iff_forall_mem, decide_eq_true_eq] at h1
        have h2 := h1 e he
        have h3 := ih e.on h2 (by omega)
        have h4 : e.on < listed.size := by omega
        simpa [h4] using h3
      rw [hr] at this
      cases this
/-- A region in whatever order, by what holds behind each part of it. -/
theorem wpAny_inv (I : Array Bool → Act → World → Prop) (ha : ahead ops = true)
    (hend : ∀ listed a w, I listed a w → (∀ j, j < ops.size → listed.getD j true = true) → Q .normal a w)
    (hstep : ∀ listed a w, I listed a w → ∀ i o, ops[i]? = some o → listed.getD i true = false → (∀ e ∈ o.after, Region.binds md e = true → listed.getD e.on false = true) → wpOp P ops Q i (fun a' w' => I (listed.setIfInBounds i true) a' w') a w) :
    ∀ (fuel : Nat) (listed : Array Bool) (a : Act) (w : World), listed.toList.count false ≤ fuel → I listed a w → wpAny P md ops Q fuel listed a w := by
  intro fuel
  induction fuel with
  | zero =>
    intro listed a w hc hI
    have hr : Region.ready md ops listed = [] := by
      rw [List.eq_nil_iff_forall_not_mem]
      intro j hj
      have h1 := count_down (mem_ready.1 hj).1
      omega
    exact ⟨hr, hend _ _ _ hI (all_listed ha hr)⟩
  | succ fuel ih =>
    intro listed a w hc hI
    refine ⟨fun hr => hend _ _ _ hI (all_listed ha hr), fun i hi => ?_⟩
    obtain ⟨h0, o, ho, hd⟩ := mem_ready.1 hi
    exact wpOp_mono (fun a' w' h => ih _ _ _ (by have := count_down h0; omega) h) (hstep _ _ _ hI i o ho h0 hd)
theorem region_inv {id : Nat} {a : Act} {w : World} (hm : P.follows .mixedOrders = true) (I : Array Bool → Act → World → Prop) (ha : ahead ops = true)
    (hend : ∀ listed a w, I listed a w → (∀ j, j < ops.size → listed.getD j true = true) → Q .normal a w)
    (hstep : ∀ listed a w, I listed a w → ∀ i o, ops[i]? = some o → listed.getD i true = false → (∀ e ∈ o.after, Region.binds .any e = true → listed.getD e.on false = true) → wpOp P ops Q i (fun a' w' => I (listed.setIfInBounds i true) a' w') a w)
    (h : I (Array.replicate ops.size false) a { w with drawn := w.drawn + 1 }) : (Code.region id ops true).wp P Q a w :=
  wp_region_any hm (wpAny_inv I ha hend hstep _ _ _ _ (by simp) h)
end
end Go.Proofs.YtifebbacnlhggaaGreatDoor
