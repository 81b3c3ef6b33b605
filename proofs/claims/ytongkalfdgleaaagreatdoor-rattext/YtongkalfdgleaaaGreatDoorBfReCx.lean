/-
  What begun calls, at its numbers.
-/
import Derived.Test.YtongkalfdgleaaaGreatDoorWpBe
import Derived.Test.YtongkalfdgleaaaGreatDoorRdLnWrIb
import Derived.Test.YtongkalfdgleaaaGreatDoorCuRaWh
import Derived.Test.YtongkalfdgleaaaGreatDoorWiWjWo
import Derived.Deep.DeepCutAuto
namespace Go.Proofs.YtongkalfdgleaaaGreatDoor
open Go.RowKit
set_option linter.unusedVariables false
set_option linter.unusedSimpArgs false

theorem NI.hai {B : Nat} {w : World} {s : Bool} {p : Option Addr} {n : Nat} {xs : List Int} {z : Int} (h : NI B w s p n xs z) (hn : n ≤ 100) : AI w p n n xs := h.ai (by omega)

/-- Quo of -7 by 2. -/
theorem quo72 {B1 B2 : Nat} {w : World} {sa s2 : Bool} {pa p2 : Option Addr} {na n2 : Nat} {xa x2 : List Int} (hA : NI B1 w sa pa na xa (-7)) (hna : na ≤ 2) (hB : NI B2 w s2 p2 n2 x2 2) (hn2 : n2 ≤ 2) :
    Calls Tryz.prog 59 #[.agg #[.bool sa, .slice pa na na], .agg #[.bool s2, .slice p2 n2 n2]] w fun e w' => ∃ s1 p1 n1 qs s3 p3 n3 rs, e = .returned (.tuple #[.agg #[.bool s1, .slice p1 n1 n1], .agg #[.bool s3, .slice p3 n3 n3], .int .i64 0]) ∧ NI w.heap.size w' s1 p1 n1 qs (-4) ∧ NI w.heap.size w' s3 p3 n3 rs 1 ∧ n1 ≤ 8 ∧ n3 ≤ 8 ∧ Below w.heap.size w w' := by
  obtain ⟨_, h2⟩ := ival_pos hB.u hB.v (by decide)
  have ht := tlen_small hB.u (by omega) (by omega)
  refine (Quo_one sa s2 pa p2 na na n2 n2 xa x2 w (hA.hai (by omega)) (hB.hai (by omega)) ht).mono ?_
  rintro e w' ⟨s1, p1, n1, qs, s3, p3, n3, rs, Q, R, rfl, hq, hr, heq, hR0, hR1, hn1, hn3, hb⟩
  rw [hA.v, hB.v] at heq
  rw [hB.v] at hR1
  have hQ : Q = -4 := by omega
  have hR : R = 1 := by omega
  subst hQ hR
  exact ⟨s1, p1, n1, qs, s3, p3, n3, rs, rfl, hq, hr, by omega, by omega, hb⟩

/-- What a callee leaves, as rules for the walk. -/
theorem bcell {W w1 : World} (hb : Below W.heap.size W w1) : (∀ b o, b < W.heap.size → w1.cell? ⟨b, o, none⟩ = W.cell? ⟨b, o, none⟩) ∧ (∀ b o, b < W.heap.size → w1.frozen? ⟨b, o, none⟩ = W.frozen? ⟨b, o, none⟩) :=
  ⟨fun b o h => hb.cell (p := ⟨b, o, none⟩) h, fun b o h => hb.frozen (p := ⟨b, o, none⟩) h⟩

/-- The same, with what it says of sizes. -/
theorem brules {X w3 : World} (hb : Below X.heap.size X w3) : (∀ b o, b < X.heap.size → w3.cell? ⟨b, o, none⟩ = X.cell? ⟨b, o, none⟩) ∧ (∀ b o, b < X.heap.size → w3.frozen? ⟨b, o, none⟩ = X.frozen? ⟨b, o, none⟩) ∧
    (∀ r, r < X.heap.size → r < w3.heap.size) ∧ (∀ r, r < X.heap.size → r ≤ w3.heap.size) ∧ (∀ r, r < X.heap.size → r ≤ w3.heap.size + 1) :=
  ⟨(bcell hb).1, (bcell hb).2, fun r h => Nat.lt_of_lt_of_le h hb.size, fun r h => Nat.le_of_lt (Nat.lt_of_lt_of_le h hb.size), fun r h => by have := hb.size; omega⟩

theorem bne {X w3 : World} (hb : Below X.heap.size X w3) : (∀ r, r < X.heap.size → r ≠ w3.heap.size) ∧ (∀ r, r < X.heap.size → w3.heap.size ≠ r) ∧ (∀ r, r < X.heap.size → r ≠ w3.heap.size + 1) ∧ (∀ r, r < X.heap.size → w3.heap.size + 1 ≠ r) := by
  have := hb.size
  exact ⟨fun r h => by omega, fun r h => by omega, fun r h => by omega, fun r h => by omega⟩
theorem bel_al {w x : World} {o : Obj} (h : Below w.heap.size w x) : Below w.heap.size w (x.alloc o) := h.alloc h.size o
theorem comp {X2 w2 X3 w3 : World} (h2 : Below X2.heap.size X2 w2) (hX : Below w2.heap.size w2 X3) (h3 : Below X3.heap.size X3 w3) : Below X2.heap.size X2 w3 :=
  (h2.trans (hX.mono h2.size)).trans (h3.mono (Nat.le_trans h2.size hX.size))

theorem NI_al {B : Nat} {w : World} {s : Bool} {p : Option Addr} {n : Nat} {xs : List Int} {z : Int} {o : Obj} (h : NI B w s p n xs z) : NI B (w.alloc o) s p n xs z := h.below ((Below.refl _ _).alloc (Nat.le_refl _) o)
theorem NI_st {B : Nat} {w : World} {s : Bool} {p : Option Addr} {n : Nat} {xs : List Int} {z : Int} {a : Addr} {v : Value} (h : NI B w s p n xs z) (ha : a.block < B) : NI B (w.setCell a v) s p n xs z := h.set ha v
theorem NI_st2 {B U : Nat} {w : World} {s : Bool} {p : Option Addr} {n : Nat} {xs : List Int} {z : Int} {a : Addr} {v : Value} (hU : ∀ x, p = some x → x.block < U) (ha : U ≤ a.block) (h : NI B w s p n xs z) : NI B (w.setCell a v) s p n xs z :=
  ⟨h.len, h.rd.set_other a v (fun b hb e => by have := hU b hb; omega), h.u, h.nrm, h.sg, h.pn, h.v, h.fr⟩
theorem NI_st3 {B F : Nat} {w : World} {s : Bool} {p : Option Addr} {n : Nat} {xs : List Int} {z : Int} {a : Addr} {v : Value} (hF : From F p) (ha : a.block < F) (h : NI B w s p n xs z) : NI B (w.setCell a v) s p n xs z :=
  ⟨h.len, h.rd.set_other a v (fun b hb e => by have := hF b hb; omega), h.u, h.nrm, h.sg, h.pn, h.v, h.fr⟩
theorem NI.lt {B : Nat} {w : World} {s : Bool} {p : Option Addr} {n : Nat} {xs : List Int} {z : Int} (h : NI B w s p n xs z) : ∀ x, p = some x → x.block < w.heap.size := fun x hx => by
  rcases Nat.eq_zero_or_pos n with h0 | h0
  · rw [h.pn h0] at hx; cases hx
  · obtain ⟨b, off, hp, hlt⟩ := h.rd.lt (by rw [h.len]; exact h0)
    rw [hp] at hx; cases hx; exact hlt
theorem Bx_al {w : World} {r : Nat} {u v : Value} {o : Obj} (h : Bx w r u v) : Bx (w.alloc o) r u v := h.alloc o
theorem Bx_new {w : World} {r t : Nat} {u v : Value} (h : r = w.heap.size) : Bx (w.alloc (.cells #[u, v] t)) r u v := Bx.new u v t h
theorem Bx_set {w : World} {g : Nat} {u v x y : Value} (h : Bx w g u v) : Bx ((w.setCell ⟨g, 0, none⟩ x).setCell ⟨g, 1, none⟩ y) g x y := by
  have h1 : (w.setCell ⟨g, 0, none⟩ x).cell? ⟨g, 1, none⟩ = some v := by rw [World.cell?_setCell_other _ _ _ _ (by simp)]; exact h.c1
  refine ⟨?_, World.cell?_setCell_same _ _ _ h1, ?_, ?_⟩
  · rw [World.cell?_setCell_other _ _ _ _ (by simp)]; exact World.cell?_setCell_same _ _ _ h.c0
  · rw [World.frozen?_setCell, World.frozen?_setCell]; exact h.f0
  · rw [World.frozen?_setCell, World.frozen?_setCell]; exact h.f1
theorem Bx_oth {w : World} {r g : Nat} {u v x y : Value} (h : Bx w r u v) (hne : r ≠ g) : Bx ((w.setCell ⟨g, 0, none⟩ x).setCell ⟨g, 1, none⟩ y) r u v := by
  have e : ((w.setCell ⟨g, 0, none⟩ x).setCell ⟨g, 1, none⟩ y).heap[r]? = w.heap[r]? := (heap_setCell_other _ _ r y hne).trans (heap_setCell_other _ _ r x hne)
  exact ⟨(World.cell?_of_block (a := ⟨r, 0, none⟩) e).trans h.c0, (World.cell?_of_block (a := ⟨r, 1, none⟩) e).trans h.c1, (World.frozen?_of_block (a := ⟨r, 0, none⟩) e).trans h.f0, (World.frozen?_of_block (a := ⟨r, 1, none⟩) e).trans h.f1⟩
theorem Bel_al {B : Nat} {w x : World} {o : Obj} (h : Below B w x) (hB : B ≤ w.heap.size) : Below B w (x.alloc o) := h.alloc (Nat.le_trans hB h.size) o
theorem Bel_st {B : Nat} {w x : World} {a : Addr} {v : Value} (h : Below B w x) (ha : B ≤ a.block) : Below B w (x.setCell a v) := h.setCell ha v
/-- What stands behind the first lines of begun. -/
structure Bg (w wc : World) (ga g2 g3 : Nat) (sa : Bool) (pa : Option Addr) (na : Nat) (xa : List Int) (s3 : Bool) (p3 : Option Addr) (n3 : Nat) (x3 : List Int) (s4 : Bool) (p4 : Option Addr) (n4 : Nat) (x4 : List Int) : Prop where
  ba : Bx wc ga (.bool sa) (.slice pa na na)
  b2 : Bx wc g2 (.bool s3) (.slice p3 n3 n3)
  b3 : Bx wc g3 (.bool s4) (.slice p4 n4 n4)
  ia : NI 0 wc sa pa na xa (-7)
  i2 : NI 0 wc s3 p3 n3 x3 (-4)
  i3 : NI 0 wc s4 p4 n4 x4 1
  la : na ≤ 2
  l2 : n3 ≤ 8
  l3 : n4 ≤ 8
  bel : Below w.heap.size w wc

theorem Bg.later {w wc w' : World} {ga g2 g3 : Nat} {sa : Bool} {pa : Option Addr} {na : Nat} {xa : List Int} {s3 : Bool} {p3 : Option Addr} {n3 : Nat} {x3 : List Int} {s4 : Bool} {p4 : Option Addr} {n4 : Nat} {x4 : List Int} (h : Bg w wc ga g2 g3 sa pa na xa s3 p3 n3 x3 s4 p4 n4 x4) (hb : Below wc.heap.size wc w') : Bg w w' ga g2 g3 sa pa na xa s3 p3 n3 x3 s4 p4 n4 x4 :=
  ⟨h.ba.later hb, h.b2.later hb, h.b3.later hb, h.ia.below hb, h.i2.below hb, h.i3.below hb, h.la, h.l2, h.l3, h.bel.trans (hb.mono h.bel.size)⟩
/-- Text of -7 and of 1. -/
theorem text7 {B : Nat} {w : World} {s : Bool} {p : Option Addr} {n : Nat} {xs : List Int} (h : NI B w s p n xs (-7)) (hn : n ≤ 2) : Calls Tryz.prog 63 #[.agg #[.bool s, .slice p n n]] w fun e w' => e = .returned (.string ⟨#[45, 55]⟩) ∧ Below w.heap.size w w' := by
  obtain ⟨rfl, hv⟩ := ival_neg h.u h.v (by decide)
  refine (Text_some true p n n xs w (h.hai (by omega)) (by omega) (by omega)).mono ?_
  rintro e w' ⟨N, D, h1, h2, h3, rfl, hb⟩
  rw [hv] at h1 h3
  rw [text_digit _ N D (by decide) (by decide) h1 h2 h3]
  exact ⟨rfl, hb⟩
theorem text1 {B : Nat} {w : World} {s : Bool} {p : Option Addr} {n : Nat} {xs : List Int} (h : NI B w s p n xs 1) (hn : n ≤ 8) : Calls Tryz.prog 63 #[.agg #[.bool s, .slice p n n]] w fun e w' => e = .returned (.string ⟨#[49]⟩) ∧ Below w.heap.size w w' := by
  obtain ⟨rfl, hv⟩ := ival_pos h.u h.v (by decide)
  refine (Text_some false p n n xs w (h.hai (by omega)) (by omega) (by omega)).mono ?_
  rintro e w' ⟨N, D, h1, h2, h3, rfl, hb⟩
  rw [hv] at h1 h3
  rw [text_digit _ N D (by decide) (by decide) h1 h2 h3]
  exact ⟨rfl, hb⟩
theorem bits7 {B : Nat} {w : World} {s : Bool} {p : Option Addr} {n : Nat} {xs : List Int} (h : NI B w s p n xs (-7)) (hn : n ≤ 2) : Calls Tryz.prog 50 #[.agg #[.bool s, .slice p n n]] w fun e w' => e = .returned (.int .i64 3) ∧ Below w.heap.size w w' := by
  obtain ⟨rfl, hv⟩ := ival_neg h.u h.v (by decide)
  have ht := tlen_small h.u (by omega) (by omega)
  have h7 : gx xs 0 = 7 := by
    have := tr_one h.u ht
    rw [← gx_tr, this, gx_zero, hv]; rfl
  refine (Bits_any true p n n xs w (h.hai (by omega))).mono ?_
  rintro e w' ⟨rfl, hb⟩
  refine ⟨ret_int ?_, hb⟩
  rw [nbits, ht, if_neg (by decide), show 1 - 1 = 0 from rfl, h7]
  decide

theorem cmp74 {B1 B2 : Nat} {w : World} {s s3 : Bool} {p p3 : Option Addr} {n n3 : Nat} {xs x3 : List Int} (h : NI B1 w s p n xs (-7)) (hn : n ≤ 2) (h3 : NI B2 w s3 p3 n3 x3 (-4)) (hn3 : n3 ≤ 8) :
    Calls Tryz.prog 48 #[.agg #[.bool s, .slice p n n], .agg #[.bool s3, .slice p3 n3 n3]] w fun e w' => e = .returned (.int .i64 (-1)) ∧ Below w.heap.size w w' := by
  have hcm := Cmp_any s s3 p p3 n n n3 n3 xs x3 w (h.hai (by omega)) (h3.hai (by omega))
  rw [h.v, h3.v, icmp_lt (show (-7 : Int) < -4 by decide)] at hcm
  exact hcm
theorem sign7 {B : Nat} {w : World} {s : Bool} {p : Option Addr} {n : Nat} {xs : List Int} (h : NI B w s p n xs (-7)) (hn : n ≤ 2) :
    Calls Tryz.prog 54 #[.agg #[.bool s, .slice p n n]] w fun e w' => e = .returned (.int .i64 (-1)) ∧ Below w.heap.size w w' := by
  have hsg := Sign_any s p n n xs w (h.hai (by omega))
  rw [h.v, show isgn (-7) = -1 from rfl] at hsg
  exact hsg

end Go.Proofs.YtongkalfdgleaaaGreatDoor
/-
  ashlarref1.Eq, where both are the same.
-/
namespace Go.Proofs.YtongkalfdgleaaaGreatDoor
open Go.RowKit
set_option linter.unusedVariables false
set_option linter.unusedSimpArgs false

set_option maxHeartbeats 1000000 in
/-- ashlarref1.Eq: the same. -/
theorem rEq_same (s : Bool) (p q : Option Addr) (n nc mc : Nat) (xs : List Int) (w : World) (hA : AI w p n nc xs) (hB : AI w q n mc xs) :
    Calls Tryz.prog 61 #[.agg #[.bool s, .slice p n nc], .agg #[.bool s, .slice q n mc]] w fun e w' => e = .returned (.bool true) ∧ Below w.heap.size w w' := by
  have hl := hA.len
  have hsm := hA.sml
  have hss : (s != s) = false := by cases s <;> rfl
  have hnn : ((n : Int) != (n : Int)) = false := by simp
  go_enter Tryz.func61, Tryz.ntmps61
  go_wp2
  have hX := boxes2 w (.bool s) (.slice p n nc) (.bool s) (.slice q n mc) 24 24
  generalize ((w.alloc (Obj.cells #[Value.bool s, Value.slice p n nc] 24)).alloc (Obj.cells #[Value.bool s, Value.slice q n mc] 24)) = W at *
  go_loopw [5] (fun iv wr => ∃ k : Nat, k ≤ n ∧ iv = .int .i64 k ∧ Hid (Below W.heap.size W wr)) (fun iv _ => n - (intOf iv).toNat)
  case atStart => exact ⟨0, Nat.zero_le _, rfl, Below.refl _ _⟩
  case round =>
    obtain ⟨k, hk, rfl, H⟩ := hrel
    have hXr := hX.later H.out
    have k1 := hXr.ca1
    have k3 := hXr.cb1
    by_cases hlt : k < n
    · have hltI : (k : Int) < (n : Int) := by omega
      obtain ⟨b1, o1, rfl, hc1⟩ := ((hA.below hX.below).rd.below H.out) (by omega)
      obtain ⟨b2, o2, rfl, hc2⟩ := ((hB.below hX.below).rd.below H.out) (by omega)
      have g1 := hc1 k (by omega)
      have g2 := hc2 k (by omega)
      have hq : (gx xs k != gx xs k) = false := by simp
      clear hc1 hc2 hXr
      go_wp2
      go_quiet (fail)
      go_wp2
      refine ⟨⟨k + 1, by omega, by go_num, below_drewN H.out nq⟩, by simp [intOf]; omega⟩
    · have hltI : ¬ (k : Int) < (n : Int) := by omega
      go_wp2
      go_ret
      exact ⟨rfl, hX.below.trans (H.out.mono hX.below.size)⟩

/-- ashlarref1.Eq of two answers with the same number. -/
theorem rEq_ni {B1 B2 : Nat} {w : World} {s t : Bool} {p q : Option Addr} {n m : Nat} {xs ys : List Int} {z : Int} (h : NI B1 w s p n xs z) (k : NI B2 w t q m ys z) (hn : n ≤ 1000) :
    Calls Tryz.prog 61 #[.agg #[.bool s, .slice p n n], .agg #[.bool t, .slice q m m]] w fun e w' => e = .returned (.bool true) ∧ Below w.heap.size w w' := by
  obtain ⟨rfl, rfl⟩ := nn_same h.nn k.nn
  obtain rfl : n = m := h.len.symm.trans k.len
  exact rEq_same s p q n n n xs w (h.ai (by omega)) (k.ai (by omega))
end Go.Proofs.YtongkalfdgleaaaGreatDoor
/-
  What the walks of the laws share: numbers and boxes carried on.
-/
namespace Go.Proofs.YtongkalfdgleaaaGreatDoor
open Go.RowKit
set_option linter.unusedVariables false
set_option linter.unusedSimpArgs false

theorem AI.setF {w : World} {p : Option Addr} {n nc F : Nat} {xs : List Int} (h : AI w p n nc xs) (hF : Go.Proofs.YtongkalfdgleaaaGreatDoor.From F p) {a : Addr} (ha : a.block < F) (v : Value) : AI (w.setCell a v) p n nc xs :=
  ⟨h.len, h.cap, h.bnd, h.sml, h.rd.set_other a v (fun b hb e => by have := hF b hb; omega), h.u⟩
theorem AI.set2 {w : World} {p : Option Addr} {n nc F : Nat} {xs : List Int} (h : AI w p n nc xs) (hF : Go.Proofs.YtongkalfdgleaaaGreatDoor.From F p) {g : Nat} (hg : g < F) (u v : Value) : AI ((w.setCell ⟨g, 0, none⟩ u).setCell ⟨g, 1, none⟩ v) p n nc xs :=
  (h.setF hF (a := ⟨g, 0, none⟩) hg u).setF hF (a := ⟨g, 1, none⟩) hg v
theorem From.mono {B F : Nat} {p : Option Addr} (h : Go.Proofs.YtongkalfdgleaaaGreatDoor.From F p) (hB : B ≤ F) : Go.Proofs.YtongkalfdgleaaaGreatDoor.From B p := fun a ha => Nat.le_trans hB (h a ha)
/-- One call more. -/
theorem bnext {B : Nat} {a b c : World} (h : Below B a b) (hB : B ≤ a.heap.size) (k : Below b.heap.size b c) : Below B a c := h.trans (k.mono (Nat.le_trans hB h.size))
theorem bnext' {a b c : World} (h : Below a.heap.size a b) (k : Below b.heap.size b c) : Below a.heap.size a c := bnext h (Nat.le_refl _) k
theorem bset2 {B g : Nat} {a b : World} (h : Below B a b) (hg : B ≤ g) (u v : Value) : Below B a ((b.setCell ⟨g, 0, none⟩ u).setCell ⟨g, 1, none⟩ v) := (h.setCell (p := ⟨g, 0, none⟩) hg u).setCell (p := ⟨g, 1, none⟩) hg v
theorem keepc6 {w1 w2 : World} {a b c d e f : Addr} {u v x y z t : Value} (h : w1.cell? a = some u ∧ w1.cell? b = some v ∧ w1.cell? c = some x ∧ w1.cell? d = some y ∧ w1.cell? e = some z ∧ w1.cell? f = some t) (hb : Below w1.heap.size w1 w2) :
    w2.cell? a = some u ∧ w2.cell? b = some v ∧ w2.cell? c = some x ∧ w2.cell? d = some y ∧ w2.cell? e = some z ∧ w2.cell? f = some t :=
  ⟨cell_later hb h.1, cell_later hb h.2.1, cell_later hb h.2.2.1, cell_later hb h.2.2.2.1, cell_later hb h.2.2.2.2.1, cell_later hb h.2.2.2.2.2⟩
/-- A number in a variable of its own: the variable's block, its sign, its limbs, from block F on. -/
structure Vr (w : World) (g : Nat) (s : Bool) (p : Option Addr) (n nc F : Nat) (xs : List Int) : Prop where
  b : Bx w g (.bool s) (.slice p n nc)
  a : AI w p n nc xs
  f : Go.Proofs.YtongkalfdgleaaaGreatDoor.From F p
theorem Vr.later {w w' : World} {g : Nat} {s : Bool} {p : Option Addr} {n nc F : Nat} {xs : List Int} (h : Vr w g s p n nc F xs) (hb : Below w.heap.size w w') : Vr w' g s p n nc F xs := ⟨h.b.later hb, h.a.below hb, h.f⟩
end Go.Proofs.YtongkalfdgleaaaGreatDoor
