/-
  ashlarref1.Is.
-/
import Derived.Test.YtongkalfdgleaaaGreatDoorRbRf
import Derived.Test.YtongkalfdgleaaaGreatDoorZfCyCz
import Derived.Test.YtongkalfdgleaaaGreatDoorRmYd
import Derived.Test.YtongkalfdgleaaaGreatDoorLjOi
namespace Go.Proofs.YtongkalfdgleaaaGreatDoor
open Go.RowKit
set_option linter.unusedVariables false
set_option linter.unusedSimpArgs false

set_option maxRecDepth 100000 in
set_option maxHeartbeats 1000000 in
/-- ashlarref1.Is: an answer is this number. -/
theorem rIs_any {B : Nat} {w : World} {s t : Bool} {p q : Option Addr} {n m mc : Nat} {xs ds : List Int} {z : Int} (h : NI B w s p n xs z) (hn : n ≤ 1000) (hl : ds.length = m) (hm : m ≤ 1000) (hX : Rd w q .i64 ds) (hU : U16 ds) (hnr : tlen ds = m) (hs : m = 0 → t = false) (hv : rval t ds = z) :
    Calls Tryz.prog 32 #[.agg #[.bool s, .slice p n n], .agg #[.bool t, .slice q m mc]] w fun e w' => e = .returned (.bool true) ∧ Below w.heap.size w w' := by
  go_enter Tryz.func32, Tryz.ntmps32
  go_wp2_with fail
  have hX2 := boxes2 w (.bool s) (.slice p n n) (.bool t) (.slice q m mc) 24 31
  generalize ((w.alloc (Obj.cells #[Value.bool s, Value.slice p n n] 24)).alloc (Obj.cells #[Value.bool t, Value.slice q m mc] 31)) = W at *
  have k0 := hX2.ca0
  have k1 := hX2.ca1
  have k2 := hX2.cb0
  have k3 := hX2.cb1
  go_region_held3 (fun w' => w'.cell? ⟨w.heap.size, 0, none⟩ = some (.bool s) ∧ w'.cell? ⟨w.heap.size, 1, none⟩ = some (.slice p n n) ∧ w'.cell? ⟨w.heap.size + 1, 0, none⟩ = some (.bool t) ∧ w'.cell? ⟨w.heap.size + 1, 1, none⟩ = some (.slice q m mc)) (first | exact ⟨by assumption, by assumption, by assumption, by assumption⟩ | exact keepc4 (by assumption) (by assumption))
    (first
      | (go_at_call 62; refine (rTo_any t q m mc ds _ hl hm (hX.below hX2.below).drew hU).mono ?_; rintro e w1 ⟨p', m', cap, rfl, hA1, hm', hb1⟩)
      | (go_at_call 61; have h1 := h.below (bnext' hX2.below (undrew hb1)); have h2 : NN t (jn ds m') z := nn_jn hU (by omega) (fun e => hs (by omega)) hv (by have := hm'.out; omega); refine (rEq_nn h1 hA1 h2 hn).mono ?_; rintro e w2 ⟨rfl, hb2⟩))
  go_wp2
  go_ret
  exact ⟨rfl, bnext' (bnext' hX2.below (undrew hb1)) hb2⟩
end Go.Proofs.YtongkalfdgleaaaGreatDoor
/-
  ashlarref1.Is of what is known.
-/
namespace Go.Proofs.YtongkalfdgleaaaGreatDoor
open Go.RowKit
set_option linter.unusedVariables false
set_option linter.unusedSimpArgs false

/-- ashlarref1.Is of what is known. -/
theorem rIs_rn {B : Nat} {w : World} {s t : Bool} {p q : Option Addr} {n m : Nat} {xs ds : List Int} {z : Int} (h : NI B w s p n xs z) (hn : n ≤ 1000) (k : RN w t q m ds) (hm : m ≤ 1000) (hv : rval t ds = z) :
    Calls Tryz.prog 32 #[.agg #[.bool s, .slice p n n], .agg #[.bool t, .slice q m m]] w fun e w' => e = .returned (.bool true) ∧ Below w.heap.size w w' :=
  rIs_any h hn k.len hm k.rd k.u k.nrm k.sg hv
end Go.Proofs.YtongkalfdgleaaaGreatDoor
/-
  ashlarref2.From, Is.
-/
namespace Go.Proofs.YtongkalfdgleaaaGreatDoor
open Go.RowKit
set_option linter.unusedVariables false
set_option linter.unusedSimpArgs false

theorem rFrom_v {w : World} {K : Nat} {s : Bool} {p : Option Addr} {n nc : Nat} {xs : List Int} (h : AI w p n nc xs) (hn : n ≤ K) :
    Calls Tryz.prog 29 #[.agg #[.bool s, .slice p n nc]] w (RVP (2 * K) (ival s xs) w) := by
  refine (From_ansF s p n nc xs w h).mono ?_
  rintro e w' ⟨s', p', n', ds', g1, g2, g3, g4, g5, g6⟩
  exact ⟨s', p', n', g1, ⟨ds', g2, g3, by omega⟩, g5, g6⟩
theorem rIs_v {B N : Nat} {w : World} {s t : Bool} {p q : Option Addr} {n m : Nat} {xs : List Int} {z : Int} (h : NI B w s p n xs z) (hn : n ≤ 1000) (k : RV w N z t q m) (hm : N ≤ 1000) :
    Calls Tryz.prog 32 #[.agg #[.bool s, .slice p n n], .agg #[.bool t, .slice q m m]] w fun e w' => e = .returned (.bool true) ∧ Below w.heap.size w w' := by
  obtain ⟨es, k1, k2, k3⟩ := k
  exact rIs_rn h hn k1 (by omega) k2
set_option maxRecDepth 100000 in
set_option maxHeartbeats 4000000 in
/-- ashlarref2.From. -/
theorem rFrom_q {w : World} {K : Nat} {s t : Bool} {p q : Option Addr} {n nc m mc : Nat} {r : Rat} (h : AQ w K s p n nc t q m mc r) (hK : 1 ≤ K) (hK' : K ≤ 400) :
    Calls Tryz.prog 8 #[.agg #[.bool s, .slice p n nc, .bool t, .slice q m mc]] w (MP r K w) := by
  have hs : Hid (Sz r K) := h.sz hK
  obtain ⟨xs, ys, h1, h2, h3, h4, hr⟩ := h
  have hval : Hid (Rat.divInt (ival s xs) (ival t ys) = r) := hr
  clear hr
  go_enter Tryz.func8, Tryz.ntmps8
  go_wp2_with fail
  have hA0 : Bq ((w.alloc (.cells #[.bool s, .slice p n nc, .bool t, .slice q m mc] 26)).alloc (.cells #[.bool false, .slice none 0 0, .bool false, .slice none 0 0] 33)) w.heap.size (.bool s) (.slice p n nc) (.bool t) (.slice q m mc) := (Bq.new _ _ _ _ _ rfl).alloc _
  have hR0 : Bq ((w.alloc (.cells #[.bool s, .slice p n nc, .bool t, .slice q m mc] 26)).alloc (.cells #[.bool false, .slice none 0 0, .bool false, .slice none 0 0] 33)) (w.heap.size + 1) (.bool false) (.slice none 0 0) (.bool false) (.slice none 0 0) := Bq.new _ _ _ _ _ (by simp)
  have hW : Below w.heap.size w ((w.alloc (.cells #[.bool s, .slice p n nc, .bool t, .slice q m mc] 26)).alloc (.cells #[.bool false, .slice none 0 0, .bool false, .slice none 0 0] 33)) := ((Below.refl _ _).alloc (Nat.le_refl _) _).alloc (by simp) _
  generalize (w.alloc (.cells #[.bool s, .slice p n nc, .bool t, .slice q m mc] 26)).alloc (.cells #[.bool false, .slice none 0 0, .bool false, .slice none 0 0] 33) = W at *
  have k1 := h1.below hW
  have k2 := h2.below hW
  have nA : Hid (w.heap.size ≠ w.heap.size + 1) := (by omega : w.heap.size ≠ w.heap.size + 1)
  obtain ⟨a0, a1, a2, a3, -, -, -, -⟩ := hA0
  go_region_held3 (fun w' => w'.cell? ⟨w.heap.size, 0, none⟩ = some (.bool s) ∧ w'.cell? ⟨w.heap.size, 1, none⟩ = some (.slice p n nc) ∧ w'.cell? ⟨w.heap.size, 2, none⟩ = some (.bool t) ∧ w'.cell? ⟨w.heap.size, 3, none⟩ = some (.slice q m mc)) (first | with_reducible exact ⟨a0, a1, a2, a3⟩ | with_reducible exact keepc4 ⟨a0, a1, a2, a3⟩ hV1 | with_reducible exact keepc4 ⟨a0, a1, a2, a3⟩ hV2 | with_reducible exact keepc4 ⟨a0, a1, a2, a3⟩ hV3 | with_reducible exact keep4s ⟨a0, a1, a2, a3⟩ hV3 nA | (simp [go_sem, *]; done))
    (first
      | (go_at_call_of 29 (Value.agg #[.bool s, .slice p n nc]); refine (rFrom_v (K := K) k1.drew h3).mono ?_; rintro e v1 ⟨s1, p1, n1, rfl, hr1, hF1, hv1⟩; have hV1 := undrew hv1)
      | (go_at_call_of 29 (Value.agg #[.bool t, .slice q m mc]); refine (rFrom_v (K := K) (k2.below hV1) h4).mono ?_; rintro e v2 ⟨s2, p2, n2, rfl, hr2, hF2, hv2⟩; have hV2 := bnext' hV1 hv2)
      | (go_at_call 27; refine (Make_v (K := K) (hr1.below hv2) hr2 (by omega) (by omega) (by rw [hval.out]; exact hs.out)).mono ?_; rintro e v3 ⟨s3, p3, n3, t3, q3, m3, rfl, hm, hF3, hF3', hv3⟩; have hV3 := bnext' hV2 hv3; rw [hval.out] at hm; obtain ⟨r0, r1, r2, r3, f0, f1, f2, f3⟩ := hR0.later hV3))
  clear a0 a1 a2 a3
  go_wp2
  refine bodyPost_ret (v := .agg #[.bool s3, .slice p3 n3 n3, .bool t3, .slice q3 m3 m3]) (by simp [results, Tryz.results8, go_sem, r0, r1, r2, r3]) rfl ?_
  have sV := hV2.size
  exact end_mp hW (by omega) hR0.lt hV3 hm (fun a ha => Nat.le_trans sV (hF3 a ha)) (fun a ha => Nat.le_trans sV (hF3' a ha))
set_option maxRecDepth 100000 in
set_option maxHeartbeats 4000000 in
/-- ashlarref2.Is of an answer that is right. -/
theorem rIs_q {B : Nat} {w : World} {K L : Nat} {s t s' t' : Bool} {p q p' q' : Option Addr} {n m n' m' : Nat} {r : Rat} (h : NQ B w K s p n t q m r) (k : MQ w L s' p' n' t' q' m' r) (hK : K ≤ 1000) (hL : L ≤ 400) :
    Calls Tryz.prog 9 #[.agg #[.bool s, .slice p n n, .bool t, .slice q m m], .agg #[.bool s', .slice p' n' n', .bool t', .slice q' m' m']] w fun e w' => e = .returned (.bool true) ∧ Below w.heap.size w w' := by
  obtain ⟨xs, ys, h1, h2, h3⟩ := h
  go_enter Tryz.func9, Tryz.ntmps9
  go_wp2_with fail
  have hA0 : Bq ((w.alloc (.cells #[.bool s, .slice p n n, .bool t, .slice q m m] 26)).alloc (.cells #[.bool s', .slice p' n' n', .bool t', .slice q' m' m'] 33)) w.heap.size (.bool s) (.slice p n n) (.bool t) (.slice q m m) := (Bq.new _ _ _ _ _ rfl).alloc _
  have hR0 : Bq ((w.alloc (.cells #[.bool s, .slice p n n, .bool t, .slice q m m] 26)).alloc (.cells #[.bool s', .slice p' n' n', .bool t', .slice q' m' m'] 33)) (w.heap.size + 1) (.bool s') (.slice p' n' n') (.bool t') (.slice q' m' m') := Bq.new _ _ _ _ _ (by simp)
  have hW : Below w.heap.size w ((w.alloc (.cells #[.bool s, .slice p n n, .bool t, .slice q m m] 26)).alloc (.cells #[.bool s', .slice p' n' n', .bool t', .slice q' m' m'] 33)) := ((Below.refl _ _).alloc (Nat.le_refl _) _).alloc (by simp) _
  generalize (w.alloc (.cells #[.bool s, .slice p n n, .bool t, .slice q m m] 26)).alloc (.cells #[.bool s', .slice p' n' n', .bool t', .slice q' m' m'] 33) = W at *
  have k1 := h1.below hW
  have k2 := k.below hW
  refine (rIs_v k1.num (by omega) k2.num (by omega)).mono ?_
  rintro e w1 ⟨rfl, hb1⟩
  have hA1 := hA0.later hb1
  have hR1 := hR0.later hb1
  have a2 := hA1.c2
  have a3 := hA1.c3
  have r2 := hR1.c2
  have r3 := hR1.c3
  go_wp2_with fail
  refine (rIs_v (k1.below hb1).den (by omega) (k2.below hb1).den (by omega)).mono ?_
  rintro e w2 ⟨rfl, hb2⟩
  clear a2 a3 r2 r3
  go_wp2
  go_ret
  exact ⟨rfl, bnext' hW (bnext' hb1 hb2)⟩
end Go.Proofs.YtongkalfdgleaaaGreatDoor
/-
  What holds behind each part of a region 'x, y := From(a), From(b)' of two rationals, in whatever order its operations come up.
-/
namespace Go.Proofs.YtongkalfdgleaaaGreatDoor
open Go.RowKit
set_option linter.unusedVariables false
set_option linter.unusedSimpArgs false

/-- What a reference rational is made of. -/
structure QW where
  s : Bool
  p : Option Addr
  n : Nat
  t : Bool
  q : Option Addr
  m : Nat
abbrev QW.v (x : QW) : Value := .agg #[.bool x.s, .slice x.p x.n x.n, .bool x.t, .slice x.q x.m x.m]
/-- One rational is answered. -/
def RRq (B : Nat) (w : World) (V : Rat) (r : Value) (x : QW) : Prop :=
  r = .agg #[.bool x.s, .slice x.p x.n x.n, .bool x.t, .slice x.q x.m x.m] ∧ MQ w 24 x.s x.p x.n x.t x.q x.m V ∧ Go.Proofs.YtongkalfdgleaaaGreatDoor.From B x.p ∧ Go.Proofs.YtongkalfdgleaaaGreatDoor.From B x.q
theorem RRq.later {B : Nat} {w w' : World} {V : Rat} {r : Value} {x : QW} (h : RRq B w V r x) (hb : Below w.heap.size w w') : RRq B w' V r x := ⟨h.1, h.2.1.below hb, h.2.2⟩
/-- Neither part lies in a block. -/
def Of2 (x : QW) (g : Nat) : Prop := (0 < x.n → Off g x.p) ∧ (0 < x.m → Off g x.q)
theorem RRq.store {B : Nat} {w : World} {V : Rat} {r : Value} {x : QW} (h : RRq B w V r x) {g : Nat} (hg : Of2 x g) (u0 u1 u2 u3 : Value) : RRq B ((((w.setCell ⟨g, 0, none⟩ u0).setCell ⟨g, 1, none⟩ u1).setCell ⟨g, 2, none⟩ u2).setCell ⟨g, 3, none⟩ u3) V r x :=
  ⟨h.1, ⟨h.2.1.num.set4 hg.1 _ _ _ _, h.2.1.den.set4 hg.2 _ _ _ _⟩, h.2.2⟩
/-- A variable of four cells is there. -/
def XR (B : Nat) (w : World) (x : Value) (g : Nat) (done : Bool) (r : Value) : Prop :=
  x = .pointer (some ⟨g, 0, none⟩) ∧ B ≤ g ∧ ∃ u0 u1 u2 u3, Bq w g u0 u1 u2 u3 ∧ (done = true → r = .agg #[u0, u1, u2, u3])
section
variable {B : Nat} {w w' : World} {x : Value} {g k : Nat} {done : Bool} {r r' : Value}
theorem XR.later (h : XR B w x g done r) (hb : Below w.heap.size w w') : XR B w' x g done r := by
  obtain ⟨h1, h2, u0, u1, u2, u3, h3, h4⟩ := h
  exact ⟨h1, h2, u0, u1, u2, u3, h3.later hb, h4⟩
theorem XR.lt (h : XR B w x g done r) : g < w.heap.size := by
  obtain ⟨h1, h2, u0, u1, u2, u3, h3, h4⟩ := h
  exact h3.lt
theorem XR.res (h : XR B w x g done r) (hd : ¬ done = true) : XR B w x g done r' := by
  obtain ⟨h1, h2, u0, u1, u2, u3, h3, h4⟩ := h
  exact ⟨h1, h2, u0, u1, u2, u3, h3, fun e => absurd e hd⟩
theorem XR.other (h : XR B w x g done r) (hk : g ≠ k) (u0 u1 u2 u3 : Value) : XR B ((((w.setCell ⟨k, 0, none⟩ u0).setCell ⟨k, 1, none⟩ u1).setCell ⟨k, 2, none⟩ u2).setCell ⟨k, 3, none⟩ u3) x g done r := by
  obtain ⟨h1, h2, v0, v1, v2, v3, h3, h4⟩ := h
  exact ⟨h1, h2, v0, v1, v2, v3, Bq_oth h3 hk, h4⟩
theorem XR.own (h : XR B w x g done r) (u0 u1 u2 u3 : Value) : XR B ((((w.setCell ⟨g, 0, none⟩ u0).setCell ⟨g, 1, none⟩ u1).setCell ⟨g, 2, none⟩ u2).setCell ⟨g, 3, none⟩ u3) x g true (.agg #[u0, u1, u2, u3]) := by
  obtain ⟨h1, h2, v0, v1, v2, v3, h3, h4⟩ := h
  exact ⟨h1, h2, u0, u1, u2, u3, Bq_set h3, fun _ => rfl⟩
end
/-- Behind each part of the region. -/
structure G2q (wc w : World) (V1 V2 : Rat) (c1 c2 a1 a2 s1 s2 : Bool) (r1 r2 x1 x2 : Value) (y1 y2 : QW) (g1 g2 : Nat) : Prop where
  bel : Below wc.heap.size wc w
  R1 : c1 = true → RRq wc.heap.size w V1 r1 y1
  R2 : c2 = true → RRq wc.heap.size w V2 r2 y2
  X1 : a1 = true → XR wc.heap.size w x1 g1 s1 r1
  X2 : a2 = true → XR wc.heap.size w x2 g2 s2 r2
  d11 : c1 = true → a1 = true → Of2 y1 g1
  d12 : c1 = true → a2 = true → Of2 y1 g2
  d21 : c2 = true → a1 = true → Of2 y2 g1
  d22 : c2 = true → a2 = true → Of2 y2 g2
  e12 : a1 = true → a2 = true → g1 ≠ g2
  o1 : s1 = true → c1 = true
  o2 : s2 = true → c2 = true
  q1 : s1 = true → a1 = true
  q2 : s2 = true → a2 = true
theorem G2q.call1 {wc w w1 : World} {V1 V2 : Rat} {c1 c2 a1 a2 s1 s2 : Bool} {r1 r2 x1 x2 : Value} {y1 y2 : QW} {g1 g2 : Nat} (h : G2q wc w V1 V2 c1 c2 a1 a2 s1 s2 r1 r2 x1 x2 y1 y2 g1 g2) (hc : ¬ c1 = true) {y : QW} (hb : Below w.heap.size w w1) (hr : MQ w1 24 y.s y.p y.n y.t y.q y.m V1) (hf : Go.Proofs.YtongkalfdgleaaaGreatDoor.From w.heap.size y.p) (hf' : Go.Proofs.YtongkalfdgleaaaGreatDoor.From w.heap.size y.q) :
    G2q wc w1 V1 V2 (true) c2 a1 a2 s1 s2 (y.v) r2 x1 x2 (y) y2 g1 g2 :=
  ⟨h.bel.trans (hb.mono h.bel.size), fun _ => ⟨rfl, hr, fun a ha => Nat.le_trans h.bel.size (hf a ha), fun a ha => Nat.le_trans h.bel.size (hf' a ha)⟩, fun k => (h.R2 k).later hb, fun k => ((h.X1 k).later hb).res (fun e => hc (h.o1 e)), fun k => (h.X2 k).later hb, fun _ k => ⟨fun _ => off_from hf (h.X1 k).lt, fun _ => off_from hf' (h.X1 k).lt⟩, fun _ k => ⟨fun _ => off_from hf (h.X2 k).lt, fun _ => off_from hf' (h.X2 k).lt⟩, h.d21, h.d22, h.e12, fun _ => rfl, h.o2, h.q1, h.q2⟩
theorem G2q.call2 {wc w w1 : World} {V1 V2 : Rat} {c1 c2 a1 a2 s1 s2 : Bool} {r1 r2 x1 x2 : Value} {y1 y2 : QW} {g1 g2 : Nat} (h : G2q wc w V1 V2 c1 c2 a1 a2 s1 s2 r1 r2 x1 x2 y1 y2 g1 g2) (hc : ¬ c2 = true) {y : QW} (hb : Below w.heap.size w w1) (hr : MQ w1 24 y.s y.p y.n y.t y.q y.m V2) (hf : Go.Proofs.YtongkalfdgleaaaGreatDoor.From w.heap.size y.p) (hf' : Go.Proofs.YtongkalfdgleaaaGreatDoor.From w.heap.size y.q) :
    G2q wc w1 V1 V2 c1 (true) a1 a2 s1 s2 r1 (y.v) x1 x2 y1 (y) g1 g2 :=
  ⟨h.bel.trans (hb.mono h.bel.size), fun k => (h.R1 k).later hb, fun _ => ⟨rfl, hr, fun a ha => Nat.le_trans h.bel.size (hf a ha), fun a ha => Nat.le_trans h.bel.size (hf' a ha)⟩, fun k => (h.X1 k).later hb, fun k => ((h.X2 k).later hb).res (fun e => hc (h.o2 e)), h.d11, h.d12, fun _ k => ⟨fun _ => off_from hf (h.X1 k).lt, fun _ => off_from hf' (h.X1 k).lt⟩, fun _ k => ⟨fun _ => off_from hf (h.X2 k).lt, fun _ => off_from hf' (h.X2 k).lt⟩, h.e12, h.o1, fun _ => rfl, h.q1, h.q2⟩
theorem G2q.alloc1 {wc w : World} {V1 V2 : Rat} {c1 c2 a1 a2 s1 s2 : Bool} {r1 r2 x1 x2 : Value} {y1 y2 : QW} {g1 g2 : Nat} (h : G2q wc w V1 V2 c1 c2 a1 a2 s1 s2 r1 r2 x1 x2 y1 y2 g1 g2) (hs : ¬ a1 = true) (u0 u1 u2 u3 : Value) (ty : Nat) :
    G2q wc (w.alloc (.cells #[u0, u1, u2, u3] ty)) V1 V2 c1 c2 (true) a2 s1 s2 r1 r2 (.pointer (some ⟨w.heap.size, 0, none⟩)) x2 y1 y2 (w.heap.size) g2 :=
  ⟨h.bel.alloc h.bel.size _, fun k => (h.R1 k).later (bel_al (Below.refl _ _)), fun k => (h.R2 k).later (bel_al (Below.refl _ _)), fun _ => ⟨rfl, h.bel.size, u0, u1, u2, u3, Bq.new _ _ _ _ _ rfl, fun e => absurd (h.q1 e) hs⟩, fun k => (h.X2 k).later (bel_al (Below.refl _ _)), fun k _ => ⟨(h.R1 k).2.1.num.off (Nat.le_refl _), (h.R1 k).2.1.den.off (Nat.le_refl _)⟩, h.d12, fun k _ => ⟨(h.R2 k).2.1.num.off (Nat.le_refl _), (h.R2 k).2.1.den.off (Nat.le_refl _)⟩, h.d22, fun _ k => Ne.symm (Nat.ne_of_lt (h.X2 k).lt), h.o1, h.o2, fun _ => rfl, h.q2⟩
theorem G2q.alloc2 {wc w : World} {V1 V2 : Rat} {c1 c2 a1 a2 s1 s2 : Bool} {r1 r2 x1 x2 : Value} {y1 y2 : QW} {g1 g2 : Nat} (h : G2q wc w V1 V2 c1 c2 a1 a2 s1 s2 r1 r2 x1 x2 y1 y2 g1 g2) (hs : ¬ a2 = true) (u0 u1 u2 u3 : Value) (ty : Nat) :
    G2q wc (w.alloc (.cells #[u0, u1, u2, u3] ty)) V1 V2 c1 c2 a1 (true) s1 s2 r1 r2 x1 (.pointer (some ⟨w.heap.size, 0, none⟩)) y1 y2 g1 (w.heap.size) :=
  ⟨h.bel.alloc h.bel.size _, fun k => (h.R1 k).later (bel_al (Below.refl _ _)), fun k => (h.R2 k).later (bel_al (Below.refl _ _)), fun k => (h.X1 k).later (bel_al (Below.refl _ _)), fun _ => ⟨rfl, h.bel.size, u0, u1, u2, u3, Bq.new _ _ _ _ _ rfl, fun e => absurd (h.q2 e) hs⟩, h.d11, fun k _ => ⟨(h.R1 k).2.1.num.off (Nat.le_refl _), (h.R1 k).2.1.den.off (Nat.le_refl _)⟩, h.d21, fun k _ => ⟨(h.R2 k).2.1.num.off (Nat.le_refl _), (h.R2 k).2.1.den.off (Nat.le_refl _)⟩, fun k _ => Nat.ne_of_lt (h.X1 k).lt, h.o1, h.o2, h.q1, fun _ => rfl⟩
theorem G2q.store1 {wc w : World} {V1 V2 : Rat} {c1 c2 a1 a2 s1 s2 : Bool} {r1 r2 x1 x2 : Value} {y1 y2 : QW} {g1 g2 : Nat} (h : G2q wc w V1 V2 c1 c2 a1 a2 s1 s2 r1 r2 x1 x2 y1 y2 g1 g2) (ha : a1 = true) (hc : c1 = true) :
    G2q wc ((((w.setCell ⟨g1, 0, none⟩ (.bool y1.s)).setCell ⟨g1, 1, none⟩ (.slice y1.p y1.n y1.n)).setCell ⟨g1, 2, none⟩ (.bool y1.t)).setCell ⟨g1, 3, none⟩ (.slice y1.q y1.m y1.m)) V1 V2 c1 c2 a1 a2 (true) s2 r1 r2 x1 x2 y1 y2 g1 g2 :=
  ⟨bset4 h.bel (h.X1 ha).2.1 _ _ _ _, fun k => (h.R1 k).store (h.d11 k ha) _ _ _ _, fun k => (h.R2 k).store (h.d21 k ha) _ _ _ _, fun k => by have h1 := (h.X1 k).own (.bool y1.s) (.slice y1.p y1.n y1.n) (.bool y1.t) (.slice y1.q y1.m y1.m); rw [(h.R1 hc).1]; exact h1, fun k => (h.X2 k).other (Ne.symm (h.e12 ha k)) _ _ _ _, h.d11, h.d12, h.d21, h.d22, h.e12, fun _ => hc, h.o2, fun _ => ha, h.q2⟩
theorem G2q.store2 {wc w : World} {V1 V2 : Rat} {c1 c2 a1 a2 s1 s2 : Bool} {r1 r2 x1 x2 : Value} {y1 y2 : QW} {g1 g2 : Nat} (h : G2q wc w V1 V2 c1 c2 a1 a2 s1 s2 r1 r2 x1 x2 y1 y2 g1 g2) (ha : a2 = true) (hc : c2 = true) :
    G2q wc ((((w.setCell ⟨g2, 0, none⟩ (.bool y2.s)).setCell ⟨g2, 1, none⟩ (.slice y2.p y2.n y2.n)).setCell ⟨g2, 2, none⟩ (.bool y2.t)).setCell ⟨g2, 3, none⟩ (.slice y2.q y2.m y2.m)) V1 V2 c1 c2 a1 a2 s1 (true) r1 r2 x1 x2 y1 y2 g1 g2 :=
  ⟨bset4 h.bel (h.X2 ha).2.1 _ _ _ _, fun k => (h.R1 k).store (h.d12 k ha) _ _ _ _, fun k => (h.R2 k).store (h.d22 k ha) _ _ _ _, fun k => (h.X1 k).other (h.e12 k ha) _ _ _ _, fun k => by have h1 := (h.X2 k).own (.bool y2.s) (.slice y2.p y2.n y2.n) (.bool y2.t) (.slice y2.q y2.m y2.m); rw [(h.R2 hc).1]; exact h1, h.d11, h.d12, h.d21, h.d22, h.e12, h.o1, fun _ => hc, h.q1, fun _ => ha⟩
/-- A reference rational in a variable of its own. -/
structure Mx (w : World) (g K : Nat) (x : QW) (r : Rat) : Prop where
  b : Bq w g (.bool x.s) (.slice x.p x.n x.n) (.bool x.t) (.slice x.q x.m x.m)
  m : MQ w K x.s x.p x.n x.t x.q x.m r
theorem Mx.later {w w' : World} {g K : Nat} {x : QW} {r : Rat} (h : Mx w g K x r) (hb : Below w.heap.size w w') : Mx w' g K x r := ⟨h.b.later hb, h.m.below hb⟩
theorem XR.mx {B : Nat} {w : World} {x : Value} {g : Nat} {y : QW} {r : Rat} (h : XR B w x g true y.v) (k : RRq B w r y.v y) : Mx w g 24 y r := by
  obtain ⟨-, -, u0, u1, u2, u3, h3, h4⟩ := h
  have h5 := h4 rfl
  simp only [QW.v, Value.agg.injEq, Array.mk.injEq, List.cons.injEq, and_true] at h5
  obtain ⟨rfl, rfl, rfl, rfl⟩ := h5
  exact ⟨h3, k.2.1⟩
end Go.Proofs.YtongkalfdgleaaaGreatDoor
