/-
  What holds behind each part of a region 'x, y, z := From(a), From(b), From(c)', in whatever order its operations come up.
-/
import Derived.Test.YtongkalfdgleaaaGreatDoorZfCyCz
namespace Go.Proofs.YtongkalfdgleaaaGreatDoor
open Go.RowKit
set_option linter.unusedVariables false
set_option linter.unusedSimpArgs false

/-- One number is answered. -/
def RR (B : Nat) (w : World) (V : Int) (r : Value) (s : Bool) (p : Option Addr) (n : Nat) (d : List Int) : Prop :=
  r = .agg #[.bool s, .slice p n n] ∧ RN w s p n d ∧ rval s d = V ∧ n ≤ 48 ∧ Go.Proofs.YtongkalfdgleaaaGreatDoor.From B p
theorem RR.later {B : Nat} {w w' : World} {V : Int} {r : Value} {s : Bool} {p : Option Addr} {n : Nat} {d : List Int} (h : RR B w V r s p n d) (hb : Below w.heap.size w w') : RR B w' V r s p n d := ⟨h.1, h.2.1.below hb, h.2.2⟩
theorem RR.store {B : Nat} {w : World} {V : Int} {r : Value} {s : Bool} {p : Option Addr} {n : Nat} {d : List Int} (h : RR B w V r s p n d) {g : Nat} (hg : 0 < n → ∀ q, p = some q → q.block ≠ g) (u v : Value) : RR B ((w.setCell ⟨g, 0, none⟩ u).setCell ⟨g, 1, none⟩ v) V r s p n d :=
  ⟨h.1, (h.2.1.set (a := ⟨g, 0, none⟩) (fun h0 q hq => hg h0 q hq) _).set (a := ⟨g, 1, none⟩) (fun h0 q hq => hg h0 q hq) _, h.2.2⟩
/-- One variable is there. -/
def XX (B : Nat) (w : World) (x : Value) (g : Nat) (done : Bool) (r : Value) : Prop :=
  x = .pointer (some ⟨g, 0, none⟩) ∧ B ≤ g ∧ ∃ u v, Bx w g u v ∧ (done = true → r = .agg #[u, v])
theorem XX.later {B : Nat} {w w' : World} {x : Value} {g : Nat} {done : Bool} {r : Value} (h : XX B w x g done r) (hb : Below w.heap.size w w') : XX B w' x g done r := by
  obtain ⟨h1, h2, u, v, h3, h4⟩ := h
  exact ⟨h1, h2, u, v, h3.later hb, h4⟩
theorem XX.lt {B : Nat} {w : World} {x : Value} {g : Nat} {done : Bool} {r : Value} (h : XX B w x g done r) : g < w.heap.size := by
  obtain ⟨h1, h2, u, v, h3, h4⟩ := h
  exact block_lt_of_cell h3.c0
theorem XX.res {B : Nat} {w : World} {x : Value} {g : Nat} {done : Bool} {r r' : Value} (h : XX B w x g done r) (hd : ¬ done = true) : XX B w x g done r' := by
  obtain ⟨h1, h2, u, v, h3, h4⟩ := h
  exact ⟨h1, h2, u, v, h3, fun e => absurd e hd⟩
theorem XX.other {B : Nat} {w : World} {x : Value} {g k : Nat} {done : Bool} {r : Value} (h : XX B w x g done r) (hk : g ≠ k) (u v : Value) : XX B ((w.setCell ⟨k, 0, none⟩ u).setCell ⟨k, 1, none⟩ v) x g done r := by
  obtain ⟨h1, h2, u', v', h3, h4⟩ := h
  exact ⟨h1, h2, u', v', Bx_oth h3 hk, h4⟩
theorem XX.own {B : Nat} {w : World} {x : Value} {g : Nat} {done : Bool} {r : Value} (h : XX B w x g done r) (u v : Value) : XX B ((w.setCell ⟨g, 0, none⟩ u).setCell ⟨g, 1, none⟩ v) x g true (.agg #[u, v]) := by
  obtain ⟨h1, h2, u', v', h3, h4⟩ := h
  exact ⟨h1, h2, u, v, Bx_set h3, fun _ => rfl⟩

/-- Behind each part of the region. -/
structure G3 (wc w : World) (V1 V2 V3 : Int) (c1 c2 c3 a1 a2 a3 s1 s2 s3 : Bool) (r1 r2 r3 x1 x2 x3 : Value) (t1 : Bool) (p1 : Option Addr) (n1 : Nat) (d1 : List Int) (t2 : Bool) (p2 : Option Addr) (n2 : Nat) (d2 : List Int) (t3 : Bool) (p3 : Option Addr) (n3 : Nat) (d3 : List Int) (g1 g2 g3 : Nat) : Prop where
  bel : Below wc.heap.size wc w
  R1 : c1 = true → RR wc.heap.size w V1 r1 t1 p1 n1 d1
  R2 : c2 = true → RR wc.heap.size w V2 r2 t2 p2 n2 d2
  R3 : c3 = true → RR wc.heap.size w V3 r3 t3 p3 n3 d3
  X1 : a1 = true → XX wc.heap.size w x1 g1 s1 r1
  X2 : a2 = true → XX wc.heap.size w x2 g2 s2 r2
  X3 : a3 = true → XX wc.heap.size w x3 g3 s3 r3
  d11 : c1 = true → a1 = true → 0 < n1 → ∀ q, p1 = some q → q.block ≠ g1
  d12 : c1 = true → a2 = true → 0 < n1 → ∀ q, p1 = some q → q.block ≠ g2
  d13 : c1 = true → a3 = true → 0 < n1 → ∀ q, p1 = some q → q.block ≠ g3
  d21 : c2 = true → a1 = true → 0 < n2 → ∀ q, p2 = some q → q.block ≠ g1
  d22 : c2 = true → a2 = true → 0 < n2 → ∀ q, p2 = some q → q.block ≠ g2
  d23 : c2 = true → a3 = true → 0 < n2 → ∀ q, p2 = some q → q.block ≠ g3
  d31 : c3 = true → a1 = true → 0 < n3 → ∀ q, p3 = some q → q.block ≠ g1
  d32 : c3 = true → a2 = true → 0 < n3 → ∀ q, p3 = some q → q.block ≠ g2
  d33 : c3 = true → a3 = true → 0 < n3 → ∀ q, p3 = some q → q.block ≠ g3
  e12 : a1 = true → a2 = true → g1 ≠ g2
  e13 : a1 = true → a3 = true → g1 ≠ g3
  e23 : a2 = true → a3 = true → g2 ≠ g3
  o1 : s1 = true → c1 = true
  o2 : s2 = true → c2 = true
  o3 : s3 = true → c3 = true
  q1 : s1 = true → a1 = true
  q2 : s2 = true → a2 = true
  q3 : s3 = true → a3 = true
theorem G3.call1 {wc w w1 : World} {V1 V2 V3 : Int} {c1 c2 c3 a1 a2 a3 s1 s2 s3 : Bool} {r1 r2 r3 x1 x2 x3 : Value} {t1 : Bool} {p1 : Option Addr} {n1 : Nat} {d1 : List Int} {t2 : Bool} {p2 : Option Addr} {n2 : Nat} {d2 : List Int} {t3 : Bool} {p3 : Option Addr} {n3 : Nat} {d3 : List Int} {g1 g2 g3 : Nat} (h : G3 wc w V1 V2 V3 c1 c2 c3 a1 a2 a3 s1 s2 s3 r1 r2 r3 x1 x2 x3 t1 p1 n1 d1 t2 p2 n2 d2 t3 p3 n3 d3 g1 g2 g3) (hc : ¬ c1 = true) {t : Bool} {p : Option Addr} {n : Nat} {d : List Int} (hb : Below w.heap.size w w1) (hr : RN w1 t p n d) (hv : rval t d = V1) (hn : n ≤ 48) (hf : Go.Proofs.YtongkalfdgleaaaGreatDoor.From w.heap.size p) :
    G3 wc w1 V1 V2 V3 (true) c2 c3 a1 a2 a3 s1 s2 s3 (.agg #[.bool t, .slice p n n]) r2 r3 x1 x2 x3 (t) (p) (n) (d) t2 p2 n2 d2 t3 p3 n3 d3 g1 g2 g3 :=
  ⟨h.bel.trans (hb.mono h.bel.size), fun _ => ⟨rfl, hr, hv, hn, fun a ha => Nat.le_trans h.bel.size (hf a ha)⟩, fun k => (h.R2 k).later hb, fun k => (h.R3 k).later hb, fun k => ((h.X1 k).later hb).res (fun e => hc (h.o1 e)), fun k => (h.X2 k).later hb, fun k => (h.X3 k).later hb, fun _ k h0 q hq e => by have h1 := (h.X1 k).lt; have h2 := hf q hq; omega, fun _ k h0 q hq e => by have h1 := (h.X2 k).lt; have h2 := hf q hq; omega, fun _ k h0 q hq e => by have h1 := (h.X3 k).lt; have h2 := hf q hq; omega, h.d21, h.d22, h.d23, h.d31, h.d32, h.d33, h.e12, h.e13, h.e23, fun _ => rfl, h.o2, h.o3, h.q1, h.q2, h.q3⟩
theorem G3.call2 {wc w w1 : World} {V1 V2 V3 : Int} {c1 c2 c3 a1 a2 a3 s1 s2 s3 : Bool} {r1 r2 r3 x1 x2 x3 : Value} {t1 : Bool} {p1 : Option Addr} {n1 : Nat} {d1 : List Int} {t2 : Bool} {p2 : Option Addr} {n2 : Nat} {d2 : List Int} {t3 : Bool} {p3 : Option Addr} {n3 : Nat} {d3 : List Int} {g1 g2 g3 : Nat} (h : G3 wc w V1 V2 V3 c1 c2 c3 a1 a2 a3 s1 s2 s3 r1 r2 r3 x1 x2 x3 t1 p1 n1 d1 t2 p2 n2 d2 t3 p3 n3 d3 g1 g2 g3) (hc : ¬ c2 = true) {t : Bool} {p : Option Addr} {n : Nat} {d : List Int} (hb : Below w.heap.size w w1) (hr : RN w1 t p n d) (hv : rval t d = V2) (hn : n ≤ 48) (hf : Go.Proofs.YtongkalfdgleaaaGreatDoor.From w.heap.size p) :
    G3 wc w1 V1 V2 V3 c1 (true) c3 a1 a2 a3 s1 s2 s3 r1 (.agg #[.bool t, .slice p n n]) r3 x1 x2 x3 t1 p1 n1 d1 (t) (p) (n) (d) t3 p3 n3 d3 g1 g2 g3 :=
  ⟨h.bel.trans (hb.mono h.bel.size), fun k => (h.R1 k).later hb, fun _ => ⟨rfl, hr, hv, hn, fun a ha => Nat.le_trans h.bel.size (hf a ha)⟩, fun k => (h.R3 k).later hb, fun k => (h.X1 k).later hb, fun k => ((h.X2 k).later hb).res (fun e => hc (h.o2 e)), fun k => (h.X3 k).later hb, h.d11, h.d12, h.d13, fun _ k h0 q hq e => by have h1 := (h.X1 k).lt; have h2 := hf q hq; omega, fun _ k h0 q hq e => by have h1 := (h.X2 k).lt; have h2 := hf q hq; omega, fun _ k h0 q hq e => by have h1 := (h.X3 k).lt; have h2 := hf q hq; omega, h.d31, h.d32, h.d33, h.e12, h.e13, h.e23, h.o1, fun _ => rfl, h.o3, h.q1, h.q2, h.q3⟩
theorem G3.call3 {wc w w1 : World} {V1 V2 V3 : Int} {c1 c2 c3 a1 a2 a3 s1 s2 s3 : Bool} {r1 r2 r3 x1 x2 x3 : Value} {t1 : Bool} {p1 : Option Addr} {n1 : Nat} {d1 : List Int} {t2 : Bool} {p2 : Option Addr} {n2 : Nat} {d2 : List Int} {t3 : Bool} {p3 : Option Addr} {n3 : Nat} {d3 : List Int} {g1 g2 g3 : Nat} (h : G3 wc w V1 V2 V3 c1 c2 c3 a1 a2 a3 s1 s2 s3 r1 r2 r3 x1 x2 x3 t1 p1 n1 d1 t2 p2 n2 d2 t3 p3 n3 d3 g1 g2 g3) (hc : ¬ c3 = true) {t : Bool} {p : Option Addr} {n : Nat} {d : List Int} (hb : Below w.heap.size w w1) (hr : RN w1 t p n d) (hv : rval t d = V3) (hn : n ≤ 48) (hf : Go.Proofs.YtongkalfdgleaaaGreatDoor.From w.heap.size p) :
    G3 wc w1 V1 V2 V3 c1 c2 (true) a1 a2 a3 s1 s2 s3 r1 r2 (.agg #[.bool t, .slice p n n]) x1 x2 x3 t1 p1 n1 d1 t2 p2 n2 d2 (t) (p) (n) (d) g1 g2 g3 :=
  ⟨h.bel.trans (hb.mono h.bel.size), fun k => (h.R1 k).later hb, fun k => (h.R2 k).later hb, fun _ => ⟨rfl, hr, hv, hn, fun a ha => Nat.le_trans h.bel.size (hf a ha)⟩, fun k => (h.X1 k).later hb, fun k => (h.X2 k).later hb, fun k => ((h.X3 k).later hb).res (fun e => hc (h.o3 e)), h.d11, h.d12, h.d13, h.d21, h.d22, h.d23, fun _ k h0 q hq e => by have h1 := (h.X1 k).lt; have h2 := hf q hq; omega, fun _ k h0 q hq e => by have h1 := (h.X2 k).lt; have h2 := hf q hq; omega, fun _ k h0 q hq e => by have h1 := (h.X3 k).lt; have h2 := hf q hq; omega, h.e12, h.e13, h.e23, h.o1, h.o2, fun _ => rfl, h.q1, h.q2, h.q3⟩
theorem G3.alloc1 {wc w : World} {V1 V2 V3 : Int} {c1 c2 c3 a1 a2 a3 s1 s2 s3 : Bool} {r1 r2 r3 x1 x2 x3 : Value} {t1 : Bool} {p1 : Option Addr} {n1 : Nat} {d1 : List Int} {t2 : Bool} {p2 : Option Addr} {n2 : Nat} {d2 : List Int} {t3 : Bool} {p3 : Option Addr} {n3 : Nat} {d3 : List Int} {g1 g2 g3 : Nat} (h : G3 wc w V1 V2 V3 c1 c2 c3 a1 a2 a3 s1 s2 s3 r1 r2 r3 x1 x2 x3 t1 p1 n1 d1 t2 p2 n2 d2 t3 p3 n3 d3 g1 g2 g3) (hs : ¬ a1 = true) (u v : Value) (ty : Nat) :
    G3 wc (w.alloc (.cells #[u, v] ty)) V1 V2 V3 c1 c2 c3 (true) a2 a3 s1 s2 s3 r1 r2 r3 (.pointer (some ⟨w.heap.size, 0, none⟩)) x2 x3 t1 p1 n1 d1 t2 p2 n2 d2 t3 p3 n3 d3 (w.heap.size) g2 g3 :=
  ⟨h.bel.alloc h.bel.size _, fun k => (h.R1 k).later (bel_al (Below.refl _ _)), fun k => (h.R2 k).later (bel_al (Below.refl _ _)), fun k => (h.R3 k).later (bel_al (Below.refl _ _)), fun _ => ⟨rfl, h.bel.size, u, v, Bx.new _ _ _ rfl, fun e => absurd (h.q1 e) hs⟩, fun k => (h.X2 k).later (bel_al (Below.refl _ _)), fun k => (h.X3 k).later (bel_al (Below.refl _ _)), fun k _ h0 q hq => Nat.ne_of_lt ((h.R1 k).2.1.lt h0 q hq), h.d12, h.d13, fun k _ h0 q hq => Nat.ne_of_lt ((h.R2 k).2.1.lt h0 q hq), h.d22, h.d23, fun k _ h0 q hq => Nat.ne_of_lt ((h.R3 k).2.1.lt h0 q hq), h.d32, h.d33, fun _ k => Ne.symm (Nat.ne_of_lt (h.X2 k).lt), fun _ k => Ne.symm (Nat.ne_of_lt (h.X3 k).lt), h.e23, h.o1, h.o2, h.o3, fun _ => rfl, h.q2, h.q3⟩
theorem G3.alloc2 {wc w : World} {V1 V2 V3 : Int} {c1 c2 c3 a1 a2 a3 s1 s2 s3 : Bool} {r1 r2 r3 x1 x2 x3 : Value} {t1 : Bool} {p1 : Option Addr} {n1 : Nat} {d1 : List Int} {t2 : Bool} {p2 : Option Addr} {n2 : Nat} {d2 : List Int} {t3 : Bool} {p3 : Option Addr} {n3 : Nat} {d3 : List Int} {g1 g2 g3 : Nat} (h : G3 wc w V1 V2 V3 c1 c2 c3 a1 a2 a3 s1 s2 s3 r1 r2 r3 x1 x2 x3 t1 p1 n1 d1 t2 p2 n2 d2 t3 p3 n3 d3 g1 g2 g3) (hs : ¬ a2 = true) (u v : Value) (ty : Nat) :
    G3 wc (w.alloc (.cells #[u, v] ty)) V1 V2 V3 c1 c2 c3 a1 (true) a3 s1 s2 s3 r1 r2 r3 x1 (.pointer (some ⟨w.heap.size, 0, none⟩)) x3 t1 p1 n1 d1 t2 p2 n2 d2 t3 p3 n3 d3 g1 (w.heap.size) g3 :=
  ⟨h.bel.alloc h.bel.size _, fun k => (h.R1 k).later (bel_al (Below.refl _ _)), fun k => (h.R2 k).later (bel_al (Below.refl _ _)), fun k => (h.R3 k).later (bel_al (Below.refl _ _)), fun k => (h.X1 k).later (bel_al (Below.refl _ _)), fun _ => ⟨rfl, h.bel.size, u, v, Bx.new _ _ _ rfl, fun e => absurd (h.q2 e) hs⟩, fun k => (h.X3 k).later (bel_al (Below.refl _ _)), h.d11, fun k _ h0 q hq => Nat.ne_of_lt ((h.R1 k).2.1.lt h0 q hq), h.d13, h.d21, fun k _ h0 q hq => Nat.ne_of_lt ((h.R2 k).2.1.lt h0 q hq), h.d23, h.d31, fun k _ h0 q hq => Nat.ne_of_lt ((h.R3 k).2.1.lt h0 q hq), h.d33, fun k _ => Nat.ne_of_lt (h.X1 k).lt, h.e13, fun _ k => Ne.symm (Nat.ne_of_lt (h.X3 k).lt), h.o1, h.o2, h.o3, h.q1, fun _ => rfl, h.q3⟩
theorem G3.alloc3 {wc w : World} {V1 V2 V3 : Int} {c1 c2 c3 a1 a2 a3 s1 s2 s3 : Bool} {r1 r2 r3 x1 x2 x3 : Value} {t1 : Bool} {p1 : Option Addr} {n1 : Nat} {d1 : List Int} {t2 : Bool} {p2 : Option Addr} {n2 : Nat} {d2 : List Int} {t3 : Bool} {p3 : Option Addr} {n3 : Nat} {d3 : List Int} {g1 g2 g3 : Nat} (h : G3 wc w V1 V2 V3 c1 c2 c3 a1 a2 a3 s1 s2 s3 r1 r2 r3 x1 x2 x3 t1 p1 n1 d1 t2 p2 n2 d2 t3 p3 n3 d3 g1 g2 g3) (hs : ¬ a3 = true) (u v : Value) (ty : Nat) :
    G3 wc (w.alloc (.cells #[u, v] ty)) V1 V2 V3 c1 c2 c3 a1 a2 (true) s1 s2 s3 r1 r2 r3 x1 x2 (.pointer (some ⟨w.heap.size, 0, none⟩)) t1 p1 n1 d1 t2 p2 n2 d2 t3 p3 n3 d3 g1 g2 (w.heap.size) :=
  ⟨h.bel.alloc h.bel.size _, fun k => (h.R1 k).later (bel_al (Below.refl _ _)), fun k => (h.R2 k).later (bel_al (Below.refl _ _)), fun k => (h.R3 k).later (bel_al (Below.refl _ _)), fun k => (h.X1 k).later (bel_al (Below.refl _ _)), fun k => (h.X2 k).later (bel_al (Below.refl _ _)), fun _ => ⟨rfl, h.bel.size, u, v, Bx.new _ _ _ rfl, fun e => absurd (h.q3 e) hs⟩, h.d11, h.d12, fun k _ h0 q hq => Nat.ne_of_lt ((h.R1 k).2.1.lt h0 q hq), h.d21, h.d22, fun k _ h0 q hq => Nat.ne_of_lt ((h.R2 k).2.1.lt h0 q hq), h.d31, h.d32, fun k _ h0 q hq => Nat.ne_of_lt ((h.R3 k).2.1.lt h0 q hq), h.e12, fun k _ => Nat.ne_of_lt (h.X1 k).lt, fun k _ => Nat.ne_of_lt (h.X2 k).lt, h.o1, h.o2, h.o3, h.q1, h.q2, fun _ => rfl⟩
theorem G3.store1 {wc w : World} {V1 V2 V3 : Int} {c1 c2 c3 a1 a2 a3 s1 s2 s3 : Bool} {r1 r2 r3 x1 x2 x3 : Value} {t1 : Bool} {p1 : Option Addr} {n1 : Nat} {d1 : List Int} {t2 : Bool} {p2 : Option Addr} {n2 : Nat} {d2 : List Int} {t3 : Bool} {p3 : Option Addr} {n3 : Nat} {d3 : List Int} {g1 g2 g3 : Nat} (h : G3 wc w V1 V2 V3 c1 c2 c3 a1 a2 a3 s1 s2 s3 r1 r2 r3 x1 x2 x3 t1 p1 n1 d1 t2 p2 n2 d2 t3 p3 n3 d3 g1 g2 g3) (ha : a1 = true) (hc : c1 = true) :
    G3 wc ((w.setCell ⟨g1, 0, none⟩ (.bool t1)).setCell ⟨g1, 1, none⟩ (.slice p1 n1 n1)) V1 V2 V3 c1 c2 c3 a1 a2 a3 (true) s2 s3 r1 r2 r3 x1 x2 x3 t1 p1 n1 d1 t2 p2 n2 d2 t3 p3 n3 d3 g1 g2 g3 :=
  ⟨bset2 h.bel (h.X1 ha).2.1 _ _, fun k => (h.R1 k).store (h.d11 k ha) _ _, fun k => (h.R2 k).store (h.d21 k ha) _ _, fun k => (h.R3 k).store (h.d31 k ha) _ _, fun k => by have h1 := (h.X1 k).own (.bool t1) (.slice p1 n1 n1); rw [(h.R1 hc).1]; exact h1, fun k => (h.X2 k).other (Ne.symm (h.e12 ha k)) _ _, fun k => (h.X3 k).other (Ne.symm (h.e13 ha k)) _ _, h.d11, h.d12, h.d13, h.d21, h.d22, h.d23, h.d31, h.d32, h.d33, h.e12, h.e13, h.e23, fun _ => hc, h.o2, h.o3, fun _ => ha, h.q2, h.q3⟩
theorem G3.store2 {wc w : World} {V1 V2 V3 : Int} {c1 c2 c3 a1 a2 a3 s1 s2 s3 : Bool} {r1 r2 r3 x1 x2 x3 : Value} {t1 : Bool} {p1 : Option Addr} {n1 : Nat} {d1 : List Int} {t2 : Bool} {p2 : Option Addr} {n2 : Nat} {d2 : List Int} {t3 : Bool} {p3 : Option Addr} {n3 : Nat} {d3 : List Int} {g1 g2 g3 : Nat} (h : G3 wc w V1 V2 V3 c1 c2 c3 a1 a2 a3 s1 s2 s3 r1 r2 r3 x1 x2 x3 t1 p1 n1 d1 t2 p2 n2 d2 t3 p3 n3 d3 g1 g2 g3) (ha : a2 = true) (hc : c2 = true) :
    G3 wc ((w.setCell ⟨g2, 0, none⟩ (.bool t2)).setCell ⟨g2, 1, none⟩ (.slice p2 n2 n2)) V1 V2 V3 c1 c2 c3 a1 a2 a3 s1 (true) s3 r1 r2 r3 x1 x2 x3 t1 p1 n1 d1 t2 p2 n2 d2 t3 p3 n3 d3 g1 g2 g3 :=
  ⟨bset2 h.bel (h.X2 ha).2.1 _ _, fun k => (h.R1 k).store (h.d12 k ha) _ _, fun k => (h.R2 k).store (h.d22 k ha) _ _, fun k => (h.R3 k).store (h.d32 k ha) _ _, fun k => (h.X1 k).other (h.e12 k ha) _ _, fun k => by have h1 := (h.X2 k).own (.bool t2) (.slice p2 n2 n2); rw [(h.R2 hc).1]; exact h1, fun k => (h.X3 k).other (Ne.symm (h.e23 ha k)) _ _, h.d11, h.d12, h.d13, h.d21, h.d22, h.d23, h.d31, h.d32, h.d33, h.e12, h.e13, h.e23, h.o1, fun _ => hc, h.o3, h.q1, fun _ => ha, h.q3⟩
theorem G3.store3 {wc w : World} {V1 V2 V3 : Int} {c1 c2 c3 a1 a2 a3 s1 s2 s3 : Bool} {r1 r2 r3 x1 x2 x3 : Value} {t1 : Bool} {p1 : Option Addr} {n1 : Nat} {d1 : List Int} {t2 : Bool} {p2 : Option Addr} {n2 : Nat} {d2 : List Int} {t3 : Bool} {p3 : Option Addr} {n3 : Nat} {d3 : List Int} {g1 g2 g3 : Nat} (h : G3 wc w V1 V2 V3 c1 c2 c3 a1 a2 a3 s1 s2 s3 r1 r2 r3 x1 x2 x3 t1 p1 n1 d1 t2 p2 n2 d2 t3 p3 n3 d3 g1 g2 g3) (ha : a3 = true) (hc : c3 = true) :
    G3 wc ((w.setCell ⟨g3, 0, none⟩ (.bool t3)).setCell ⟨g3, 1, none⟩ (.slice p3 n3 n3)) V1 V2 V3 c1 c2 c3 a1 a2 a3 s1 s2 (true) r1 r2 r3 x1 x2 x3 t1 p1 n1 d1 t2 p2 n2 d2 t3 p3 n3 d3 g1 g2 g3 :=
  ⟨bset2 h.bel (h.X3 ha).2.1 _ _, fun k => (h.R1 k).store (h.d13 k ha) _ _, fun k => (h.R2 k).store (h.d23 k ha) _ _, fun k => (h.R3 k).store (h.d33 k ha) _ _, fun k => (h.X1 k).other (h.e13 k ha) _ _, fun k => (h.X2 k).other (h.e23 k ha) _ _, fun k => by have h1 := (h.X3 k).own (.bool t3) (.slice p3 n3 n3); rw [(h.R3 hc).1]; exact h1, h.d11, h.d12, h.d13, h.d21, h.d22, h.d23, h.d31, h.d32, h.d33, h.e12, h.e13, h.e23, h.o1, h.o2, fun _ => hc, h.q1, h.q2, fun _ => ha⟩
end Go.Proofs.YtongkalfdgleaaaGreatDoor
