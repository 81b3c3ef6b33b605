/-
  limbs.multiplyRows.
-/
import Derived.Test.YtcdfckjlmifjiaaGreatUaOwPn
import Derived.Test.YtcdfckjlmifjiaaGreatAvWaWbWc
import Derived.Test.YtcdfckjlmifjiaaGreatWdWeNi
import Derived.Test.YtcdfckjlmifjiaaGreatWkWlBxRaWhWmBe
import Derived.Test.YtcdfckjlmifjiaaGreatZcZdYb
import Derived.Test.YtcdfckjlmifjiaaGreatYcZsRmRpYd
import Derived.Test.YtcdfckjlmifjiaaGreatUdLnWrIbWgUeUfUg
import Derived.Test.YtcdfckjlmifjiaaGreatCxRbCyRvCzTeZa
import Derived.Test.YtcdfckjlmifjiaaGreatRoUcVbDaVcDuOi
import Derived.Test.YtcdfckjlmifjiaaGreatMmKpOr
import Derived.Test.YtcdfckjlmifjiaaGreatRdReRxBbCvRfRhCqRr
import Derived.Deep.DeepCutAuto
import Derived.Test.YtcdfckjlmifjiaaGreatRiRjRkRnGcGd
namespace Go.Proofs.YtcdfckjlmifjiaaGreat
open Go.RowKit
set_option linter.unusedVariables false
set_option linter.unusedSimpArgs false

end Go.Proofs.YtcdfckjlmifjiaaGreat
/-
  limbs.multiply, product, Mul: where one of the two has fewer than 80 limbs.
-/
namespace Go.Proofs.YtcdfckjlmifjiaaGreat
open Go.RowKit
set_option linter.unusedVariables false
set_option linter.unusedSimpArgs false

end Go.Proofs.YtcdfckjlmifjiaaGreat
/-
  limbs.Cmp.
-/
namespace Go.Proofs.YtcdfckjlmifjiaaGreat
open Go.RowKit
set_option linter.unusedVariables false
set_option linter.unusedSimpArgs false

end Go.Proofs.YtcdfckjlmifjiaaGreat
/-
  rat.Mul, Cmp, and what the functions of two rationals share.
-/
namespace Go.Proofs.YtcdfckjlmifjiaaGreat
open Go.RowKit
set_option linter.unusedVariables false
set_option linter.unusedSimpArgs false

/-- Two rationals in variables, both with a Den above 0. -/
structure U2 (w wc : World) (Ka Kb : Nat) (Qa Qb : Rat) (sa ta sb tb : Bool) (pa qa pb qb : Option Addr) (na nac ma mac nb nbc mb mbc : Nat) (xa ya xb yb : List Int) : Prop where
  a : Bq wc w.heap.size (.bool sa) (.slice pa na nac) (.bool ta) (.slice qa ma mac)
  b : Bq wc (w.heap.size + 1) (.bool sb) (.slice pb nb nbc) (.bool tb) (.slice qb mb mbc)
  an : AI wc pa na nac xa
  ad : AI wc qa ma mac ya
  bn : AI wc pb nb nbc xb
  bd : AI wc qb mb mbc yb
  ap : 0 < ival ta ya
  bp : 0 < ival tb yb
  va : Rat.divInt (ival sa xa) (ival ta ya) = Qa
  vb : Rat.divInt (ival sb xb) (ival tb yb) = Qb
  la : na ≤ Ka
  la' : ma ≤ Ka
  lb : nb ≤ Kb
  lb' : mb ≤ Kb
  bel : Below w.heap.size w wc
theorem U2.later {w wc w' : World} {Ka Kb : Nat} {Qa Qb : Rat} {sa ta sb tb : Bool} {pa qa pb qb : Option Addr} {na nac ma mac nb nbc mb mbc : Nat} {xa ya xb yb : List Int} (h : U2 w wc Ka Kb Qa Qb sa ta sb tb pa qa pb qb na nac ma mac nb nbc mb mbc xa ya xb yb) (hb : Below wc.heap.size wc w') : U2 w w' Ka Kb Qa Qb sa ta sb tb pa qa pb qb na nac ma mac nb nbc mb mbc xa ya xb yb :=
  ⟨h.a.later hb, h.b.later hb, h.an.below hb, h.ad.below hb, h.bn.below hb, h.bd.below hb, h.ap, h.bp, h.va, h.vb, h.la, h.la', h.lb, h.lb', bnext' h.bel hb⟩
theorem NR.of {B : Nat} {w : World} {r r' : Rat} {s : Bool} {p : Option Addr} {n : Nat} {xs : List Int} {t : Bool} {q : Option Addr} {m : Nat} {ys : List Int} (h : NR B w s p n xs t q m ys r) (e : r = r') : NR B w s p n xs t q m ys r' := e ▸ h
end Go.Proofs.YtcdfckjlmifjiaaGreat
/-
  rat.Over, Quo, combine, Add, Sub.
-/
namespace Go.Proofs.YtcdfckjlmifjiaaGreat
open Go.RowKit
set_option linter.unusedVariables false
set_option linter.unusedSimpArgs false

theorem NI.nil (B : Nat) (w : World) : NI B w false none 0 [] 0 := ⟨rfl, Rd.nil, fun j => by simp [gx], by decide, fun _ => rfl, fun _ => rfl, by decide, (fun a ha => by cases ha), (fun a ha => by cases ha)⟩
end Go.Proofs.YtcdfckjlmifjiaaGreat
/-
  What holds behind each part of a region 'x, y, z := From(a), From(b), From(c)', in whatever order its operations come up.
-/
namespace Go.Proofs.YtcdfckjlmifjiaaGreat
open Go.RowKit
set_option linter.unusedVariables false
set_option linter.unusedSimpArgs false

/-- One number is answered. -/
def RR (B : Nat) (w : World) (V : Int) (r : Value) (s : Bool) (p : Option Addr) (n : Nat) (d : List Int) : Prop :=
  r = .agg #[.bool s, .slice p n n] ∧ RN w s p n d ∧ rval s d = V ∧ n ≤ 48 ∧ Go.Proofs.YtcdfckjlmifjiaaGreat.From B p
theorem RR.later {B : Nat} {w w' : World} {V : Int} {r : Value} {s : Bool} {p : Option Addr} {n : Nat} {d : List Int} (h : RR B w V r s p n d) (hb : Below w.heap.size w w') : RR B w' V r s p n d := ⟨h.1, h.2.1.below hb, h.2.2⟩
theorem RR.store {B : Nat} {w : World} {V : Int} {r : Value} {s : Bool} {p : Option Addr} {n : Nat} {d : List Int} (h : RR B w V r s p n d) {g : Nat} (hg : 0 < n → ∀ q, p = some q → q.block ≠ g) (u v : Value) : RR B ((w.setCell ⟨g, 0, none⟩ u).setCell ⟨g, 1, none⟩ v) V r s p n d :=
  ⟨h.1, (h.2.1.set (a := ⟨g, 0, none⟩) (fun h0 q hq => hg h0 q hq) _).set (a := ⟨g, 1, none⟩) (fun h0 q hq => hg h0 q hq) _, h.2.2⟩
/-- One variable is there. -/
def XX (B : Nat) (w : World) (x : Value) (g : Nat) (done : Bool) (r : Value) : Prop :=
  x = .pointer (some ⟨g, 0, none⟩) ∧ B ≤ g ∧ ∃ u v, Bx w g u v ∧ (done = true → r = .agg #[u, v])
theorem XX.later {B : Nat} {w w' : World} {x : Value} {g : Nat} {done : Bool} {r : Value} (h : XX B w x g done r) (hb : Below w.heap.size w w') : XX B w' x g done r := by
  obtain ⟨h1, h2, u, v, h3, h4⟩ := h
  exact ⟨h1, h2, u, v, h3.later hb, h4⟩
theorem XX.lt {B : Nat} {w : World} {x : Value} {g : Nat} {done : Bool} {r : Value} (h : XX B w x g done r) : g < w.heap.size := by
  obtain ⟨h1, h2, u, v, h3, h4⟩ := h
  exact block_lt_of_cell h3.c0
theorem XX.res {B : Nat} {w : World} {x : Value} {g : Nat} {done : Bool} {r r' : Value} (h : XX B w x g done r) (hd : ¬ done = true) : XX B w x g done r' := by
  obtain ⟨h1, h2, u, v, h3, h4⟩ := h
  exact ⟨h1, h2, u, v, h3, fun e => absurd e hd⟩
theorem XX.other {B : Nat} {w : World} {x : Value} {g k : Nat} {done : Bool} {r : Value} (h : XX B w x g done r) (hk : g ≠ k) (u v : Value) : XX B ((w.setCell ⟨k, 0, none⟩ u).setCell ⟨k, 1, none⟩ v) x g done r := by
  obtain ⟨h1, h2, u', v', h3, h4⟩ := h
  exact ⟨h1, h2, u', v', Bx_oth h3 hk, h4⟩
theorem XX.own {B : Nat} {w : World} {x : Value} {g : Nat} {done : Bool} {r : Value} (h : XX B w x g done r) (u v : Value) : XX B ((w.setCell ⟨g, 0, none⟩ u).setCell ⟨g, 1, none⟩ v) x g true (.agg #[u, v]) := by
  obtain ⟨h1, h2, u', v', h3, h4⟩ := h
  exact ⟨h1, h2, u, v, Bx_set h3, fun _ => rfl⟩

/-- Behind each part of the region. -/
structure G3 (wc w : World) (V1 V2 V3 : Int) (c1 c2 c3 a1 a2 a3 s1 s2 s3 : Bool) (r1 r2 r3 x1 x2 x3 : Value) (t1 : Bool) (p1 : Option Addr) (n1 : Nat) (d1 : List Int) (t2 : Bool) (p2 : Option Addr) (n2 : Nat) (d2 : List Int) (t3 : Bool) (p3 : Option Addr) (n3 : Nat) (d3 : List Int) (g1 g2 g3 : Nat) : Prop where
  bel : Below wc.heap.size wc w
  R1 : c1 = true → RR wc.heap.size w V1 r1 t1 p1 n1 d1
  R2 : c2 = true → RR wc.heap.size w V2 r2 t2 p2 n2 d2
  R3 : c3 = true → RR wc.heap.size w V3 r3 t3 p3 n3 d3
  X1 : a1 = true → XX wc.heap.size w x1 g1 s1 r1
  X2 : a2 = true → XX wc.heap.size w x2 g2 s2 r2
  X3 : a3 = true → XX wc.heap.size w x3 g3 s3 r3
  d11 : c1 = true → a1 = true → 0 < n1 → ∀ q, p1 = some q → q.block ≠ g1
  d12 : c1 = true → a2 = true → 0 < n1 → ∀ q, p1 = some q → q.block ≠ g2
  d13 : c1 = true → a3 = true → 0 < n1 → ∀ q, p1 = some q → q.block ≠ g3
  d21 : c2 = true → a1 = true → 0 < n2 → ∀ q, p2 = some q → q.block ≠ g1
  d22 : c2 = true → a2 = true → 0 < n2 → ∀ q, p2 = some q → q.block ≠ g2
  d23 : c2 = true → a3 = true → 0 < n2 → ∀ q, p2 = some q → q.block ≠ g3
  d31 : c3 = true → a1 = true → 0 < n3 → ∀ q, p3 = some q → q.block ≠ g1
  d32 : c3 = true → a2 = true → 0 < n3 → ∀ q, p3 = some q → q.block ≠ g2
  d33 : c3 = true → a3 = true → 0 < n3 → ∀ q, p3 = some q → q.block ≠ g3
  e12 : a1 = true → a2 = true → g1 ≠ g2
  e13 : a1 = true → a3 = true → g1 ≠ g3
  e23 : a2 = true → a3 = true → g2 ≠ g3
  o1 : s1 = true → c1 = true
  o2 : s2 = true → c2 = true
  o3 : s3 = true → c3 = true
  q1 : s1 = true → a1 = true
  q2 : s2 = true → a2 = true
  q3 : s3 = true → a3 = true
end Go.Proofs.YtcdfckjlmifjiaaGreat
/-
  What holds behind each part of a region 'v := f(g(a, b), h(c, d))', three calls that answer numbers and a variable, in whatever order its operations come up.
-/
namespace Go.Proofs.YtcdfckjlmifjiaaGreat
open Go.RowKit
set_option linter.unusedVariables false
set_option linter.unusedSimpArgs false

theorem NI.ltn {B : Nat} {w : World} {s : Bool} {p : Option Addr} {n : Nat} {xs : List Int} {z : Int} (h : NI B w s p n xs z) : 0 < n → ∀ x, p = some x → x.block < w.heap.size := fun hn x hx => by
  obtain ⟨b, off, hp, hlt⟩ := h.rd.lt (by rw [h.len]; exact hn)
  rw [hp] at hx
  cases hx
  exact hlt
theorem NI.setOff {B : Nat} {w : World} {s : Bool} {p : Option Addr} {n : Nat} {xs : List Int} {z : Int} (h : NI B w s p n xs z) {a : Addr} (hne : 0 < n → Off a.block p) (v : Value) : NI B (w.setCell a v) s p n xs z := by
  refine ⟨h.len, ?_, h.u, h.nrm, h.sg, h.pn, h.v, h.fr, h.fz.set a v⟩
  intro hx
  exact h.rd.set_other a v (hne (by rw [← h.len]; exact hx)) hx
/-- One number is answered. -/
def AN (B : Nat) (w : World) (N : Nat) (V : Int) (r : Value) (s : Bool) (p : Option Addr) (n : Nat) (z : List Int) : Prop :=
  r = .agg #[.bool s, .slice p n n] ∧ NI B w s p n z V ∧ n ≤ N
theorem AN.later {B N : Nat} {w w' : World} {V : Int} {r : Value} {s : Bool} {p : Option Addr} {n : Nat} {z : List Int} (h : AN B w N V r s p n z) (hb : Below w.heap.size w w') : AN B w' N V r s p n z := ⟨h.1, h.2.1.below hb, h.2.2⟩
theorem AN.store {B N : Nat} {w : World} {V : Int} {r : Value} {s : Bool} {p : Option Addr} {n : Nat} {z : List Int} (h : AN B w N V r s p n z) {g : Nat} (hg : 0 < n → ∀ q, p = some q → q.block ≠ g) (u v : Value) : AN B ((w.setCell ⟨g, 0, none⟩ u).setCell ⟨g, 1, none⟩ v) N V r s p n z :=
  ⟨h.1, (h.2.1.setOff (a := ⟨g, 0, none⟩) (fun h0 q hq => hg h0 q hq) _).setOff (a := ⟨g, 1, none⟩) (fun h0 q hq => hg h0 q hq) _, h.2.2⟩
/-- Behind each part of the region. -/
structure G7 (wc w : World) (V1 V2 V3 : Int) (N1 N2 N3 : Nat) (c1 c2 c3 a s : Bool) (r1 r2 r3 x : Value) (t1 : Bool) (p1 : Option Addr) (n1 : Nat) (z1 : List Int) (t2 : Bool) (p2 : Option Addr) (n2 : Nat) (z2 : List Int) (t3 : Bool) (p3 : Option Addr) (n3 : Nat) (z3 : List Int) (g : Nat) : Prop where
  bel : Below wc.heap.size wc w
  M1 : c1 = true → s = false → AN wc.heap.size w N1 V1 r1 t1 p1 n1 z1
  M2 : c2 = true → s = false → AN wc.heap.size w N2 V2 r2 t2 p2 n2 z2
  M3 : c3 = true → AN wc.heap.size w N3 V3 r3 t3 p3 n3 z3
  X : a = true → XX wc.heap.size w x g s r3
  d : c3 = true → a = true → 0 < n3 → ∀ q, p3 = some q → q.block ≠ g
  o : s = true → c3 = true
  q : s = true → a = true
section
variable {wc w w1 : World} {V1 V2 V3 : Int} {N1 N2 N3 : Nat} {c1 c2 c3 a s : Bool} {r1 r2 r3 x : Value} {t1 : Bool} {p1 : Option Addr} {n1 : Nat} {z1 : List Int} {t2 : Bool} {p2 : Option Addr} {n2 : Nat} {z2 : List Int} {t3 : Bool} {p3 : Option Addr} {n3 : Nat} {z3 : List Int} {g : Nat}
theorem G7.alloc (h : G7 wc w V1 V2 V3 N1 N2 N3 c1 c2 c3 a s r1 r2 r3 x t1 p1 n1 z1 t2 p2 n2 z2 t3 p3 n3 z3 g) (hs : ¬ a = true) (u v : Value) (ty : Nat) :
    G7 wc (w.alloc (.cells #[u, v] ty)) V1 V2 V3 N1 N2 N3 c1 c2 c3 true s r1 r2 r3 (.pointer (some ⟨w.heap.size, 0, none⟩)) t1 p1 n1 z1 t2 p2 n2 z2 t3 p3 n3 z3 w.heap.size :=
  ⟨h.bel.alloc h.bel.size _, fun k l => (h.M1 k l).later (bel_al (Below.refl _ _)), fun k l => (h.M2 k l).later (bel_al (Below.refl _ _)), fun k => (h.M3 k).later (bel_al (Below.refl _ _)), fun _ => ⟨rfl, h.bel.size, u, v, Bx.new _ _ _ rfl, fun e => absurd (h.q e) hs⟩, fun k _ h0 q hq => Nat.ne_of_lt ((h.M3 k).2.1.ltn h0 q hq), h.o, fun _ => rfl⟩
theorem G7.store (h : G7 wc w V1 V2 V3 N1 N2 N3 c1 c2 c3 a s r1 r2 r3 x t1 p1 n1 z1 t2 p2 n2 z2 t3 p3 n3 z3 g) (ha : a = true) (hc : c3 = true) :
    G7 wc ((w.setCell ⟨g, 0, none⟩ (.bool t3)).setCell ⟨g, 1, none⟩ (.slice p3 n3 n3)) V1 V2 V3 N1 N2 N3 c1 c2 c3 a true r1 r2 r3 x t1 p1 n1 z1 t2 p2 n2 z2 t3 p3 n3 z3 g :=
  ⟨bset2 h.bel (h.X ha).2.1 _ _, nofun, nofun, fun k => (h.M3 k).store (h.d k ha) _ _, fun k => by have h1 := (h.X k).own (.bool t3) (.slice p3 n3 n3); rw [(h.M3 hc).1]; exact h1, h.d, fun _ => hc, fun _ => ha⟩
end
end Go.Proofs.YtcdfckjlmifjiaaGreat
/-
  rat.combine, Add, Sub.
-/
namespace Go.Proofs.YtcdfckjlmifjiaaGreat
open Go.RowKit
set_option linter.unusedVariables false
set_option linter.unusedSimpArgs false

end Go.Proofs.YtcdfckjlmifjiaaGreat
/-
  rat.Of, Whole, Bits, Text.
-/
namespace Go.Proofs.YtcdfckjlmifjiaaGreat
open Go.RowKit
set_option linter.unusedVariables false
set_option linter.unusedSimpArgs false

theorem NI.bits {B : Nat} {w : World} {s : Bool} {p : Option Addr} {n : Nat} {xs : List Int} {z : Int} (h : NI B w s p n xs z) (hn : n ≤ 100) : ∃ b : Nat, nbits xs = (b : Int) ∧ IB b (z.natAbs : Int) ∧ b ≤ 3200 := by
  obtain ⟨b, h1, h2⟩ := nbits_ib h.u
  have hv : (z.natAbs : Int) = val xs := by
    have := val_nonneg h.u
    rw [← h.v, ival]
    split <;> omega
  refine ⟨b, h1, by rw [hv]; exact h2, ?_⟩
  rcases Nat.lt_or_ge 3200 b with hc | hc
  · exfalso
    have h3 := h2.2.2
    rcases h3 with h3 | h3
    · omega
    · have h4 := p2_mono (show 3200 ≤ b - 1 by omega)
      have h5 := val_lt_tlen h.u
      rw [h.nrm, pw_p2] at h5
      have h6 := p2_mono (show 32 * n ≤ 3200 by omega)
      generalize (2 : Int) ^ 3200 = X at *
      generalize (2 : Int) ^ (b - 1) = Y at *
      generalize (2 : Int) ^ (32 * n) = Z at *
      omega
  · exact hc
set_option maxRecDepth 100000 in
set_option maxHeartbeats 2000000 in
/-- rat.Bits. -/
theorem qBits_any (s t : Bool) (p q : Option Addr) (n nc m mc : Nat) (xs ys : List Int) (w : World) (hA : AI w p n nc xs) (hB : AI w q m mc ys) (hn : n < 80) (hm : m < 80) :
    Calls Tryz.prog 56 #[.agg #[.bool s, .slice p n nc, .bool t, .slice q m mc]] w fun e w' => ∃ b c : Nat, e = .returned (.int .i64 ((b : Int) + c)) ∧ IB b ((Rat.divInt (ival s xs) (ival t ys)).num.natAbs : Int) ∧ IB c ((Rat.divInt (ival s xs) (ival t ys)).den : Int) ∧ Below w.heap.size w w' := by
  have hNo := fun w' h1 h2 => Norm_any s t p q n nc m mc xs ys w' h1 h2 (by omega) (by omega)
  have hbd := rat_bd (K := 80) (a := ival s xs) (b := ival t ys) (by have h1 := hA.lt s; have h2 := pw_mono (show n ≤ 80 by omega); omega) (by have h1 := hB.lt t; have h2 := pw_mono (show m ≤ 80 by omega); omega) (by decide)
  have HBD := (show Hid _ from hbd)
  clear hbd
  generalize Rat.divInt (ival s xs) (ival t ys) = Q at *
  go_enter Tryz.func56, Tryz.ntmps56
  go_wp2_with fail
  have hA0 : Bq (w.alloc (.cells #[.bool s, .slice p n nc, .bool t, .slice q m mc] 56)) w.heap.size (.bool s) (.slice p n nc) (.bool t) (.slice q m mc) := Bq.new _ _ _ _ _ rfl
  have hW : Below w.heap.size w (w.alloc (.cells #[.bool s, .slice p n nc, .bool t, .slice q m mc] 56)) := (Below.refl _ _).alloc (Nat.le_refl _) _
  generalize w.alloc (.cells #[.bool s, .slice p n nc, .bool t, .slice q m mc] 56) = W at *
  refine (hNo W (hA.below hW) (hB.below hW)).mono ?_
  rintro e w1 ⟨s1, p1, n1, x1, t1, q1, m1, y1, rfl, hN1, hb1⟩
  clear hNo
  have sR := hA0.lt
  have hBa := Bq_set (u := .bool s1) (v := .slice p1 n1 n1) (x := .bool t1) (y := .slice q1 m1 m1) (hA0.later hb1)
  have hNn := hN1.num.set4 sR (.bool s1) (.slice p1 n1 n1) (.bool t1) (.slice q1 m1 m1)
  have hNd := hN1.den.set4 sR (.bool s1) (.slice p1 n1 n1) (.bool t1) (.slice q1 m1 m1)
  have hW2 := bset4 (g := w.heap.size) (bnext' hW hb1) (Nat.le_refl _) (.bool s1) (.slice p1 n1 n1) (.bool t1) (.slice q1 m1 m1)
  obtain ⟨a0, a1, a2, a3, f0, f1, f2, f3⟩ := hA0.later hb1
  obtain ⟨c0, c1, c2, c3, -, -, -, -⟩ := hBa
  clear hA0 hN1
  have ln := hNn.le HBD.out.1
  have ld := hNd.le HBD.out.2
  clear HBD
  go_wp2_with fail
  generalize (((w1.setCell ⟨w.heap.size, 0, none⟩ (.bool s1)).setCell ⟨w.heap.size, 1, none⟩ (.slice p1 n1 n1)).setCell ⟨w.heap.size, 2, none⟩ (.bool t1)).setCell ⟨w.heap.size, 3, none⟩ (.slice q1 m1 m1) = W2 at *
  obtain ⟨b, hb, hB1, lb⟩ := hNn.bits (by omega)
  obtain ⟨c, hc, hC1, lc⟩ := hNd.bits (by omega)
  have v0 : IntKind.i64.wrap ((b : Int) + (c : Int)) = (b : Int) + (c : Int) := by rw [IntKind.wrap_i64]; omega
  go_region_held3 (fun w' => w'.cell? ⟨w.heap.size, 0, none⟩ = some (.bool s1) ∧ w'.cell? ⟨w.heap.size, 1, none⟩ = some (.slice p1 n1 n1) ∧ w'.cell? ⟨w.heap.size, 2, none⟩ = some (.bool t1) ∧ w'.cell? ⟨w.heap.size, 3, none⟩ = some (.slice q1 m1 m1)) (first | with_reducible exact ⟨c0, c1, c2, c3⟩ | with_reducible exact keepc4 ⟨c0, c1, c2, c3⟩ hV1 | with_reducible exact keepc4 ⟨c0, c1, c2, c3⟩ hV2 | (simp [go_sem, *]; done))
    (first
      | (go_at_call_of 48 (Value.agg #[.bool s1, .slice p1 n1 n1]); have h1 := Bits_any s1 p1 n1 n1 x1 W2.drew (hNn.drew.ai (by omega)); rw [hb] at h1; refine h1.mono ?_; rintro e v1 ⟨rfl, hv1⟩; clear h1; have hV1 := undrew hv1)
      | (go_at_call_of 48 (Value.agg #[.bool t1, .slice q1 m1 m1]); have h2 := Bits_any t1 q1 m1 m1 y1 _ ((hNd.below hV1).ai (by omega)); rw [hc] at h2; refine h2.mono ?_; rintro e v2 ⟨rfl, hv2⟩; clear h2; have hV2 := bnext' hV1 hv2))
  go_wp2
  go_ret
  exact ⟨b, c, rfl, hB1, by simpa using hC1, bnext' hW2 hV2⟩
end Go.Proofs.YtcdfckjlmifjiaaGreat
/-
  limbs.spellChunks: decimal digits, nine at a time.
-/
namespace Go.Proofs.YtcdfckjlmifjiaaGreat
open Go.RowKit
set_option linter.unusedVariables false
set_option linter.unusedSimpArgs false

end Go.Proofs.YtcdfckjlmifjiaaGreat
/-
  strings.TrimLeft by one sign; limbs.spell of fewer than 80 limbs.
-/
namespace Go.Proofs.YtcdfckjlmifjiaaGreat
open Go.RowKit
set_option linter.unusedVariables false
set_option linter.unusedSimpArgs false

end Go.Proofs.YtcdfckjlmifjiaaGreat
/-
  limbs.Text of fewer than 80 limbs.
-/
namespace Go.Proofs.YtcdfckjlmifjiaaGreat
open Go.RowKit
set_option linter.unusedVariables false
set_option linter.unusedSimpArgs false

end Go.Proofs.YtcdfckjlmifjiaaGreat
/-
  Texts of one digit.
-/
namespace Go.Proofs.YtcdfckjlmifjiaaGreat
open Go.RowKit
set_option linter.unusedVariables false
set_option linter.unusedSimpArgs false

end Go.Proofs.YtcdfckjlmifjiaaGreat
/-
  What begun calls, at its numbers.
-/
namespace Go.Proofs.YtcdfckjlmifjiaaGreat
open Go.RowKit
set_option linter.unusedVariables false
set_option linter.unusedSimpArgs false

/-- What stands behind the first lines of begun. -/
structure Bg (w wc : World) (ga g2 g3 : Nat) (sa : Bool) (pa : Option Addr) (na : Nat) (xa : List Int) (s3 : Bool) (p3 : Option Addr) (n3 : Nat) (x3 : List Int) (s4 : Bool) (p4 : Option Addr) (n4 : Nat) (x4 : List Int) : Prop where
  ba : Bx wc ga (.bool sa) (.slice pa na na)
  b2 : Bx wc g2 (.bool s3) (.slice p3 n3 n3)
  b3 : Bx wc g3 (.bool s4) (.slice p4 n4 n4)
  ia : NI 0 wc sa pa na xa (-7)
  i2 : NI 0 wc s3 p3 n3 x3 (-4)
  i3 : NI 0 wc s4 p4 n4 x4 1
  la : na ≤ 2
  l2 : n3 ≤ 8
  l3 : n4 ≤ 8
  bel : Below w.heap.size w wc

theorem Bg.later {w wc w' : World} {ga g2 g3 : Nat} {sa : Bool} {pa : Option Addr} {na : Nat} {xa : List Int} {s3 : Bool} {p3 : Option Addr} {n3 : Nat} {x3 : List Int} {s4 : Bool} {p4 : Option Addr} {n4 : Nat} {x4 : List Int} (h : Bg w wc ga g2 g3 sa pa na xa s3 p3 n3 x3 s4 p4 n4 x4) (hb : Below wc.heap.size wc w') : Bg w w' ga g2 g3 sa pa na xa s3 p3 n3 x3 s4 p4 n4 x4 :=
  ⟨h.ba.later hb, h.b2.later hb, h.b3.later hb, h.ia.below hb, h.i2.below hb, h.i3.below hb, h.la, h.l2, h.l3, h.bel.trans (hb.mono h.bel.size)⟩
end Go.Proofs.YtcdfckjlmifjiaaGreat
/-
  ashlarlaw2.begun is true.
-/
namespace Go.Proofs.YtcdfckjlmifjiaaGreat
open Go.RowKit
set_option linter.unusedVariables false
set_option linter.unusedSimpArgs false

/-- A rational in a variable of its own. -/
structure Vq (w : World) (g B : Nat) (s : Bool) (p : Option Addr) (n : Nat) (xs : List Int) (t : Bool) (q : Option Addr) (m : Nat) (ys : List Int) (r : Rat) : Prop where
  b : Bq w g (.bool s) (.slice p n n) (.bool t) (.slice q m m)
  r : NR B w s p n xs t q m ys r
  l : n ≤ 1
  l' : m ≤ 1
section
variable {w w' : World} {g B : Nat} {s : Bool} {p : Option Addr} {n : Nat} {xs : List Int} {t : Bool} {q : Option Addr} {m : Nat} {ys : List Int} {r : Rat}
theorem Vq.later (h : Vq w g B s p n xs t q m ys r) (hb : Below w.heap.size w w') : Vq w' g B s p n xs t q m ys r := ⟨h.b.later hb, h.r.below hb, h.l, h.l'⟩
theorem Vq.new (h : NR B w s p n xs t q m ys r) (h1 : r.num.natAbs ≤ 9) (h2 : r.den ≤ 9) (T : Nat) : Vq (w.alloc (.cells #[.bool s, .slice p n n, .bool t, .slice q m m] T)) w.heap.size B s p n xs t q m ys r := by
  have e : pw 1 = 4294967296 := by decide
  exact ⟨Bq.new _ _ _ _ _ rfl, h.below (bel_al (Below.refl _ _)), h.num.le (by omega), h.den.le (by omega)⟩
variable {B2 : Nat} {s2 : Bool} {p2 : Option Addr} {n2 : Nat} {x2 : List Int} {t2 : Bool} {q2 : Option Addr} {m2 : Nat} {y2 : List Int} {r2 : Rat}
end
end Go.Proofs.YtcdfckjlmifjiaaGreat
/-
  Rationals with a bound of their size: what is handed in (AQ), what is answered (NQ), and the contracts of package rat for them.
-/
namespace Go.Proofs.YtcdfckjlmifjiaaGreat
open Go.RowKit
set_option linter.unusedVariables false
set_option linter.unusedSimpArgs false

section
variable {w w' : World} {K Ka Kb : Nat} {s t sa ta sb tb : Bool} {p q pa qa pb qb : Option Addr} {n nc m mc na nac ma mac nb nbc mb mbc : Nat} {r ra rb : Rat} {B : Nat}
end
/-- A rational in a variable of its own. -/
structure Wq (w : World) (g K : Nat) (s : Bool) (p : Option Addr) (n nc : Nat) (t : Bool) (q : Option Addr) (m mc : Nat) (r : Rat) : Prop where
  b : Bq w g (.bool s) (.slice p n nc) (.bool t) (.slice q m mc)
  a : AQ w K s p n nc t q m mc r
theorem Wq.later {w w' : World} {g K : Nat} {s : Bool} {p : Option Addr} {n nc : Nat} {t : Bool} {q : Option Addr} {m mc : Nat} {r : Rat} (h : Wq w g K s p n nc t q m mc r) (hb : Below w.heap.size w w') : Wq w' g K s p n nc t q m mc r := ⟨h.b.later hb, h.a.below hb⟩
end Go.Proofs.YtcdfckjlmifjiaaGreat
/-
  rat.Sub, Norm, Bits for rationals with a bound of their size.
-/
namespace Go.Proofs.YtcdfckjlmifjiaaGreat
open Go.RowKit
set_option linter.unusedVariables false
set_option linter.unusedSimpArgs false

section
variable {w w' : World} {K Ka Kb : Nat} {s t sa ta sb tb : Bool} {p q pa qa pb qb : Option Addr} {n nc m mc na nac ma mac nb nbc mb mbc : Nat} {r ra rb : Rat} {B : Nat}
theorem qBits_q (ha : AQ w K s p n nc t q m mc r) (hK' : K < 80) :
    Calls Tryz.prog 56 #[.agg #[.bool s, .slice p n nc, .bool t, .slice q m mc]] w fun e w' => ∃ b c : Nat, e = .returned (.int .i64 ((b : Int) + c)) ∧ Hid (IB b (r.num.natAbs : Int)) ∧ Hid (IB c (r.den : Int)) ∧ Below w.heap.size w w' := by
  obtain ⟨xs, ys, h1, h2, h3, h4, rfl⟩ := ha
  exact qBits_any s t p q n nc m mc xs ys w h1 h2 (by omega) (by omega)
end
end Go.Proofs.YtcdfckjlmifjiaaGreat
/-
  ashlarref1.Bits, and that it is limbs.Bits' number.
-/
namespace Go.Proofs.YtcdfckjlmifjiaaGreat
open Go.RowKit
set_option linter.unusedVariables false
set_option linter.unusedSimpArgs false

set_option maxHeartbeats 1000000 in
/-- ashlarref1.Bits. -/
theorem rBits_any (s : Bool) (p : Option Addr) (n nc : Nat) (ds : List Int) (w : World) (hl : ds.length = n) (hs : n ≤ 1000000) (ht : tlen ds = n) (hX : Rd w p .i64 ds) (hU : U16 ds) :
    Calls Tryz.prog 31 #[.agg #[.bool s, .slice p n nc]] w fun e w' => ∃ b : Nat, e = .returned (.int .i64 (b : Int)) ∧ Hid (IB b (vd ds)) ∧ Below w.heap.size w w' := by
  rcases Nat.eq_zero_or_pos n with h0 | h0
  · subst h0
    obtain rfl : ds = [] := List.eq_nil_of_length_eq_zero hl
    go_enter Tryz.func31, Tryz.ntmps31
    go_wp2
    go_ret
    exact ⟨0, rfl, ⟨by decide, by decide, .inl rfl⟩, (Below.refl _ _).alloc (Nat.le_refl _) _⟩
  · obtain ⟨j, rfl⟩ : ∃ j, n = j + 1 := ⟨n - 1, by omega⟩
    have HL : Hid (ds.length = j + 1 ∧ tlen ds = j + 1) := ⟨hl, ht⟩
    obtain ⟨b, off, rfl, hc⟩ := (hX.alloc (.cells #[.bool s, .slice p (j + 1) nc] 62)) (by omega)
    have hcj := hc j (by omega)
    obtain ⟨b0, b1⟩ := hU j
    clear hc hl ht
    have hz : (((j + 1 : Nat) : Int) == 0) = false := beq_eq_false_iff_ne.2 (by omega)
    have hz' : ((j : Int) + 1 == 0) = false := beq_eq_false_iff_ne.2 (by omega)
    go_enter Tryz.func31, Tryz.ntmps31
    go_wp2
    go_loop [4, 5] (fun kv tv => ∃ (k : Nat) (t : Int), kv = .int .i64 k ∧ tv = .int .i64 t ∧ 0 ≤ t ∧ t < 65536 ∧ k ≤ 16 ∧ Hid (t = gx ds j / 2 ^ k ∧ (k = 0 ∨ (2 : Int) ^ (k - 1) ≤ gx ds j))) (fun _ tv => (intOf tv).toNat)
    case atStart => exact ⟨0, gx ds j, rfl, rfl, b0, b1, by decide, by simp, .inl rfl⟩
    case round =>
      obtain ⟨k, t, rfl, rfl, t0, t1, hk, H⟩ := hrel
      have hp : (0 : Int) < 2 ^ k := Int.pow_pos (by decide)
      have hdm := Int.emod_add_mul_ediv (gx ds j) (2 ^ k)
      have hm0 := Int.emod_nonneg (gx ds j) (show (2 : Int) ^ k ≠ 0 by omega)
      have hm1 := Int.emod_lt_of_pos (gx ds j) hp
      have HD : Hid (gx ds j % 2 ^ k + 2 ^ k * (gx ds j / 2 ^ k) = gx ds j ∧ 0 ≤ gx ds j % 2 ^ k ∧ gx ds j % 2 ^ k < 2 ^ k ∧ (0 : Int) < 2 ^ k) := ⟨hdm, hm0, hm1, hp⟩
      clear hp hdm hm0 hm1
      by_cases ht : 0 < t
      · have q1 : t.tdiv 2 = t / 2 := Int.tdiv_eq_ediv_of_nonneg t0
        have hge : Hid ((2 : Int) ^ k ≤ gx ds j) := by
          obtain ⟨e1, e2, e3, e4⟩ := HD.out
          have e5 := H.out.1
          have : (2 : Int) ^ k * 1 ≤ 2 ^ k * (gx ds j / 2 ^ k) := Int.mul_le_mul_of_nonneg_left (by omega) (by omega)
          show _ ≤ _
          omega
        have hk15 : k + 1 ≤ 16 := by
          rcases Nat.lt_or_ge k 16 with h | h
          · omega
          · exfalso
            have h2 := p2_mono h
            have h3 := hge.out
            have h4 : (2 : Int) ^ 16 = 65536 := rfl
            omega
        go_wp2
        go_round
        case rel =>
          refine ⟨k + 1, t / 2, by go_num, rfl, by omega, by omega, hk15, ?_, .inr (by rw [Nat.add_sub_cancel]; exact hge.out)⟩
          rw [H.out.1, Int.ediv_ediv_of_nonneg (Int.le_of_lt HD.out.2.2.2), Int.pow_succ]
        case measure => simp [intOf]; omega
      · obtain rfl : t = 0 := by omega
        go_wp2
        go_ret
        refine ⟨16 * j + k, by go_num, ?_, (Below.refl _ _).alloc (Nat.le_refl _) _⟩
        have hL := HL.out
        have hib : IB k (gx ds (ds.length - 1)) := by
          rw [hL.1, Nat.add_sub_cancel]
          refine ⟨b0, ?_, H.out.2⟩
          obtain ⟨e1, e2, e3, e4⟩ := HD.out
          have e5 := H.out.1
          rw [← e5, Int.mul_zero] at e1
          omega
        have := digits_ib hU (by omega) (by omega) hib
        rw [hL.1, Nat.add_sub_cancel] at this
        exact this
end Go.Proofs.YtcdfckjlmifjiaaGreat
/-
  ashlarref1.Neg, with values.
-/
namespace Go.Proofs.YtcdfckjlmifjiaaGreat
open Go.RowKit
set_option linter.unusedVariables false
set_option linter.unusedSimpArgs false

end Go.Proofs.YtcdfckjlmifjiaaGreat
/-
  ashlarref2.Neg, Bits.
-/
namespace Go.Proofs.YtcdfckjlmifjiaaGreat
open Go.RowKit
set_option linter.unusedVariables false
set_option linter.unusedSimpArgs false

theorem rBits_v {w : World} {N : Nat} {x : Int} {s : Bool} {p : Option Addr} {n : Nat} (h : RV w N x s p n) (hN : N ≤ 1000) :
    Calls Tryz.prog 31 #[.agg #[.bool s, .slice p n n]] w fun e w' => ∃ b : Nat, e = .returned (.int .i64 (b : Int)) ∧ b ≤ 16 * N ∧ Hid (IB b (x.natAbs : Int)) ∧ Below w.heap.size w w' := by
  have hbd := h.bd
  obtain ⟨ds, h1, rfl, h3⟩ := h
  have a := vd_nonneg h1.u
  have e : ((rval s ds).natAbs : Int) = vd ds := by unfold rval; split <;> omega
  rw [e] at hbd ⊢
  refine (rBits_any s p n n ds w h1.len (by omega) h1.nrm h1.rd h1.u).mono ?_
  rintro e w' ⟨b, g1, g2, g3⟩
  refine ⟨b, g1, ?_, g2, g3⟩
  have hp : pd N = 2 ^ (16 * N) := by rw [pd, show (65536 : Int) = 2 ^ 16 from rfl, ← Int.pow_mul]
  rcases Nat.lt_or_ge (16 * N) b with hb | hb
  · rcases g2.out.2.2 with k | k
    · omega
    · have := p2_mono (show 16 * N ≤ b - 1 by omega)
      omega
  · exact hb
set_option maxRecDepth 100000 in
set_option maxHeartbeats 4000000 in
/-- ashlarref2.Bits. -/
theorem rBits_q {w : World} {K : Nat} {s t : Bool} {p q : Option Addr} {n m : Nat} {r : Rat} (h : MQ w K s p n t q m r) (hK : K ≤ 400) :
    Calls Tryz.prog 60 #[.agg #[.bool s, .slice p n n, .bool t, .slice q m m]] w fun e w' => ∃ b c : Nat, e = .returned (.int .i64 ((b : Int) + c)) ∧ Hid (IB b (r.num.natAbs : Int)) ∧ Hid (IB c (r.den : Int)) ∧ Below w.heap.size w w' := by
  go_enter Tryz.func60, Tryz.ntmps60
  go_wp2_with fail
  have hA0 : Bq (w.alloc (.cells #[.bool s, .slice p n n, .bool t, .slice q m m] 64)) w.heap.size (.bool s) (.slice p n n) (.bool t) (.slice q m m) := Bq.new _ _ _ _ _ rfl
  have hW : Below w.heap.size w (w.alloc (.cells #[.bool s, .slice p n n, .bool t, .slice q m m] 64)) := (Below.refl _ _).alloc (Nat.le_refl _) _
  generalize w.alloc (.cells #[.bool s, .slice p n n, .bool t, .slice q m m] 64) = W at *
  have k := h.below hW
  have nA : Hid (w.heap.size ≠ w.heap.size + 1) := (by omega : w.heap.size ≠ w.heap.size + 1)
  obtain ⟨a0, a1, a2, a3, -, -, -, -⟩ := hA0
  go_region_held3 (fun w' => w'.cell? ⟨w.heap.size, 0, none⟩ = some (.bool s) ∧ w'.cell? ⟨w.heap.size, 1, none⟩ = some (.slice p n n) ∧ w'.cell? ⟨w.heap.size, 2, none⟩ = some (.bool t) ∧ w'.cell? ⟨w.heap.size, 3, none⟩ = some (.slice q m m)) (first | with_reducible exact ⟨a0, a1, a2, a3⟩ | with_reducible exact keepc4 ⟨a0, a1, a2, a3⟩ hV1 | with_reducible exact keepc4 ⟨a0, a1, a2, a3⟩ hV2 | with_reducible exact keep4s ⟨a0, a1, a2, a3⟩ hV2 nA | (simp [go_sem, *]; done))
    (first
      | (go_at_call_of 31 (Value.agg #[.bool s, .slice p n n]); refine (rBits_v k.num.drew (by omega)).mono ?_; rintro e v1 ⟨b, rfl, lb, hb, hv1⟩; have hV1 := undrew hv1)
      | (go_at_call_of 31 (Value.agg #[.bool t, .slice q m m]); refine (rBits_v (k.den.below hV1) (by omega)).mono ?_; rintro e v2 ⟨c, rfl, lc, hc, hv2⟩; have hV2 := bnext' hV1 hv2; have v0 : IntKind.i64.wrap ((b : Int) + (c : Int)) = (b : Int) + (c : Int) := (by rw [IntKind.wrap_i64]; omega)))
  clear a0 a1 a2 a3
  go_wp2
  go_ret
  exact ⟨b, c, rfl, hb, hc, bnext' hW hV2⟩
end Go.Proofs.YtcdfckjlmifjiaaGreat
