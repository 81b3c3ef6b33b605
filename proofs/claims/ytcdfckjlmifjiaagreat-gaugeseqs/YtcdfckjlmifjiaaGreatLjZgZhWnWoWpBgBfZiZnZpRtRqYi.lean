/-
  What holds behind each part of a region 'v := f(g(a, b), h(c, d))', three calls that answer numbers and a variable, in whatever order its operations come up.
-/
import Derived.Test.YtcdfckjlmifjiaaGreatWiWjWvZeZfLh
import Derived.Test.YtcdfckjlmifjiaaGreatRoUcVbDaVcDuOi
import Derived.Test.YtcdfckjlmifjiaaGreatOnUdLnWrIbWgUeUfUgAb
import Derived.Test.YtcdfckjlmifjiaaGreatBeRdReRxBbCv
import Derived.Test.YtcdfckjlmifjiaaGreatNiUaOwPnWk
import Derived.Test.YtcdfckjlmifjiaaGreatPlMmKpOr
import Derived.Test.YtcdfckjlmifjiaaGreatWlBxRaWhWm
import Derived.Deep.DeepCutAuto
import Derived.Test.YtcdfckjlmifjiaaGreatYcZsRmRpYd
import Derived.Test.YtcdfckjlmifjiaaGreatRfRhCqRrRwNjUbVaVg
import Derived.Test.YtcdfckjlmifjiaaGreatRkRnGcGd
namespace Go.Proofs.YtcdfckjlmifjiaaGreat
open Go.RowKit
set_option linter.unusedVariables false
set_option linter.unusedSimpArgs false

theorem NI.ltn {B : Nat} {w : World} {s : Bool} {p : Option Addr} {n : Nat} {xs : List Int} {z : Int} (h : NI B w s p n xs z) : 0 < n → ∀ x, p = some x → x.block < w.heap.size := fun hn x hx => by
  obtain ⟨b, off, hp, hlt⟩ := h.rd.lt (by rw [h.len]; exact hn)
  rw [hp] at hx
  cases hx
  exact hlt
theorem NI.setOff {B : Nat} {w : World} {s : Bool} {p : Option Addr} {n : Nat} {xs : List Int} {z : Int} (h : NI B w s p n xs z) {a : Addr} (hne : 0 < n → Off a.block p) (v : Value) : NI B (w.setCell a v) s p n xs z := by
  refine ⟨h.len, ?_, h.u, h.nrm, h.sg, h.pn, h.v, h.fr, h.fz.set a v⟩
  intro hx
  exact h.rd.set_other a v (hne (by rw [← h.len]; exact hx)) hx
/-- One number is answered. -/
def AN (B : Nat) (w : World) (N : Nat) (V : Int) (r : Value) (s : Bool) (p : Option Addr) (n : Nat) (z : List Int) : Prop :=
  r = .agg #[.bool s, .slice p n n] ∧ NI B w s p n z V ∧ n ≤ N
theorem AN.later {B N : Nat} {w w' : World} {V : Int} {r : Value} {s : Bool} {p : Option Addr} {n : Nat} {z : List Int} (h : AN B w N V r s p n z) (hb : Below w.heap.size w w') : AN B w' N V r s p n z := ⟨h.1, h.2.1.below hb, h.2.2⟩
theorem AN.store {B N : Nat} {w : World} {V : Int} {r : Value} {s : Bool} {p : Option Addr} {n : Nat} {z : List Int} (h : AN B w N V r s p n z) {g : Nat} (hg : 0 < n → ∀ q, p = some q → q.block ≠ g) (u v : Value) : AN B ((w.setCell ⟨g, 0, none⟩ u).setCell ⟨g, 1, none⟩ v) N V r s p n z :=
  ⟨h.1, (h.2.1.setOff (a := ⟨g, 0, none⟩) (fun h0 q hq => hg h0 q hq) _).setOff (a := ⟨g, 1, none⟩) (fun h0 q hq => hg h0 q hq) _, h.2.2⟩
/-- Behind each part of the region. -/
structure G7 (wc w : World) (V1 V2 V3 : Int) (N1 N2 N3 : Nat) (c1 c2 c3 a s : Bool) (r1 r2 r3 x : Value) (t1 : Bool) (p1 : Option Addr) (n1 : Nat) (z1 : List Int) (t2 : Bool) (p2 : Option Addr) (n2 : Nat) (z2 : List Int) (t3 : Bool) (p3 : Option Addr) (n3 : Nat) (z3 : List Int) (g : Nat) : Prop where
  bel : Below wc.heap.size wc w
  M1 : c1 = true → s = false → AN wc.heap.size w N1 V1 r1 t1 p1 n1 z1
  M2 : c2 = true → s = false → AN wc.heap.size w N2 V2 r2 t2 p2 n2 z2
  M3 : c3 = true → AN wc.heap.size w N3 V3 r3 t3 p3 n3 z3
  X : a = true → XX wc.heap.size w x g s r3
  d : c3 = true → a = true → 0 < n3 → ∀ q, p3 = some q → q.block ≠ g
  o : s = true → c3 = true
  q : s = true → a = true
section
variable {wc w w1 : World} {V1 V2 V3 : Int} {N1 N2 N3 : Nat} {c1 c2 c3 a s : Bool} {r1 r2 r3 x : Value} {t1 : Bool} {p1 : Option Addr} {n1 : Nat} {z1 : List Int} {t2 : Bool} {p2 : Option Addr} {n2 : Nat} {z2 : List Int} {t3 : Bool} {p3 : Option Addr} {n3 : Nat} {z3 : List Int} {g : Nat}
theorem G7.call1 (h : G7 wc w V1 V2 V3 N1 N2 N3 c1 c2 c3 a s r1 r2 r3 x t1 p1 n1 z1 t2 p2 n2 z2 t3 p3 n3 z3 g) {t : Bool} {p : Option Addr} {n : Nat} {z : List Int} (hb : Below w.heap.size w w1) (hr : NI w.heap.size w1 t p n z V1) (hn : n ≤ N1) :
    G7 wc w1 V1 V2 V3 N1 N2 N3 true c2 c3 a s (.agg #[.bool t, .slice p n n]) r2 r3 x t p n z t2 p2 n2 z2 t3 p3 n3 z3 g :=
  ⟨h.bel.trans (hb.mono h.bel.size), fun _ _ => ⟨rfl, hr.mono h.bel.size, hn⟩, fun k l => (h.M2 k l).later hb, fun k => (h.M3 k).later hb, fun k => (h.X k).later hb, h.d, h.o, h.q⟩
theorem G7.call2 (h : G7 wc w V1 V2 V3 N1 N2 N3 c1 c2 c3 a s r1 r2 r3 x t1 p1 n1 z1 t2 p2 n2 z2 t3 p3 n3 z3 g) {t : Bool} {p : Option Addr} {n : Nat} {z : List Int} (hb : Below w.heap.size w w1) (hr : NI w.heap.size w1 t p n z V2) (hn : n ≤ N2) :
    G7 wc w1 V1 V2 V3 N1 N2 N3 c1 true c3 a s r1 (.agg #[.bool t, .slice p n n]) r3 x t1 p1 n1 z1 t p n z t3 p3 n3 z3 g :=
  ⟨h.bel.trans (hb.mono h.bel.size), fun k l => (h.M1 k l).later hb, fun _ _ => ⟨rfl, hr.mono h.bel.size, hn⟩, fun k => (h.M3 k).later hb, fun k => (h.X k).later hb, h.d, h.o, h.q⟩
theorem G7.call3 (h : G7 wc w V1 V2 V3 N1 N2 N3 c1 c2 c3 a s r1 r2 r3 x t1 p1 n1 z1 t2 p2 n2 z2 t3 p3 n3 z3 g) (hc : ¬ c3 = true) {t : Bool} {p : Option Addr} {n : Nat} {z : List Int} (hb : Below w.heap.size w w1) (hr : NI w.heap.size w1 t p n z V3) (hn : n ≤ N3) :
    G7 wc w1 V1 V2 V3 N1 N2 N3 c1 c2 true a s r1 r2 (.agg #[.bool t, .slice p n n]) x t1 p1 n1 z1 t2 p2 n2 z2 t p n z g :=
  ⟨h.bel.trans (hb.mono h.bel.size), fun k l => (h.M1 k l).later hb, fun k l => (h.M2 k l).later hb, fun _ => ⟨rfl, hr.mono h.bel.size, hn⟩, fun k => ((h.X k).later hb).res (fun e => hc (h.o e)), fun _ k h0 q hq e => by have h1 := (h.X k).lt; have h2 := hr.fr q hq; omega, fun _ => rfl, h.q⟩
theorem G7.alloc (h : G7 wc w V1 V2 V3 N1 N2 N3 c1 c2 c3 a s r1 r2 r3 x t1 p1 n1 z1 t2 p2 n2 z2 t3 p3 n3 z3 g) (hs : ¬ a = true) (u v : Value) (ty : Nat) :
    G7 wc (w.alloc (.cells #[u, v] ty)) V1 V2 V3 N1 N2 N3 c1 c2 c3 true s r1 r2 r3 (.pointer (some ⟨w.heap.size, 0, none⟩)) t1 p1 n1 z1 t2 p2 n2 z2 t3 p3 n3 z3 w.heap.size :=
  ⟨h.bel.alloc h.bel.size _, fun k l => (h.M1 k l).later (bel_al (Below.refl _ _)), fun k l => (h.M2 k l).later (bel_al (Below.refl _ _)), fun k => (h.M3 k).later (bel_al (Below.refl _ _)), fun _ => ⟨rfl, h.bel.size, u, v, Bx.new _ _ _ rfl, fun e => absurd (h.q e) hs⟩, fun k _ h0 q hq => Nat.ne_of_lt ((h.M3 k).2.1.ltn h0 q hq), h.o, fun _ => rfl⟩
theorem G7.store (h : G7 wc w V1 V2 V3 N1 N2 N3 c1 c2 c3 a s r1 r2 r3 x t1 p1 n1 z1 t2 p2 n2 z2 t3 p3 n3 z3 g) (ha : a = true) (hc : c3 = true) :
    G7 wc ((w.setCell ⟨g, 0, none⟩ (.bool t3)).setCell ⟨g, 1, none⟩ (.slice p3 n3 n3)) V1 V2 V3 N1 N2 N3 c1 c2 c3 a true r1 r2 r3 x t1 p1 n1 z1 t2 p2 n2 z2 t3 p3 n3 z3 g :=
  ⟨bset2 h.bel (h.X ha).2.1 _ _, nofun, nofun, fun k => (h.M3 k).store (h.d k ha) _ _, fun k => by have h1 := (h.X k).own (.bool t3) (.slice p3 n3 n3); rw [(h.M3 hc).1]; exact h1, h.d, fun _ => hc, fun _ => ha⟩
end
end Go.Proofs.YtcdfckjlmifjiaaGreat
/-
  rat.combine, Add, Sub.
-/
namespace Go.Proofs.YtcdfckjlmifjiaaGreat
open Go.RowKit
set_option linter.unusedVariables false
set_option linter.unusedSimpArgs false

theorem NI.abs_lt {B : Nat} {w : World} {s : Bool} {p : Option Addr} {n : Nat} {xs : List Int} {z : Int} (h : NI B w s p n xs z) {k : Nat} (hk : n ≤ k) : (z.natAbs : Int) < pw k := by
  have h1 := val_nonneg h.u
  have h2 := val_lt_tlen h.u
  rw [h.nrm] at h2
  have h3 := pw_mono hk
  rw [← h.v, ival]
  split <;> omega
end Go.Proofs.YtcdfckjlmifjiaaGreat
/-
  rat.Of, Whole, Bits, Text.
-/
namespace Go.Proofs.YtcdfckjlmifjiaaGreat
open Go.RowKit
set_option linter.unusedVariables false
set_option linter.unusedSimpArgs false

theorem whole_iff (a b q r : Int) (hb : b ≠ 0) (h : q * b + r = a) (h0 : 0 ≤ r) (h1 : r < (b.natAbs : Int)) : (r = 0 ∧ (Rat.divInt a b).den = 1 ∧ (Rat.divInt a b).num = q) ∨ (r ≠ 0 ∧ (Rat.divInt a b).den ≠ 1) := by
  obtain ⟨g, -, hg, e1, e2⟩ := rat_low a b hb
  by_cases hr : r = 0
  · left
    have h2 : Rat.divInt a b = Rat.divInt q 1 := by
      rw [Rat.divInt_eq_divInt_iff hb (by decide)]
      omega
    rw [h2]
    exact ⟨hr, by rw [Rat.den_divInt]; simp, by rw [Rat.num_divInt]; simp⟩
  · right
    refine ⟨hr, fun hd => ?_⟩
    rw [hd] at e2
    have e3 : a = (Rat.divInt a b).num * b := by
      have e4 : b = g := by omega
      conv => lhs; rw [e1]
      rw [← e4]
    exact hr (ediv_one a q b r _ h.symm h0 h1 e3).2
theorem NI.bits {B : Nat} {w : World} {s : Bool} {p : Option Addr} {n : Nat} {xs : List Int} {z : Int} (h : NI B w s p n xs z) (hn : n ≤ 100) : ∃ b : Nat, nbits xs = (b : Int) ∧ IB b (z.natAbs : Int) ∧ b ≤ 3200 := by
  obtain ⟨b, h1, h2⟩ := nbits_ib h.u
  have hv : (z.natAbs : Int) = val xs := by
    have := val_nonneg h.u
    rw [← h.v, ival]
    split <;> omega
  refine ⟨b, h1, by rw [hv]; exact h2, ?_⟩
  rcases Nat.lt_or_ge 3200 b with hc | hc
  · exfalso
    have h3 := h2.2.2
    rcases h3 with h3 | h3
    · omega
    · have h4 := p2_mono (show 3200 ≤ b - 1 by omega)
      have h5 := val_lt_tlen h.u
      rw [h.nrm, pw_p2] at h5
      have h6 := p2_mono (show 32 * n ≤ 3200 by omega)
      generalize (2 : Int) ^ 3200 = X at *
      generalize (2 : Int) ^ (b - 1) = Y at *
      generalize (2 : Int) ^ (32 * n) = Z at *
      omega
  · exact hc
/-- What Whole answers. -/
def WhPost (Q : Rat) (w : World) (e : Ending) (w' : World) : Prop :=
  ∃ s p n xs, ((Q.den = 1 ∧ e = .returned (.tuple #[.agg #[.bool s, .slice p n n], .bool true]) ∧ NI w.heap.size w' s p n xs Q.num) ∨ (Q.den ≠ 1 ∧ e = .returned (.tuple #[.agg #[.bool false, .slice none 0 0], .bool false]))) ∧ Below w.heap.size w w'
set_option maxRecDepth 100000 in
set_option maxHeartbeats 2000000 in
/-- rat.Bits. -/
theorem qBits_any (s t : Bool) (p q : Option Addr) (n nc m mc : Nat) (xs ys : List Int) (w : World) (hA : AI w p n nc xs) (hB : AI w q m mc ys) (hn : n < 80) (hm : m < 80) :
    Calls Tryz.prog 56 #[.agg #[.bool s, .slice p n nc, .bool t, .slice q m mc]] w fun e w' => ∃ b c : Nat, e = .returned (.int .i64 ((b : Int) + c)) ∧ IB b ((Rat.divInt (ival s xs) (ival t ys)).num.natAbs : Int) ∧ IB c ((Rat.divInt (ival s xs) (ival t ys)).den : Int) ∧ Below w.heap.size w w' := by
  have hNo := fun w' h1 h2 => Norm_any s t p q n nc m mc xs ys w' h1 h2 (by omega) (by omega)
  have hbd := rat_bd (K := 80) (a := ival s xs) (b := ival t ys) (by have h1 := hA.lt s; have h2 := pw_mono (show n ≤ 80 by omega); omega) (by have h1 := hB.lt t; have h2 := pw_mono (show m ≤ 80 by omega); omega) (by decide)
  have HBD := (show Hid _ from hbd)
  clear hbd
  generalize Rat.divInt (ival s xs) (ival t ys) = Q at *
  go_enter Tryz.func56, Tryz.ntmps56
  go_wp2_with fail
  have hA0 : Bq (w.alloc (.cells #[.bool s, .slice p n nc, .bool t, .slice q m mc] 56)) w.heap.size (.bool s) (.slice p n nc) (.bool t) (.slice q m mc) := Bq.new _ _ _ _ _ rfl
  have hW : Below w.heap.size w (w.alloc (.cells #[.bool s, .slice p n nc, .bool t, .slice q m mc] 56)) := (Below.refl _ _).alloc (Nat.le_refl _) _
  generalize w.alloc (.cells #[.bool s, .slice p n nc, .bool t, .slice q m mc] 56) = W at *
  refine (hNo W (hA.below hW) (hB.below hW)).mono ?_
  rintro e w1 ⟨s1, p1, n1, x1, t1, q1, m1, y1, rfl, hN1, hb1⟩
  clear hNo
  have sR := hA0.lt
  have hBa := Bq_set (u := .bool s1) (v := .slice p1 n1 n1) (x := .bool t1) (y := .slice q1 m1 m1) (hA0.later hb1)
  have hNn := hN1.num.set4 sR (.bool s1) (.slice p1 n1 n1) (.bool t1) (.slice q1 m1 m1)
  have hNd := hN1.den.set4 sR (.bool s1) (.slice p1 n1 n1) (.bool t1) (.slice q1 m1 m1)
  have hW2 := bset4 (g := w.heap.size) (bnext' hW hb1) (Nat.le_refl _) (.bool s1) (.slice p1 n1 n1) (.bool t1) (.slice q1 m1 m1)
  obtain ⟨a0, a1, a2, a3, f0, f1, f2, f3⟩ := hA0.later hb1
  obtain ⟨c0, c1, c2, c3, -, -, -, -⟩ := hBa
  clear hA0 hN1
  have ln := hNn.le HBD.out.1
  have ld := hNd.le HBD.out.2
  clear HBD
  go_wp2_with fail
  generalize (((w1.setCell ⟨w.heap.size, 0, none⟩ (.bool s1)).setCell ⟨w.heap.size, 1, none⟩ (.slice p1 n1 n1)).setCell ⟨w.heap.size, 2, none⟩ (.bool t1)).setCell ⟨w.heap.size, 3, none⟩ (.slice q1 m1 m1) = W2 at *
  obtain ⟨b, hb, hB1, lb⟩ := hNn.bits (by omega)
  obtain ⟨c, hc, hC1, lc⟩ := hNd.bits (by omega)
  have v0 : IntKind.i64.wrap ((b : Int) + (c : Int)) = (b : Int) + (c : Int) := by rw [IntKind.wrap_i64]; omega
  go_region_held3 (fun w' => w'.cell? ⟨w.heap.size, 0, none⟩ = some (.bool s1) ∧ w'.cell? ⟨w.heap.size, 1, none⟩ = some (.slice p1 n1 n1) ∧ w'.cell? ⟨w.heap.size, 2, none⟩ = some (.bool t1) ∧ w'.cell? ⟨w.heap.size, 3, none⟩ = some (.slice q1 m1 m1)) (first | with_reducible exact ⟨c0, c1, c2, c3⟩ | with_reducible exact keepc4 ⟨c0, c1, c2, c3⟩ hV1 | with_reducible exact keepc4 ⟨c0, c1, c2, c3⟩ hV2 | (simp [go_sem, *]; done))
    (first
      | (go_at_call_of 48 (Value.agg #[.bool s1, .slice p1 n1 n1]); have h1 := Bits_any s1 p1 n1 n1 x1 W2.drew (hNn.drew.ai (by omega)); rw [hb] at h1; refine h1.mono ?_; rintro e v1 ⟨rfl, hv1⟩; clear h1; have hV1 := undrew hv1)
      | (go_at_call_of 48 (Value.agg #[.bool t1, .slice q1 m1 m1]); have h2 := Bits_any t1 q1 m1 m1 y1 _ ((hNd.below hV1).ai (by omega)); rw [hc] at h2; refine h2.mono ?_; rintro e v2 ⟨rfl, hv2⟩; clear h2; have hV2 := bnext' hV1 hv2))
  go_wp2
  go_ret
  exact ⟨b, c, rfl, hB1, by simpa using hC1, bnext' hW2 hV2⟩
/-- The text of a rational, of its parts' texts. -/
def tjoin (d : Nat) (t1 t2 : ByteArray) : ByteArray := if d = 1 then t1 else t1 ++ ⟨#[47]⟩ ++ t2
end Go.Proofs.YtcdfckjlmifjiaaGreat
/-
  limbs.spellChunks: decimal digits, nine at a time.
-/
namespace Go.Proofs.YtcdfckjlmifjiaaGreat
open Go.RowKit
set_option linter.unusedVariables false
set_option linter.unusedSimpArgs false

/-- The digit of V at the place of 10^i, as a byte. -/
def dgt (V : Int) (i : Nat) : Int := 48 + V / 10 ^ i % 10
theorem dgt_bd (V : Int) (i : Nat) : 48 ≤ dgt V i ∧ dgt V i ≤ 57 := by unfold dgt; omega
theorem dgt_low (A : Int) (i : Nat) (h : i < 9) : A % 1000000000 / 10 ^ i % 10 = A / 10 ^ i % 10 := by
  have : i = 0 ∨ i = 1 ∨ i = 2 ∨ i = 3 ∨ i = 4 ∨ i = 5 ∨ i = 6 ∨ i = 7 ∨ i = 8 := by omega
  rcases this with rfl | rfl | rfl | rfl | rfl | rfl | rfl | rfl | rfl <;> simp only [Int.pow_succ, Int.pow_zero] <;> omega
theorem div_pow_add (V : Int) (a b : Nat) : V / 10 ^ a / 10 ^ b = V / 10 ^ (a + b) := by
  rw [Int.pow_add]; exact Int.ediv_ediv_of_nonneg (Int.pow_nonneg (by decide))

theorem dgt_at (V A r dd : Int) (i K k p : Nat) (hA : A = V / 10 ^ (9 * (K - k))) (hr : r = A % 1000000000) (hd : dd = r / 10 ^ i) (hi : i < 9) (hk : k ≤ K) (hp : p + (i + 1) = 9 * k) : 48 + dd % 10 = dgt V (9 * K - 1 - p) := by
  rw [hd, hr, dgt_low A i hi, hA, div_pow_add, dgt, show 9 * (K - k) + i = 9 * K - 1 - p by omega]

end Go.Proofs.YtcdfckjlmifjiaaGreat
/-
  strings.TrimLeft by one sign; limbs.spell of fewer than 80 limbs.
-/
namespace Go.Proofs.YtcdfckjlmifjiaaGreat
open Go.RowKit
set_option linter.unusedVariables false
set_option linter.unusedSimpArgs false

/-- Without the noughts ahead. -/
def strip (l : List UInt8) : List UInt8 := l.dropWhile (· == 48)
theorem extract_one (c : UInt8) (r : List UInt8) : (⟨(c :: r).toArray⟩ : ByteArray).extract 1 (r.length + 1) = ⟨r.toArray⟩ := by
  rw [ByteArray.extract_mk]
  simp
theorem strip_head (r : List UInt8) : strip (48 :: r) = strip r := by simp [strip]
theorem strip_other (c : UInt8) (r : List UInt8) (h : c ≠ 48) : strip (c :: r) = c :: r := by simp [strip, h]


theorem info_sl : (Tryz.prog.info? 48).map (fun i => (i.zero, i.size, i.bytes)) = some (some (.slice none 0 0), 1, 24) := by kernel_rfl

theorem ten_sq (L : Nat) (h : 1 ≤ L) : (10 : Int) ^ (9 * 2 ^ (L - 1)) * 10 ^ (9 * 2 ^ (L - 1)) = 10 ^ (9 * 2 ^ L) := by
  rw [← Int.pow_add]
  congr 1
  obtain ⟨m, rfl⟩ : ∃ m, L = m + 1 := ⟨L - 1, by omega⟩
  rw [Nat.add_sub_cancel, Nat.pow_succ]
  omega
theorem ten_big : (4294967296 : Nat) ^ 40 ≤ (10 ^ 144) ^ 4 := by decide +kernel
theorem ten_four (a b : Nat) (h : a * 4 ≤ b) : ((10 : Nat) ^ a) ^ 4 ≤ 10 ^ b := by rw [← Nat.pow_mul]; exact Nat.pow_le_pow_right (by decide) h
theorem pow_few {L k : Nat} (hk : k ≤ 40) (h : (10 : Int) ^ (9 * 2 ^ (L - 1)) < pw k) : L ≤ 6 := by
  rcases Nat.lt_or_ge 6 L with hL | hL
  · exfalso
    have h1 : pw k ≤ pw 40 := pw_mono hk
    have h2 : 64 ≤ 2 ^ (L - 1) := by
      have := Nat.pow_le_pow_right (n := 2) (by decide) (show 6 ≤ L - 1 by omega)
      simpa using this
    have h3 := ten_four 144 (9 * 2 ^ (L - 1)) (by omega)
    have h4 : pw 40 = ((4294967296 ^ 40 : Nat) : Int) := by unfold pw; rw [Int.natCast_pow]; rfl
    have h5 : ((10 ^ (9 * 2 ^ (L - 1)) : Nat) : Int) = (10 : Int) ^ (9 * 2 ^ (L - 1)) := by rw [Int.natCast_pow]; rfl
    rw [h4] at h1
    rw [← h5] at h
    have h6 := Nat.le_trans ten_big h3
    omega
  · exact hL
theorem chunk_enough {ps : List Int} {k n L : Nat} (hU : U32 ps) (hk : tlen ps = k) (hk0 : 0 < k) (hv : val ps = 10 ^ (9 * 2 ^ (L - 1))) (hL : 1 ≤ L) (hn : n + 1 < 2 * k) : pw n ≤ 10 ^ (9 * 2 ^ L) := by
  have h1 := val_pos_of_top hU (by omega)
  rw [hk] at h1
  rw [← ten_sq L hL, ← hv]
  have h2 : pw n ≤ pw ((k - 1) + (k - 1)) := pw_mono (by omega)
  rw [pw_add] at h2
  have h3 := pw_pos (k - 1)
  have h4 := Int.mul_le_mul h1 h1 (Int.le_of_lt h3) (by omega)
  omega

/-- What chunkPowers answers. -/
def CpPost (n : Nat) (w : World) (e : Ending) (w' : World) : Prop := ∃ pp L Lc, e = .returned (.slice pp L Lc) ∧ 1 ≤ L ∧ L ≤ 7 ∧ pw n ≤ 10 ^ (9 * 2 ^ L) ∧ Below w.heap.size w w'

end Go.Proofs.YtcdfckjlmifjiaaGreat
/-
  limbs.Text of fewer than 80 limbs.
-/
namespace Go.Proofs.YtcdfckjlmifjiaaGreat
open Go.RowKit
set_option linter.unusedVariables false
set_option linter.unusedSimpArgs false

theorem info_u8 : (Tryz.prog.info? 5).map (fun i => (i.zero, i.size, i.bytes)) = some (some (.int .u8 0), 1, 1) := by kernel_rfl
/-- Bytes out of integers. -/
def bys (D : List Int) : List UInt8 := D.map fun n => UInt8.ofNat n.toNat
theorem bys_fold (D : List Int) (a : List UInt8) : D.foldl (fun (r : ByteArray) n => r.push (UInt8.ofNat n.toNat)) ⟨a.toArray⟩ = ⟨(a ++ bys D).toArray⟩ := by
  induction D generalizing a with
  | nil => simp [bys]
  | cons x r ih =>
    have e : (⟨a.toArray⟩ : ByteArray).push (UInt8.ofNat x.toNat) = ⟨(a ++ [UInt8.ofNat x.toNat]).toArray⟩ := by simp [ByteArray.push]
    rw [List.foldl_cons, e, ih]
    simp [bys]
/-- What Text answers of a number that is not 0. -/
def TextPost (s : Bool) (V : Int) (w : World) (e : Ending) (w' : World) : Prop :=
  ∃ N D, V < 10 ^ N ∧ D.length = N ∧ (∀ j, j < N → gx D j = dgt V (N - 1 - j)) ∧ e = .returned (.string ⟨((if s then [45] else []) ++ strip (bys D)).toArray⟩) ∧ Below w.heap.size w w'

end Go.Proofs.YtcdfckjlmifjiaaGreat
/-
  Texts of one digit.
-/
namespace Go.Proofs.YtcdfckjlmifjiaaGreat
open Go.RowKit
set_option linter.unusedVariables false
set_option linter.unusedSimpArgs false

theorem dgt_zero (d : Int) (k : Nat) (h0 : 0 ≤ d) (h : d < 10) (hk : 0 < k) : dgt d k = 48 := by
  obtain ⟨m, rfl⟩ : ∃ m, k = m + 1 := ⟨k - 1, by omega⟩
  have hp : (0 : Int) < 10 ^ m := Int.pow_pos (by decide)
  unfold dgt
  rw [Int.ediv_eq_zero_of_lt h0 (by rw [Int.pow_succ]; omega)]
  rfl
/-- The text of one digit. -/
theorem text_digit (d : Int) (N : Nat) (D : List Int) (h0 : 0 < d) (h : d < 10) (hN : d < 10 ^ N) (hl : D.length = N) (hD : ∀ j, j < N → gx D j = dgt d (N - 1 - j)) : strip (bys D) = [UInt8.ofNat (48 + d).toNat] := by
  rcases Nat.eq_zero_or_pos N with h1 | h1
  · subst h1; simp at hN; omega
  · have e : D = List.replicate (N - 1) 48 ++ [48 + d] := by
      apply gx_ext
      · simp; omega
      · intro j hj
        rw [hD j (by omega)]
        by_cases hj' : j < N - 1
        · rw [dgt_zero d _ (by omega) h (by omega), gx_append_left _ _ _ (by simpa using hj')]
          simp [gx, hj']
        · have : j = N - 1 := by omega
          subst this
          rw [gx_append_right _ _ _ (by simp)]
          simp only [List.length_replicate, Nat.sub_self, gx_zero, dgt, Int.pow_zero]
          omega
    rw [e, bys, List.map_append, strip]
    have hne : (UInt8.ofNat (48 + d).toNat == 48) = false := by
      have : d = 1 ∨ d = 2 ∨ d = 3 ∨ d = 4 ∨ d = 5 ∨ d = 6 ∨ d = 7 ∨ d = 8 ∨ d = 9 := by omega
      rcases this with rfl | rfl | rfl | rfl | rfl | rfl | rfl | rfl | rfl <;> decide
    have hr : ∀ m, List.dropWhile (· == (48 : UInt8)) (List.map (fun n : Int => UInt8.ofNat n.toNat) (List.replicate m 48) ++ [UInt8.ofNat (48 + d).toNat]) = [UInt8.ofNat (48 + d).toNat] := by
      intro m
      induction m with
      | zero => simp [hne]
      | succ m ih =>
        rw [List.replicate_succ, List.map_cons, List.cons_append, List.dropWhile_cons_of_pos (by decide)]
        exact ih
    simpa using hr (N - 1)
end Go.Proofs.YtcdfckjlmifjiaaGreat
/-
  What begun calls, at its numbers.
-/
namespace Go.Proofs.YtcdfckjlmifjiaaGreat
open Go.RowKit
set_option linter.unusedVariables false
set_option linter.unusedSimpArgs false

/-- Quo of -7 by 2. -/
theorem quo72 {B1 B2 : Nat} {w : World} {sa s2 : Bool} {pa p2 : Option Addr} {na n2 : Nat} {xa x2 : List Int} (hA : NI B1 w sa pa na xa (-7)) (hna : na ≤ 2) (hB : NI B2 w s2 p2 n2 x2 2) (hn2 : n2 ≤ 2) :
    Calls Tryz.prog 101 #[.agg #[.bool sa, .slice pa na na], .agg #[.bool s2, .slice p2 n2 n2]] w fun e w' => ∃ s1 p1 n1 qs s3 p3 n3 rs, e = .returned (.tuple #[.agg #[.bool s1, .slice p1 n1 n1], .agg #[.bool s3, .slice p3 n3 n3], .int .i64 0]) ∧ NI w.heap.size w' s1 p1 n1 qs (-4) ∧ NI w.heap.size w' s3 p3 n3 rs 1 ∧ n1 ≤ 8 ∧ n3 ≤ 8 ∧ Below w.heap.size w w' := by
  obtain ⟨_, h2⟩ := ival_pos hB.u hB.v (by decide)
  have ht := tlen_small hB.u (by omega) (by omega)
  refine (Quo_one sa s2 pa p2 na na n2 n2 xa x2 w (hA.hai (by omega)) (hB.hai (by omega)) ht).mono ?_
  rintro e w' ⟨s1, p1, n1, qs, s3, p3, n3, rs, Q, R, rfl, hq, hr, heq, hR0, hR1, hn1, hn3, hb⟩
  rw [hA.v, hB.v] at heq
  rw [hB.v] at hR1
  have hQ : Q = -4 := by omega
  have hR : R = 1 := by omega
  subst hQ hR
  exact ⟨s1, p1, n1, qs, s3, p3, n3, rs, rfl, hq, hr, by omega, by omega, hb⟩

/-- What stands behind the first lines of begun. -/
structure Bg (w wc : World) (ga g2 g3 : Nat) (sa : Bool) (pa : Option Addr) (na : Nat) (xa : List Int) (s3 : Bool) (p3 : Option Addr) (n3 : Nat) (x3 : List Int) (s4 : Bool) (p4 : Option Addr) (n4 : Nat) (x4 : List Int) : Prop where
  ba : Bx wc ga (.bool sa) (.slice pa na na)
  b2 : Bx wc g2 (.bool s3) (.slice p3 n3 n3)
  b3 : Bx wc g3 (.bool s4) (.slice p4 n4 n4)
  ia : NI 0 wc sa pa na xa (-7)
  i2 : NI 0 wc s3 p3 n3 x3 (-4)
  i3 : NI 0 wc s4 p4 n4 x4 1
  la : na ≤ 2
  l2 : n3 ≤ 8
  l3 : n4 ≤ 8
  bel : Below w.heap.size w wc

theorem Bg.later {w wc w' : World} {ga g2 g3 : Nat} {sa : Bool} {pa : Option Addr} {na : Nat} {xa : List Int} {s3 : Bool} {p3 : Option Addr} {n3 : Nat} {x3 : List Int} {s4 : Bool} {p4 : Option Addr} {n4 : Nat} {x4 : List Int} (h : Bg w wc ga g2 g3 sa pa na xa s3 p3 n3 x3 s4 p4 n4 x4) (hb : Below wc.heap.size wc w') : Bg w w' ga g2 g3 sa pa na xa s3 p3 n3 x3 s4 p4 n4 x4 :=
  ⟨h.ba.later hb, h.b2.later hb, h.b3.later hb, h.ia.below hb, h.i2.below hb, h.i3.below hb, h.la, h.l2, h.l3, h.bel.trans (hb.mono h.bel.size)⟩
theorem bits7 {B : Nat} {w : World} {s : Bool} {p : Option Addr} {n : Nat} {xs : List Int} (h : NI B w s p n xs (-7)) (hn : n ≤ 2) : Calls Tryz.prog 48 #[.agg #[.bool s, .slice p n n]] w fun e w' => e = .returned (.int .i64 3) ∧ Below w.heap.size w w' := by
  obtain ⟨rfl, hv⟩ := ival_neg h.u h.v (by decide)
  have ht := tlen_small h.u (by omega) (by omega)
  have h7 : gx xs 0 = 7 := by
    have := tr_one h.u ht
    rw [← gx_tr, this, gx_zero, hv]; rfl
  refine (Bits_any true p n n xs w (h.hai (by omega))).mono ?_
  rintro e w' ⟨rfl, hb⟩
  refine ⟨ret_int ?_, hb⟩
  rw [nbits, ht, if_neg (by decide), show 1 - 1 = 0 from rfl, h7]
  decide

theorem sign7 {B : Nat} {w : World} {s : Bool} {p : Option Addr} {n : Nat} {xs : List Int} (h : NI B w s p n xs (-7)) (hn : n ≤ 2) :
    Calls Tryz.prog 91 #[.agg #[.bool s, .slice p n n]] w fun e w' => e = .returned (.int .i64 (-1)) ∧ Below w.heap.size w w' := by
  have hsg := Sign_any s p n n xs w (h.hai (by omega))
  rw [h.v, show isgn (-7) = -1 from rfl] at hsg
  exact hsg

end Go.Proofs.YtcdfckjlmifjiaaGreat
/-
  ashlarlaw2.begun is true.
-/
namespace Go.Proofs.YtcdfckjlmifjiaaGreat
open Go.RowKit
set_option linter.unusedVariables false
set_option linter.unusedSimpArgs false

/-- A rational in a variable of its own. -/
structure Vq (w : World) (g B : Nat) (s : Bool) (p : Option Addr) (n : Nat) (xs : List Int) (t : Bool) (q : Option Addr) (m : Nat) (ys : List Int) (r : Rat) : Prop where
  b : Bq w g (.bool s) (.slice p n n) (.bool t) (.slice q m m)
  r : NR B w s p n xs t q m ys r
  l : n ≤ 1
  l' : m ≤ 1
section
variable {w w' : World} {g B : Nat} {s : Bool} {p : Option Addr} {n : Nat} {xs : List Int} {t : Bool} {q : Option Addr} {m : Nat} {ys : List Int} {r : Rat}
theorem Vq.later (h : Vq w g B s p n xs t q m ys r) (hb : Below w.heap.size w w') : Vq w' g B s p n xs t q m ys r := ⟨h.b.later hb, h.r.below hb, h.l, h.l'⟩
theorem Vq.new (h : NR B w s p n xs t q m ys r) (h1 : r.num.natAbs ≤ 9) (h2 : r.den ≤ 9) (T : Nat) : Vq (w.alloc (.cells #[.bool s, .slice p n n, .bool t, .slice q m m] T)) w.heap.size B s p n xs t q m ys r := by
  have e : pw 1 = 4294967296 := by decide
  exact ⟨Bq.new _ _ _ _ _ rfl, h.below (bel_al (Below.refl _ _)), h.num.le (by omega), h.den.le (by omega)⟩
variable {B2 : Nat} {s2 : Bool} {p2 : Option Addr} {n2 : Nat} {x2 : List Int} {t2 : Bool} {q2 : Option Addr} {m2 : Nat} {y2 : List Int} {r2 : Rat}
theorem qBits_nr (h : NR B w s p n xs t q m ys r) (hn : n ≤ 79) (hm : m ≤ 79) :
    Calls Tryz.prog 56 #[.agg #[.bool s, .slice p n n, .bool t, .slice q m m]] w fun e w' => ∃ b c : Nat, e = .returned (.int .i64 ((b : Int) + c)) ∧ IB b (r.num.natAbs : Int) ∧ IB c (r.den : Int) ∧ Below w.heap.size w w' := by
  have := qBits_any s t p q n n m m xs ys w (h.num.ai (by omega)) (h.den.ai (by omega)) (by omega) (by omega)
  rwa [h.num.v, h.den.v, Rat.num_divInt_den] at this
end
theorem qv1 : Rat.divInt 6 (-4) = Rat.divInt (-3) 2 := by decide +kernel
theorem qv2 : Rat.divInt (-3) 2 + Rat.divInt 1 2 = Rat.divInt (-1) 1 := by decide +kernel
theorem qn1 : (Rat.divInt (-3) 2).num = -3 ∧ (Rat.divInt (-3) 2).den = 2 := by decide +kernel
theorem qn2 : (Rat.divInt (-1) 1).num = -1 ∧ (Rat.divInt (-1) 1).den = 1 := by decide +kernel
theorem qn3 : (Rat.divInt (-3) 1).num = -3 ∧ (Rat.divInt (-3) 1).den = 1 := by decide +kernel
theorem qn4 : (Rat.divInt 1 2).num = 1 ∧ (Rat.divInt 1 2).den = 2 := by decide +kernel
theorem qt1 : tjoin (Rat.divInt (-3) 2).den ⟨#[45, 51]⟩ ⟨#[50]⟩ = ⟨#[45, 51, 47, 50]⟩ := by rw [qn1.2]; rfl
theorem qt2 : tjoin (Rat.divInt (-1) 1).den ⟨#[45, 49]⟩ ⟨#[]⟩ = ⟨#[45, 49]⟩ := by rw [qn2.2]; rfl
theorem qt3 : tjoin (Rat.divInt (-3) 1).den ⟨#[45, 51]⟩ ⟨#[]⟩ = ⟨#[45, 51]⟩ := by rw [qn3.2]; rfl
theorem qv3 : Rat.divInt (-3) 2 / Rat.divInt 1 2 = Rat.divInt (-3) 1 := by decide +kernel
end Go.Proofs.YtcdfckjlmifjiaaGreat
/-
  Rationals with a bound of their size: what is handed in (AQ), what is answered (NQ), and the contracts of package rat for them.
-/
namespace Go.Proofs.YtcdfckjlmifjiaaGreat
open Go.RowKit
set_option linter.unusedVariables false
set_option linter.unusedSimpArgs false

section
variable {w w' : World} {K Ka Kb : Nat} {s t sa ta sb tb : Bool} {p q pa qa pb qb : Option Addr} {n nc m mc na nac ma mac nb nbc mb mbc : Nat} {r ra rb : Rat} {B : Nat}
end
/-- A rational in a variable of its own. -/
structure Wq (w : World) (g K : Nat) (s : Bool) (p : Option Addr) (n nc : Nat) (t : Bool) (q : Option Addr) (m mc : Nat) (r : Rat) : Prop where
  b : Bq w g (.bool s) (.slice p n nc) (.bool t) (.slice q m mc)
  a : AQ w K s p n nc t q m mc r
theorem Wq.later {w w' : World} {g K : Nat} {s : Bool} {p : Option Addr} {n nc : Nat} {t : Bool} {q : Option Addr} {m mc : Nat} {r : Rat} (h : Wq w g K s p n nc t q m mc r) (hb : Below w.heap.size w w') : Wq w' g K s p n nc t q m mc r := ⟨h.b.later hb, h.a.below hb⟩
end Go.Proofs.YtcdfckjlmifjiaaGreat
/-
  rat.Sub, Norm, Bits for rationals with a bound of their size.
-/
namespace Go.Proofs.YtcdfckjlmifjiaaGreat
open Go.RowKit
set_option linter.unusedVariables false
set_option linter.unusedSimpArgs false

section
variable {w w' : World} {K Ka Kb : Nat} {s t sa ta sb tb : Bool} {p q pa qa pb qb : Option Addr} {n nc m mc na nac ma mac nb nbc mb mbc : Nat} {r ra rb : Rat} {B : Nat}
theorem qBits_q (ha : AQ w K s p n nc t q m mc r) (hK' : K < 80) :
    Calls Tryz.prog 56 #[.agg #[.bool s, .slice p n nc, .bool t, .slice q m mc]] w fun e w' => ∃ b c : Nat, e = .returned (.int .i64 ((b : Int) + c)) ∧ Hid (IB b (r.num.natAbs : Int)) ∧ Hid (IB c (r.den : Int)) ∧ Below w.heap.size w w' := by
  obtain ⟨xs, ys, h1, h2, h3, h4, rfl⟩ := ha
  exact qBits_any s t p q n nc m mc xs ys w h1 h2 (by omega) (by omega)
end
end Go.Proofs.YtcdfckjlmifjiaaGreat
/-
  ashlarref1.Bits, and that it is limbs.Bits' number.
-/
namespace Go.Proofs.YtcdfckjlmifjiaaGreat
open Go.RowKit
set_option linter.unusedVariables false
set_option linter.unusedSimpArgs false

set_option maxHeartbeats 1000000 in
/-- ashlarref1.Bits. -/
theorem rBits_any (s : Bool) (p : Option Addr) (n nc : Nat) (ds : List Int) (w : World) (hl : ds.length = n) (hs : n ≤ 1000000) (ht : tlen ds = n) (hX : Rd w p .i64 ds) (hU : U16 ds) :
    Calls Tryz.prog 31 #[.agg #[.bool s, .slice p n nc]] w fun e w' => ∃ b : Nat, e = .returned (.int .i64 (b : Int)) ∧ Hid (IB b (vd ds)) ∧ Below w.heap.size w w' := by
  rcases Nat.eq_zero_or_pos n with h0 | h0
  · subst h0
    obtain rfl : ds = [] := List.eq_nil_of_length_eq_zero hl
    go_enter Tryz.func31, Tryz.ntmps31
    go_wp2
    go_ret
    exact ⟨0, rfl, ⟨by decide, by decide, .inl rfl⟩, (Below.refl _ _).alloc (Nat.le_refl _) _⟩
  · obtain ⟨j, rfl⟩ : ∃ j, n = j + 1 := ⟨n - 1, by omega⟩
    have HL : Hid (ds.length = j + 1 ∧ tlen ds = j + 1) := ⟨hl, ht⟩
    obtain ⟨b, off, rfl, hc⟩ := (hX.alloc (.cells #[.bool s, .slice p (j + 1) nc] 62)) (by omega)
    have hcj := hc j (by omega)
    obtain ⟨b0, b1⟩ := hU j
    clear hc hl ht
    have hz : (((j + 1 : Nat) : Int) == 0) = false := beq_eq_false_iff_ne.2 (by omega)
    have hz' : ((j : Int) + 1 == 0) = false := beq_eq_false_iff_ne.2 (by omega)
    go_enter Tryz.func31, Tryz.ntmps31
    go_wp2
    go_loop [4, 5] (fun kv tv => ∃ (k : Nat) (t : Int), kv = .int .i64 k ∧ tv = .int .i64 t ∧ 0 ≤ t ∧ t < 65536 ∧ k ≤ 16 ∧ Hid (t = gx ds j / 2 ^ k ∧ (k = 0 ∨ (2 : Int) ^ (k - 1) ≤ gx ds j))) (fun _ tv => (intOf tv).toNat)
    case atStart => exact ⟨0, gx ds j, rfl, rfl, b0, b1, by decide, by simp, .inl rfl⟩
    case round =>
      obtain ⟨k, t, rfl, rfl, t0, t1, hk, H⟩ := hrel
      have hp : (0 : Int) < 2 ^ k := Int.pow_pos (by decide)
      have hdm := Int.emod_add_mul_ediv (gx ds j) (2 ^ k)
      have hm0 := Int.emod_nonneg (gx ds j) (show (2 : Int) ^ k ≠ 0 by omega)
      have hm1 := Int.emod_lt_of_pos (gx ds j) hp
      have HD : Hid (gx ds j % 2 ^ k + 2 ^ k * (gx ds j / 2 ^ k) = gx ds j ∧ 0 ≤ gx ds j % 2 ^ k ∧ gx ds j % 2 ^ k < 2 ^ k ∧ (0 : Int) < 2 ^ k) := ⟨hdm, hm0, hm1, hp⟩
      clear hp hdm hm0 hm1
      by_cases ht : 0 < t
      · have q1 : t.tdiv 2 = t / 2 := Int.tdiv_eq_ediv_of_nonneg t0
        have hge : Hid ((2 : Int) ^ k ≤ gx ds j) := by
          obtain ⟨e1, e2, e3, e4⟩ := HD.out
          have e5 := H.out.1
          have : (2 : Int) ^ k * 1 ≤ 2 ^ k * (gx ds j / 2 ^ k) := Int.mul_le_mul_of_nonneg_left (by omega) (by omega)
          show _ ≤ _
          omega
        have hk15 : k + 1 ≤ 16 := by
          rcases Nat.lt_or_ge k 16 with h | h
          · omega
          · exfalso
            have h2 := p2_mono h
            have h3 := hge.out
            have h4 : (2 : Int) ^ 16 = 65536 := rfl
            omega
        go_wp2
        go_round
        case rel =>
          refine ⟨k + 1, t / 2, by go_num, rfl, by omega, by omega, hk15, ?_, .inr (by rw [Nat.add_sub_cancel]; exact hge.out)⟩
          rw [H.out.1, Int.ediv_ediv_of_nonneg (Int.le_of_lt HD.out.2.2.2), Int.pow_succ]
        case measure => simp [intOf]; omega
      · obtain rfl : t = 0 := by omega
        go_wp2
        go_ret
        refine ⟨16 * j + k, by go_num, ?_, (Below.refl _ _).alloc (Nat.le_refl _) _⟩
        have hL := HL.out
        have hib : IB k (gx ds (ds.length - 1)) := by
          rw [hL.1, Nat.add_sub_cancel]
          refine ⟨b0, ?_, H.out.2⟩
          obtain ⟨e1, e2, e3, e4⟩ := HD.out
          have e5 := H.out.1
          rw [← e5, Int.mul_zero] at e1
          omega
        have := digits_ib hU (by omega) (by omega) hib
        rw [hL.1, Nat.add_sub_cancel] at this
        exact this
theorem vd_val {s t : Bool} {ds xs : List Int} (h : rval s ds = ival t xs) (hd : U16 ds) (hx : U32 xs) : vd ds = val xs := by
  have h1 := vd_nonneg hd
  have h2 := val_nonneg hx
  cases s <;> cases t <;> simp [rval, ival] at h <;> omega
/-- Both tell the same. -/
theorem bits_same {xs ds : List Int} {b : Nat} (h : U32 xs) (hv : vd ds = val xs) (hb : IB b (vd ds)) : nbits xs = (b : Int) := by
  obtain ⟨c, hc, hI⟩ := nbits_ib h
  rw [hc, hb.uniq (hv ▸ hI)]
end Go.Proofs.YtcdfckjlmifjiaaGreat
/-
  ashlarref1.Neg, with values.
-/
namespace Go.Proofs.YtcdfckjlmifjiaaGreat
open Go.RowKit
set_option linter.unusedVariables false
set_option linter.unusedSimpArgs false

theorem rNeg_v {w : World} {N : Nat} {x : Int} {s : Bool} {p : Option Addr} {n : Nat} (h : RV w N x s p n) :
    Calls Tryz.prog 74 #[.agg #[.bool s, .slice p n n]] w fun e w' => ∃ s', e = .returned (.agg #[.bool s', .slice p n n]) ∧ RV w' N (-x) s' p n ∧ Below w.heap.size w w' := by
  obtain ⟨ds, h1, rfl, h3⟩ := h
  refine (rNeg_rn h1).mono ?_
  rintro e w' ⟨s', g1, g2, g3, g4⟩
  exact ⟨s', g1, ⟨ds, g2, g3.out, h3⟩, g4⟩
end Go.Proofs.YtcdfckjlmifjiaaGreat
/-
  ashlarref2.Neg, Bits.
-/
namespace Go.Proofs.YtcdfckjlmifjiaaGreat
open Go.RowKit
set_option linter.unusedVariables false
set_option linter.unusedSimpArgs false

/-- What Neg answers: a rational in memory that was there. -/
def NP (r : Rat) (K : Nat) (w : World) (e : Ending) (w' : World) : Prop :=
  ∃ s p n t q m, e = .returned (.agg #[.bool s, .slice p n n, .bool t, .slice q m m]) ∧ MQ w' K s p n t q m r ∧ Below w.heap.size w w'
theorem rBits_v {w : World} {N : Nat} {x : Int} {s : Bool} {p : Option Addr} {n : Nat} (h : RV w N x s p n) (hN : N ≤ 1000) :
    Calls Tryz.prog 31 #[.agg #[.bool s, .slice p n n]] w fun e w' => ∃ b : Nat, e = .returned (.int .i64 (b : Int)) ∧ b ≤ 16 * N ∧ Hid (IB b (x.natAbs : Int)) ∧ Below w.heap.size w w' := by
  have hbd := h.bd
  obtain ⟨ds, h1, rfl, h3⟩ := h
  have a := vd_nonneg h1.u
  have e : ((rval s ds).natAbs : Int) = vd ds := by unfold rval; split <;> omega
  rw [e] at hbd ⊢
  refine (rBits_any s p n n ds w h1.len (by omega) h1.nrm h1.rd h1.u).mono ?_
  rintro e w' ⟨b, g1, g2, g3⟩
  refine ⟨b, g1, ?_, g2, g3⟩
  have hp : pd N = 2 ^ (16 * N) := by rw [pd, show (65536 : Int) = 2 ^ 16 from rfl, ← Int.pow_mul]
  rcases Nat.lt_or_ge (16 * N) b with hb | hb
  · rcases g2.out.2.2 with k | k
    · omega
    · have := p2_mono (show 16 * N ≤ b - 1 by omega)
      omega
  · exact hb
set_option maxRecDepth 100000 in
set_option maxHeartbeats 4000000 in
/-- ashlarref2.Bits. -/
theorem rBits_q {w : World} {K : Nat} {s t : Bool} {p q : Option Addr} {n m : Nat} {r : Rat} (h : MQ w K s p n t q m r) (hK : K ≤ 400) :
    Calls Tryz.prog 60 #[.agg #[.bool s, .slice p n n, .bool t, .slice q m m]] w fun e w' => ∃ b c : Nat, e = .returned (.int .i64 ((b : Int) + c)) ∧ Hid (IB b (r.num.natAbs : Int)) ∧ Hid (IB c (r.den : Int)) ∧ Below w.heap.size w w' := by
  go_enter Tryz.func60, Tryz.ntmps60
  go_wp2_with fail
  have hA0 : Bq (w.alloc (.cells #[.bool s, .slice p n n, .bool t, .slice q m m] 64)) w.heap.size (.bool s) (.slice p n n) (.bool t) (.slice q m m) := Bq.new _ _ _ _ _ rfl
  have hW : Below w.heap.size w (w.alloc (.cells #[.bool s, .slice p n n, .bool t, .slice q m m] 64)) := (Below.refl _ _).alloc (Nat.le_refl _) _
  generalize w.alloc (.cells #[.bool s, .slice p n n, .bool t, .slice q m m] 64) = W at *
  have k := h.below hW
  have nA : Hid (w.heap.size ≠ w.heap.size + 1) := (by omega : w.heap.size ≠ w.heap.size + 1)
  obtain ⟨a0, a1, a2, a3, -, -, -, -⟩ := hA0
  go_region_held3 (fun w' => w'.cell? ⟨w.heap.size, 0, none⟩ = some (.bool s) ∧ w'.cell? ⟨w.heap.size, 1, none⟩ = some (.slice p n n) ∧ w'.cell? ⟨w.heap.size, 2, none⟩ = some (.bool t) ∧ w'.cell? ⟨w.heap.size, 3, none⟩ = some (.slice q m m)) (first | with_reducible exact ⟨a0, a1, a2, a3⟩ | with_reducible exact keepc4 ⟨a0, a1, a2, a3⟩ hV1 | with_reducible exact keepc4 ⟨a0, a1, a2, a3⟩ hV2 | with_reducible exact keep4s ⟨a0, a1, a2, a3⟩ hV2 nA | (simp [go_sem, *]; done))
    (first
      | (go_at_call_of 31 (Value.agg #[.bool s, .slice p n n]); refine (rBits_v k.num.drew (by omega)).mono ?_; rintro e v1 ⟨b, rfl, lb, hb, hv1⟩; have hV1 := undrew hv1)
      | (go_at_call_of 31 (Value.agg #[.bool t, .slice q m m]); refine (rBits_v (k.den.below hV1) (by omega)).mono ?_; rintro e v2 ⟨c, rfl, lc, hc, hv2⟩; have hV2 := bnext' hV1 hv2; have v0 : IntKind.i64.wrap ((b : Int) + (c : Int)) = (b : Int) + (c : Int) := (by rw [IntKind.wrap_i64]; omega)))
  clear a0 a1 a2 a3
  go_wp2
  go_ret
  exact ⟨b, c, rfl, hb, hc, bnext' hW hV2⟩
end Go.Proofs.YtcdfckjlmifjiaaGreat
