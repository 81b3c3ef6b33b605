/-
  ashlarlaw2.RatText: for every rational and every text the law's answer is true.
-/
import Derived.Test.YtongkalfdgleaaaGreatDoorZcZdZj
import Derived.Test.YtongkalfdgleaaaGreatDoorXeTbTcRg
import Derived.Test.YtongkalfdgleaaaGreatDoorRsYgYjXf
import Derived.Test.YtongkalfdgleaaaGreatDoorXg
import Derived.Test.YtongkalfdgleaaaGreatDoorRzCwYhYl
import Derived.Test.YtongkalfdgleaaaGreatDoorCuRaWh
import Derived.ProofKit
import Derived.OpenShut
import Derived.Lib.SmallJoins
import Derived.Lay
import Derived.LaidOnce
import Derived.SevenTiedAt
namespace Go.Proofs.YtongkalfdgleaaaGreatDoor
open Go.RowKit
set_option linter.unusedVariables false
set_option linter.unusedSimpArgs false

theorem extract_400 (l : List UInt8) : (⟨l.toArray⟩ : ByteArray).extract 0 400 = ⟨(l.take 400).toArray⟩ := by
  rw [ByteArray.extract_mk]
  simp
/-- An answer in a variable of its own. -/
structure Nx (w : World) (g K : Nat) (x : QW) (r : Rat) : Prop where
  b : Bq w g (.bool x.s) (.slice x.p x.n x.n) (.bool x.t) (.slice x.q x.m x.m)
  m : NQ 0 w K x.s x.p x.n x.t x.q x.m r
theorem Nx.later {w w' : World} {g K : Nat} {x : QW} {r : Rat} (h : Nx w g K x r) (hb : Below w.heap.size w w') : Nx w' g K x r := ⟨h.b.later hb, h.m.below hb⟩
theorem NQ.low {B : Nat} {w : World} {K : Nat} {s : Bool} {p : Option Addr} {n : Nat} {t : Bool} {q : Option Addr} {m : Nat} {r : Rat} (h : NQ B w K s p n t q m r) : NQ 0 w K s p n t q m r := by
  obtain ⟨xs, ys, h1, h2⟩ := h
  exact ⟨xs, ys, ⟨h1.num.mono (Nat.zero_le _), h1.den.mono (Nat.zero_le _)⟩, h2⟩
theorem Nx.new {B : Nat} {w : World} {K : Nat} {x : QW} {r : Rat} (h : NQ B w K x.s x.p x.n x.t x.q x.m r) (T : Nat) : Nx (w.alloc (.cells #[.bool x.s, .slice x.p x.n x.n, .bool x.t, .slice x.q x.m x.m] T)) w.heap.size K x r := ⟨Bq.new _ _ _ _ _ rfl, h.low.below (bel_al (Below.refl _ _))⟩
theorem Mx.new {w : World} {K : Nat} {x : QW} {r : Rat} (h : MQ w K x.s x.p x.n x.t x.q x.m r) (T : Nat) : Mx (w.alloc (.cells #[.bool x.s, .slice x.p x.n x.n, .bool x.t, .slice x.q x.m x.m] T)) w.heap.size K x r := ⟨Bq.new _ _ _ _ _ rfl, h.alloc _⟩
/-- What a text says: its number, or that it says none. -/
def Sd (l : List UInt8) (r : Rat) (c : Int) : Prop := (c = 0 ∧ l.length ≤ 700 ∧ l = rtx r) ∨ (c = 8 ∧ r = 0 ∧ (65536 < l.length ∨ ∀ r, l ≠ rtx r))
theorem Sd.one {l : List UInt8} {r r' : Rat} {c c' : Int} (h : Sd l r c) (k : Sd l r' c') : r = r' ∧ c = c' := by
  rcases h with ⟨h1, h2, h3⟩ | ⟨h1, h2, h3⟩ <;> rcases k with ⟨k1, k2, k3⟩ | ⟨k1, k2, k3⟩
  · exact ⟨rtx_inj (h3.symm.trans k3), h1.trans k1.symm⟩
  · rcases k3 with k | k
    · omega
    · exact absurd h3 (k _)
  · rcases h3 with h | h
    · omega
    · exact absurd k3 (h _)
  · exact ⟨h2.trans k2.symm, h1.trans k1.symm⟩
def RbP (l : List UInt8) (w : World) (e : Ending) (w' : World) : Prop :=
  ∃ r c s p n t q m, Sd l r c ∧ e = .returned (.tuple #[.agg #[.bool s, .slice p n n, .bool t, .slice q m m], .int .i64 c]) ∧ NQ w.heap.size w' 78 s p n t q m r ∧ Below w.heap.size w w'
def RcP (l : List UInt8) (w : World) (e : Ending) (w' : World) : Prop :=
  ∃ r c s p n t q m, Sd l r c ∧ e = .returned (.tuple #[.agg #[.bool s, .slice p n n, .bool t, .slice q m m], .int .i64 c]) ∧ MQ w' 78 s p n t q m r ∧ Below w.heap.size w w'
theorem qRead_b (l : List UInt8) (w : World) (h : l.length ≤ 700 ∨ 65536 < l.length) (hm : l.length ≤ maxLen) : Calls Tryz.prog 35 #[.string ⟨l.toArray⟩] w (RbP l w) := by
  rcases h with h | h
  · refine (qRead_q l w h).mono ?_
    rintro e w' ⟨hb, ⟨r, s, p, n, t, q, m, h1, h2, h3⟩ | ⟨h1, s, p, n, t, q, m, h2, h3⟩⟩
    · exact ⟨r, 0, s, p, n, t, q, m, .inl ⟨rfl, h, h1⟩, h2, h3, hb⟩
    · exact ⟨0, 8, s, p, n, t, q, m, .inr ⟨rfl, rfl, .inr h1⟩, h2, h3, hb⟩
  · refine (qRead_long l w hm h).mono ?_
    rintro e w' ⟨hb, s, p, n, t, q, m, h2, h3⟩
    exact ⟨0, 8, s, p, n, t, q, m, .inr ⟨rfl, rfl, .inl h⟩, h2, h3, hb⟩
theorem rqRead_b (l : List UInt8) (w : World) (h : l.length ≤ 700 ∨ 65536 < l.length) (hm : l.length ≤ maxLen) : Calls Tryz.prog 36 #[.string ⟨l.toArray⟩] w (RcP l w) := by
  rcases h with h | h
  · refine (rqRead_q l w h).mono ?_
    rintro e w' ⟨hb, ⟨r, s, p, n, t, q, m, h1, h2, h3⟩ | ⟨h1, s, p, n, t, q, m, h2, h3⟩⟩
    · exact ⟨r, 0, s, p, n, t, q, m, .inl ⟨rfl, h, h1⟩, h2, h3, hb⟩
    · exact ⟨0, 8, s, p, n, t, q, m, .inr ⟨rfl, rfl, .inr h1⟩, h2, h3, hb⟩
  · refine (rqRead_long l w hm h).mono ?_
    rintro e w' ⟨hb, s, p, n, t, q, m, h2, h3⟩
    exact ⟨0, 8, s, p, n, t, q, m, .inr ⟨rfl, rfl, .inl h⟩, h2, h3, hb⟩
/-- The text of a rational is read as that rational. -/
theorem qRead_own (r : Rat) (w : World) (h : (rtx r).length ≤ 700) : Calls Tryz.prog 35 #[.string ⟨(rtx r).toArray⟩] w (QcP r 0 78 w) := by
  refine (qRead_q (rtx r) w h).mono ?_
  rintro e w' ⟨hb, ⟨r', s, p, n, t, q, m, h1, h2, h3⟩ | ⟨h1, -⟩⟩
  · obtain rfl := rtx_inj h1
    exact ⟨s, p, n, t, q, m, h2, h3, hb⟩
  · exact absurd rfl (h1 r)
set_option maxRecDepth 100000 in
set_option maxHeartbeats 8000000 in
theorem RatText_walk (sa ta : Bool) (pa qa : Option Addr) (na nac ma mac : Nat) (xa ya : List Int) (l : List UInt8) (w : World)
    (hla : xa.length = na) (hnca : na ≤ nac) (hba : nac ≤ maxLen) (hXa : Rd w pa .u32 xa) (hUa : U32 xa) (hpa : pa = none → nac = 0)
    (hma : ya.length = ma) (hmca : ma ≤ mac) (hca : mac ≤ maxLen) (hYa : Rd w qa .u32 ya) (hVa : U32 ya) (hqa : qa = none → mac = 0) (hlm : l.length ≤ maxLen) :
    Calls Tryz.prog 5 #[.agg #[.bool sa, .slice pa na nac, .bool ta, .slice qa ma mac], .string ⟨l.toArray⟩] w fun e w' => e = .returned (.bool true) ∧ Below w.heap.size w w' := by
  have hlm' := hlm
  unfold maxLen at hlm'
  go_enter Tryz.func5, Tryz.ntmps5
  go_wp2_with fail
  have hA0 : Bq (w.alloc (.cells #[.bool sa, .slice pa na nac, .bool ta, .slice qa ma mac] 26)) w.heap.size (.bool sa) (.slice pa na nac) (.bool ta) (.slice qa ma mac) := Bq.new _ _ _ _ _ rfl
  have hW0 : Below w.heap.size w (w.alloc (.cells #[.bool sa, .slice pa na nac, .bool ta, .slice qa ma mac] 26)) := (Below.refl _ _).alloc (Nat.le_refl _) _
  generalize w.alloc (.cells #[.bool sa, .slice pa na nac, .bool ta, .slice qa ma mac] 26) = W0 at *
  refine (qbegun_any _).mono ?_
  rintro e w1 ⟨rfl, hb1⟩
  have hA1 := hA0.later hb1
  have hW1 := bnext' hW0 hb1
  clear hA0 hW0 hb1
  have a0 := hA1.c0
  have a1 := hA1.c1
  have a2 := hA1.c2
  have a3 := hA1.c3
  go_wp2_with fail
  refine (qCut_any sa ta pa qa na nac ma mac xa ya _ hla hnca hba (hXa.below hW1) hUa hpa hma hmca hca (hYa.below hW1) hVa hqa).mono ?_
  rintro e w2 ⟨pa', na', nac', qa', ma', mac', rfl, hA, hA', hna24, hma24, hFa, hFa', hb2⟩
  have sA := hA1.lt
  have hA2 := hA1.later hb2
  have qA : AQ w2 24 sa pa' na' nac' ta qa' ma' mac' (Rat.divInt (ival sa (xa.take 24)) (ival ta (ya.take 24))) := ⟨_, _, hA, hA', hna24, hma24, rfl⟩
  have qA2 := qA.set4 (g := w.heap.size) (fun _ => off_from hFa sA) (fun _ => off_from hFa' sA) (.bool sa) (.slice pa' na' nac') (.bool ta) (.slice qa' ma' mac')
  have hB2 : Bq ((((w2.setCell ⟨w.heap.size, 0, none⟩ (.bool sa)).setCell ⟨w.heap.size, 1, none⟩ (.slice pa' na' nac')).setCell ⟨w.heap.size, 2, none⟩ (.bool ta)).setCell ⟨w.heap.size, 3, none⟩ (.slice qa' ma' mac')) w.heap.size (.bool sa) (.slice pa' na' nac') (.bool ta) (.slice qa' ma' mac') := Bq_set hA2
  have hW2 : Below w.heap.size w ((((w2.setCell ⟨w.heap.size, 0, none⟩ (.bool sa)).setCell ⟨w.heap.size, 1, none⟩ (.slice pa' na' nac')).setCell ⟨w.heap.size, 2, none⟩ (.bool ta)).setCell ⟨w.heap.size, 3, none⟩ (.slice qa' ma' mac')) := bset4 (bnext' hW1 hb2) (Nat.le_refl _) _ _ _ _
  clear a0 a1 a2 a3 hA hA' hna24 hma24 hFa hFa' hb2 hA1 hW1 qA sA
  obtain ⟨a0, a1, a2, a3, f0, f1, f2, f3⟩ := hA2
  obtain ⟨b0, b1, b2, b3, -, -, -, -⟩ := id hB2
  go_wp2_with fail
  clear a0 a1 a2 a3 f0 f1 f2 f3 b0 b1 b2 b3
  generalize (((w2.setCell ⟨w.heap.size, 0, none⟩ (.bool sa)).setCell ⟨w.heap.size, 1, none⟩ (.slice pa' na' nac')).setCell ⟨w.heap.size, 2, none⟩ (.bool ta)).setCell ⟨w.heap.size, 3, none⟩ (.slice qa' ma' mac') = W2 at *
  generalize (Rat.divInt (ival sa (xa.take 24)) (ival ta (ya.take 24))) = ra at *
  refine (rFrom_q qA2 (by decide) (by decide)).mono ?_
  rintro e w3 ⟨s3, p3, n3, t3, q3, m3, rfl, hM3, hF3, hF3', hb3⟩
  have hal := bel_al (o := .cells #[.bool s3, .slice p3 n3 n3, .bool t3, .slice q3 m3 m3] 33) hb3
  have qA3 := qA2.below hal
  have hB3 := hB2.later hal
  have hW3 := bnext' hW2 hal
  have hX3 := Mx.new (x := ⟨s3, p3, n3, t3, q3, m3⟩) hM3 33
  clear qA2 hB2 hW2 hal hM3 hF3 hF3' hb3
  have b0 := hB3.c0
  have b1 := hB3.c1
  have b2 := hB3.c2
  have b3 := hB3.c3
  go_wp2_with fail
  generalize w3.alloc (.cells #[.bool s3, .slice p3 n3 n3, .bool t3, .slice q3 m3 m3] 33) = W3 at *
  generalize w3.heap.size = g3 at *
  refine (qText_q qA3 (by decide) (by decide)).mono ?_
  rintro e w4 ⟨rfl, hb4⟩
  have hsz := rtx_len (qA3.sz (by decide))
  have hX4 := hX3.later hb4
  have hW4 := bnext' hW3 hb4
  clear qA3 hB3 hW3 hX3 hb4 b0 b1 b2 b3
  go_wp2_with fail
  refine (qRead_own ra _ (by omega)).mono ?_
  rintro e w5 ⟨s5, p5, n5, t5, q5, m5, rfl, hN5, hb5⟩
  have hal := bel_al (o := .cells #[.bool s5, .slice p5 n5 n5, .bool t5, .slice q5 m5 m5] 26) hb5
  have hX6 := hX4.later hal
  have hW6 := bnext' hW4 hal
  have hE6 := Nx.new (x := ⟨s5, p5, n5, t5, q5, m5⟩) hN5 26
  clear hX4 hW4 hN5 hb5 hal
  have arms : Hid ((l.length ≤ 400) ∨ (400 < l.length ∧ l.length ≤ 65536) ∨ 65536 < l.length) := by show _ ∨ _; omega
  go_upto_region 6 with fail
  generalize w5.alloc (.cells #[.bool s5, .slice p5 n5 n5, .bool t5, .slice q5 m5 m5] 26) = W6 at *
  generalize w5.heap.size = g5 at *
  rcases arms.out with h | ⟨h, h'⟩ | h
  · have hI : ¬ (400 : Int) < (l.length : Int) := by omega
    have hL : Hid (l.length ≤ 700 ∨ 65536 < l.length) := .inl (by omega)
    have hLm : Hid (l.length ≤ maxLen) := hlm
    clear h arms
    go_wp2_with fail
    refine (qRead_b l _ hL.out hLm.out).mono ?_
    rintro e w7 ⟨rc, cc, s7, p7, n7, t7, q7, m7, hS7, rfl, hN7, hb7⟩
    have HS7 : Hid (Sd l rc cc) := hS7
    have hal := bel_al (o := .cells #[.bool s7, .slice p7 n7 n7, .bool t7, .slice q7 m7 m7] 26) hb7
    have hX7 := hX6.later hal
    have hE7 := hE6.later hal
    have hW7 := bnext' hW6 hal
    have hC7 := Nx.new (x := ⟨s7, p7, n7, t7, q7, m7⟩) hN7 26
    clear hS7 hal hX6 hE6 hW6 hN7 hb7
    go_wp2_with fail
    generalize w7.alloc (.cells #[.bool s7, .slice p7 n7 n7, .bool t7, .slice q7 m7 m7] 26) = W7 at *
    generalize w7.heap.size = g7 at *
    refine (rqRead_b l _ hL.out hLm.out).mono ?_
    rintro e w8 ⟨ry, cy, s8, p8, n8, t8, q8, m8, hS8, rfl, hM8, hb8⟩
    obtain ⟨rfl, rfl⟩ := HS7.out.one hS8
    have hal := bel_al (o := .cells #[.bool s8, .slice p8 n8 n8, .bool t8, .slice q8 m8 m8] 33) hb8
    have hX8 := hX7.later hal
    have hE8 := hE7.later hal
    have hC8 := hC7.later hal
    have hW8 := bnext' hW7 hal
    have hY8 := Mx.new (x := ⟨s8, p8, n8, t8, q8, m8⟩) hM8 33
    clear hS8 HS7 hal hX7 hE7 hC7 hW7 hM8 hb8
    have i0 := hX8.b.c0
    have i1 := hX8.b.c1
    have i2 := hX8.b.c2
    have i3 := hX8.b.c3
    have j0 := hE8.b.c0
    have j1 := hE8.b.c1
    have j2 := hE8.b.c2
    have j3 := hE8.b.c3
    go_wp2_with fail
    generalize w8.alloc (.cells #[.bool s8, .slice p8 n8 n8, .bool t8, .slice q8 m8 m8] 33) = W8 at *
    generalize w8.heap.size = g8 at *
    refine (rIs_q hE8.m hX8.m (by decide) (by decide)).mono ?_
    rintro e w9 ⟨rfl, hb9⟩
    have hX9 := hX8.later hb9
    have hC9 := hC8.later hb9
    have hY9 := hY8.later hb9
    have hW9 := bnext' hW8 hb9
    clear i0 i1 i2 i3 j0 j1 j2 j3 hX8 hE8 hC8 hY8 hW8 hb9
    have i0 := hC9.b.c0
    have i1 := hC9.b.c1
    have i2 := hC9.b.c2
    have i3 := hC9.b.c3
    have j0 := hY9.b.c0
    have j1 := hY9.b.c1
    have j2 := hY9.b.c2
    have j3 := hY9.b.c3
    go_wp2_with fail
    refine (rIs_q hC9.m hY9.m (by decide) (by decide)).mono ?_
    rintro e w10 ⟨rfl, hb10⟩
    have hX10 := hX9.later hb10
    have hW10 := bnext' hW9 hb10
    clear i0 i1 i2 i3 j0 j1 j2 j3 hX9 hC9 hY9 hW9 hb10
    have i0 := hX10.b.c0
    have i1 := hX10.b.c1
    have i2 := hX10.b.c2
    have i3 := hX10.b.c3
    go_wp2_with fail
    refine (rText_q hX10.m (by decide)).mono ?_
    rintro e w11 ⟨rfl, hb11⟩
    have hW11 := bnext' hW10 hb11
    clear i0 i1 i2 i3 hX10 hW10 hb11
    go_wp2
    go_ret
    exact ⟨rfl, hW11⟩
  · have hI : (400 : Int) < (l.length : Int) := by omega
    have hI' : (l.length : Int) ≤ 65536 := by omega
    have hx := extract_400 l
    have hL : Hid ((l.take 400).length ≤ 700 ∨ 65536 < (l.take 400).length) := .inl (by simp; omega)
    have hLm : Hid ((l.take 400).length ≤ maxLen) := (by simp; omega : (l.take 400).length ≤ maxLen)
    clear h h' arms
    go_wp2_with fail
    generalize l.take 400 = l2 at *
    refine (qRead_b l2 _ hL.out hLm.out).mono ?_
    rintro e w7 ⟨rc, cc, s7, p7, n7, t7, q7, m7, hS7, rfl, hN7, hb7⟩
    have HS7 : Hid (Sd l2 rc cc) := hS7
    have hal := bel_al (o := .cells #[.bool s7, .slice p7 n7 n7, .bool t7, .slice q7 m7 m7] 26) hb7
    have hX7 := hX6.later hal
    have hE7 := hE6.later hal
    have hW7 := bnext' hW6 hal
    have hC7 := Nx.new (x := ⟨s7, p7, n7, t7, q7, m7⟩) hN7 26
    clear hS7 hal hX6 hE6 hW6 hN7 hb7
    go_wp2_with fail
    generalize w7.alloc (.cells #[.bool s7, .slice p7 n7 n7, .bool t7, .slice q7 m7 m7] 26) = W7 at *
    generalize w7.heap.size = g7 at *
    refine (rqRead_b l2 _ hL.out hLm.out).mono ?_
    rintro e w8 ⟨ry, cy, s8, p8, n8, t8, q8, m8, hS8, rfl, hM8, hb8⟩
    obtain ⟨rfl, rfl⟩ := HS7.out.one hS8
    have hal := bel_al (o := .cells #[.bool s8, .slice p8 n8 n8, .bool t8, .slice q8 m8 m8] 33) hb8
    have hX8 := hX7.later hal
    have hE8 := hE7.later hal
    have hC8 := hC7.later hal
    have hW8 := bnext' hW7 hal
    have hY8 := Mx.new (x := ⟨s8, p8, n8, t8, q8, m8⟩) hM8 33
    clear hS8 HS7 hal hX7 hE7 hC7 hW7 hM8 hb8
    have i0 := hX8.b.c0
    have i1 := hX8.b.c1
    have i2 := hX8.b.c2
    have i3 := hX8.b.c3
    have j0 := hE8.b.c0
    have j1 := hE8.b.c1
    have j2 := hE8.b.c2
    have j3 := hE8.b.c3
    go_wp2_with fail
    generalize w8.alloc (.cells #[.bool s8, .slice p8 n8 n8, .bool t8, .slice q8 m8 m8] 33) = W8 at *
    generalize w8.heap.size = g8 at *
    refine (rIs_q hE8.m hX8.m (by decide) (by decide)).mono ?_
    rintro e w9 ⟨rfl, hb9⟩
    have hX9 := hX8.later hb9
    have hC9 := hC8.later hb9
    have hY9 := hY8.later hb9
    have hW9 := bnext' hW8 hb9
    clear i0 i1 i2 i3 j0 j1 j2 j3 hX8 hE8 hC8 hY8 hW8 hb9
    have i0 := hC9.b.c0
    have i1 := hC9.b.c1
    have i2 := hC9.b.c2
    have i3 := hC9.b.c3
    have j0 := hY9.b.c0
    have j1 := hY9.b.c1
    have j2 := hY9.b.c2
    have j3 := hY9.b.c3
    go_wp2_with fail
    refine (rIs_q hC9.m hY9.m (by decide) (by decide)).mono ?_
    rintro e w10 ⟨rfl, hb10⟩
    have hX10 := hX9.later hb10
    have hW10 := bnext' hW9 hb10
    clear i0 i1 i2 i3 j0 j1 j2 j3 hX9 hC9 hY9 hW9 hb10
    have i0 := hX10.b.c0
    have i1 := hX10.b.c1
    have i2 := hX10.b.c2
    have i3 := hX10.b.c3
    go_wp2_with fail
    refine (rText_q hX10.m (by decide)).mono ?_
    rintro e w11 ⟨rfl, hb11⟩
    have hW11 := bnext' hW10 hb11
    clear i0 i1 i2 i3 hX10 hW10 hb11
    go_wp2
    go_ret
    exact ⟨rfl, hW11⟩
  · have hI : (400 : Int) < (l.length : Int) := by omega
    have hI' : ¬ (l.length : Int) ≤ 65536 := by omega
    have hL : Hid (l.length ≤ 700 ∨ 65536 < l.length) := .inr h
    have hLm : Hid (l.length ≤ maxLen) := hlm
    clear h arms
    go_wp2_with fail
    refine (qRead_b l _ hL.out hLm.out).mono ?_
    rintro e w7 ⟨rc, cc, s7, p7, n7, t7, q7, m7, hS7, rfl, hN7, hb7⟩
    have HS7 : Hid (Sd l rc cc) := hS7
    have hal := bel_al (o := .cells #[.bool s7, .slice p7 n7 n7, .bool t7, .slice q7 m7 m7] 26) hb7
    have hX7 := hX6.later hal
    have hE7 := hE6.later hal
    have hW7 := bnext' hW6 hal
    have hC7 := Nx.new (x := ⟨s7, p7, n7, t7, q7, m7⟩) hN7 26
    clear hS7 hal hX6 hE6 hW6 hN7 hb7
    go_wp2_with fail
    generalize w7.alloc (.cells #[.bool s7, .slice p7 n7 n7, .bool t7, .slice q7 m7 m7] 26) = W7 at *
    generalize w7.heap.size = g7 at *
    refine (rqRead_b l _ hL.out hLm.out).mono ?_
    rintro e w8 ⟨ry, cy, s8, p8, n8, t8, q8, m8, hS8, rfl, hM8, hb8⟩
    obtain ⟨rfl, rfl⟩ := HS7.out.one hS8
    have hal := bel_al (o := .cells #[.bool s8, .slice p8 n8 n8, .bool t8, .slice q8 m8 m8] 33) hb8
    have hX8 := hX7.later hal
    have hE8 := hE7.later hal
    have hC8 := hC7.later hal
    have hW8 := bnext' hW7 hal
    have hY8 := Mx.new (x := ⟨s8, p8, n8, t8, q8, m8⟩) hM8 33
    clear hS8 HS7 hal hX7 hE7 hC7 hW7 hM8 hb8
    have i0 := hX8.b.c0
    have i1 := hX8.b.c1
    have i2 := hX8.b.c2
    have i3 := hX8.b.c3
    have j0 := hE8.b.c0
    have j1 := hE8.b.c1
    have j2 := hE8.b.c2
    have j3 := hE8.b.c3
    go_wp2_with fail
    generalize w8.alloc (.cells #[.bool s8, .slice p8 n8 n8, .bool t8, .slice q8 m8 m8] 33) = W8 at *
    generalize w8.heap.size = g8 at *
    refine (rIs_q hE8.m hX8.m (by decide) (by decide)).mono ?_
    rintro e w9 ⟨rfl, hb9⟩
    have hX9 := hX8.later hb9
    have hC9 := hC8.later hb9
    have hY9 := hY8.later hb9
    have hW9 := bnext' hW8 hb9
    clear i0 i1 i2 i3 j0 j1 j2 j3 hX8 hE8 hC8 hY8 hW8 hb9
    have i0 := hC9.b.c0
    have i1 := hC9.b.c1
    have i2 := hC9.b.c2
    have i3 := hC9.b.c3
    have j0 := hY9.b.c0
    have j1 := hY9.b.c1
    have j2 := hY9.b.c2
    have j3 := hY9.b.c3
    go_wp2_with fail
    refine (rIs_q hC9.m hY9.m (by decide) (by decide)).mono ?_
    rintro e w10 ⟨rfl, hb10⟩
    have hX10 := hX9.later hb10
    have hW10 := bnext' hW9 hb10
    clear i0 i1 i2 i3 j0 j1 j2 j3 hX9 hC9 hY9 hW9 hb10
    have i0 := hX10.b.c0
    have i1 := hX10.b.c1
    have i2 := hX10.b.c2
    have i3 := hX10.b.c3
    go_wp2_with fail
    refine (rText_q hX10.m (by decide)).mono ?_
    rintro e w11 ⟨rfl, hb11⟩
    have hW11 := bnext' hW10 hb11
    clear i0 i1 i2 i3 hX10 hW10 hb11
    go_wp2
    go_ret
    exact ⟨rfl, hW11⟩
end Go.Proofs.YtongkalfdgleaaaGreatDoor
/-
  What an argument of type api.Int is, read as data.
-/
namespace Go.Proofs.YtongkalfdgleaaaGreatDoor
open Go.ChangeShapes Go.WideShapes Go.ChangeAt Go.RowKit Go.Joins
set_option linter.unusedVariables false
set_option linter.unusedSimpArgs false

theorem own : ownKnob Tryz.prog.godebug = none := by kernel_rfl
theorem laidOut : laidOutB Tryz.prog = true := by kernel_rfl
theorem cellsInt : Tryz.prog.cellsOf 24 = 2 := by kernel_rfl
theorem cellsLimb : Tryz.prog.cellsOf 80 = 1 := by kernel_rfl

/-- What an api.Int is, as an argument. -/
def IntArg (W : World) (v : Value) : Prop := ∃ (s : Bool) (pa : Option Addr) (n nc : Nat) (xs : List Int), v = .agg #[.bool s, .slice pa n nc] ∧ xs.length = n ∧ n ≤ nc ∧ nc ≤ maxLen ∧ Rd W pa .u32 xs ∧ U32 xs ∧ (pa = none → nc = 0)

set_option maxRecDepth 100000 in
theorem openInt {H : Type} {enc : TypeId × Value → H} {W : World} {base : Nat} {v0 : Value} {d0 : DataW H} {p0 : List MemPlace} (hv : Value.okWide Tryz.prog W .any base 24 v0)
    (h0 : DataW.Trod enc Tryz.prog W 0 (fun _ => true) true 24 v0 d0 p0) : IntArg W v0 := by
  obtain ⟨c0, c1, y0, y1, k, rfl, -, -, hy0, hy1⟩ := open_agg2 Tryz.underlying24 (by kernel_rfl) cellsInt hv h0
  obtain ⟨s, e0, -⟩ := DataW.trod_bool Tryz.underlying4 hy0
  simp only [List.cons.injEq, and_true] at e0
  subst e0
  rcases open_ints Tryz.underlying22 Tryz.underlying80 cellsLimb hy1 with ⟨hcs, -⟩ | ⟨a, len, cap, zs, hcs, -, hl, hm, hz, -, hcell, hwz⟩
  · simp only [List.cons.injEq, and_true] at hcs
    subst hcs
    exact ⟨s, none, 0, 0, [], rfl, rfl, Nat.le_refl _, Nat.zero_le _, Rd.nil, u32_nil, fun _ => rfl⟩
  · simp only [List.cons.injEq, and_true] at hcs
    subst hcs
    simp only [if_true] at hz
    refine ⟨s, some a, len, cap, zs.take len, rfl, by simp; omega, hl, hm, ?_, ?_, fun h => by cases h⟩
    · intro hp
      have hp' : 0 < zs.length := by simp at hp; omega
      obtain ⟨b, off, rfl, hc⟩ := ints_at hcell hp'
      refine ⟨b, off, rfl, fun j hj => ?_⟩
      have hj' : j < len ∧ j < zs.length := by simp at hj; omega
      rw [gx_take _ _ _ hj'.1]
      exact hc j hj'.2
    · refine u32_take (fun j => ?_) len
      by_cases hj : j < zs.length
      · have := hwz zs[j] (List.getElem_mem hj)
        rw [gx_mem zs j hj]
        have h4 : 0 ≤ zs[j] ∧ zs[j] ≤ 4294967295 := by
          simpa [Lit.wf, IntKind.min, IntKind.max, IntKind.signed, IntKind.bits] using this
        exact ⟨h4.1, by omega⟩
      · rw [gx_past zs _ (Nat.le_refl _) j (by omega)]; decide
end Go.Proofs.YtongkalfdgleaaaGreatDoor
/-
  What an argument of type api.Rat is, read as data.
-/
namespace Go.Proofs.YtongkalfdgleaaaGreatDoor
open Go.ChangeShapes Go.WideShapes Go.ChangeAt Go.RowKit Go.Joins
set_option linter.unusedVariables false
set_option linter.unusedSimpArgs false

theorem cellsRat : Tryz.prog.cellsOf 26 = 4 := by kernel_rfl
theorem cellsBool : Tryz.prog.cellsOf 4 = 1 := by kernel_rfl
theorem cellsLimbs : Tryz.prog.cellsOf 22 = 1 := by kernel_rfl

set_option maxRecDepth 100000 in
theorem intCells {H : Type} {enc : TypeId × Value → H} {W : World} {fuel : Nat} {v0 v1 : Value} {y : DataW H × List MemPlace}
    (h : DataW.trod enc Tryz.prog W 0 (fun _ => true) true fuel 24 [v0, v1] = some y) : IntArg W (.agg #[v0, v1]) := by
  obtain ⟨y0, y1, n, hx, -, hy0, hy1⟩ := trod_struct2 Tryz.underlying24 h
  simp only [cellsBool, cellsLimbs, List.drop_zero, List.drop_succ_cons, List.take_succ_cons, List.take_zero] at hy0 hy1
  obtain ⟨s, e0, -⟩ := DataW.trod_bool Tryz.underlying4 hy0
  simp only [List.cons.injEq, and_true] at e0
  subst e0
  rcases open_ints Tryz.underlying22 Tryz.underlying80 cellsLimb hy1 with ⟨hcs, -⟩ | ⟨a, len, cap, zs, hcs, -, hl, hm, hz, -, hcell, hwz⟩
  · simp only [List.cons.injEq, and_true] at hcs
    subst hcs
    exact ⟨s, none, 0, 0, [], rfl, rfl, Nat.le_refl _, Nat.zero_le _, Rd.nil, u32_nil, fun _ => rfl⟩
  · simp only [List.cons.injEq, and_true] at hcs
    subst hcs
    simp only [if_true] at hz
    refine ⟨s, some a, len, cap, zs.take len, rfl, by simp; omega, hl, hm, ?_, ?_, fun h => by cases h⟩
    · intro hp
      have hp' : 0 < zs.length := by simp at hp; omega
      obtain ⟨b, off, rfl, hc⟩ := ints_at hcell hp'
      refine ⟨b, off, rfl, fun j hj => ?_⟩
      have hj' : j < len ∧ j < zs.length := by simp at hj; omega
      rw [gx_take _ _ _ hj'.1]
      exact hc j hj'.2
    · refine u32_take (fun j => ?_) len
      by_cases hj : j < zs.length
      · have := hwz zs[j] (List.getElem_mem hj)
        rw [gx_mem zs j hj]
        have h4 : 0 ≤ zs[j] ∧ zs[j] ≤ 4294967295 := by
          simpa [Lit.wf, IntKind.min, IntKind.max, IntKind.signed, IntKind.bits] using this
        exact ⟨h4.1, by omega⟩
      · rw [gx_past zs _ (Nat.le_refl _) j (by omega)]; decide
set_option maxRecDepth 100000 in
theorem openRat {H : Type} {enc : TypeId × Value → H} {W : World} {base : Nat} {v0 : Value} {d0 : DataW H} {p0 : List MemPlace} (hv : Value.okWide Tryz.prog W .any base 26 v0)
    (h0 : DataW.Trod enc Tryz.prog W 0 (fun _ => true) true 26 v0 d0 p0) : ∃ c0 c1 c2 c3, v0 = .agg #[c0, c1, c2, c3] ∧ IntArg W (.agg #[c0, c1]) ∧ IntArg W (.agg #[c2, c3]) := by
  obtain ⟨cs, rfl, hsz⟩ := okWide_struct Tryz.underlying26 hv
  rw [cellsRat] at hsz
  obtain ⟨l⟩ := cs
  match l, hsz with
  | [c0, c1, c2, c3], _ =>
    obtain ⟨fuel, hf⟩ := h0
    obtain ⟨y0, y1, n, hx, -, hy0, hy1⟩ := trod_struct2 Tryz.underlying26 hf
    simp only [Value.cells, cellsInt, List.drop_zero, List.drop_succ_cons, List.take_succ_cons, List.take_zero] at hy0 hy1
    exact ⟨c0, c1, c2, c3, rfl, intCells hy0, intCells hy1⟩
end Go.Proofs.YtongkalfdgleaaaGreatDoor
