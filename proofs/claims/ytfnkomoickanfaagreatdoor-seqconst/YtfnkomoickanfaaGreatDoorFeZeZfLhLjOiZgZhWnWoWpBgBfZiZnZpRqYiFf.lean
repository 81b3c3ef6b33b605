/-
  Windows: ashlarlaw9.window (cut), ashlarref11.Window (the reference's).
-/
import Derived.Test.YtfnkomoickanfaaGreatDoorZsYdFaFdZjCwYh
import Derived.Deep.DeepFit
import Derived.Test.YtfnkomoickanfaaGreatDoorZdYbYc
import Derived.Test.YtfnkomoickanfaaGreatDoorUgUjLeUkUiWiWjUlDd
import Derived.Test.YtfnkomoickanfaaGreatDoorLnWrIbWgUeUf
import Derived.Test.YtfnkomoickanfaaGreatDoorAfBpBnBoAhAdDtAgWvUhAiAjCuOaOfJp
import Derived.Test.YtfnkomoickanfaaGreatDoorRvCzTeZa
import Derived.RegionTactic
import Derived.Test.YtfnkomoickanfaaGreatDoorCvNjUbUcUdOwRaWmBeRd
import Derived.Test.YtfnkomoickanfaaGreatDoorUaWhPnWkWlBxBb
import Derived.Test.YtfnkomoickanfaaGreatDoorD3GaGbKpGcGd
import Derived.Deep.DeepCutAuto
import Derived.Test.YtfnkomoickanfaaGreatDoorD0BsReRxRfRhCqRrRwVaVg
import Derived.Test.YtfnkomoickanfaaGreatDoorYaYpRnYq
import Derived.Test.YtfnkomoickanfaaGreatDoorD4PcRtVe
namespace Go.Proofs.YtfnkomoickanfaaGreatDoor
open Go.RowKit
set_option linter.unusedVariables false
set_option linter.unusedSimpArgs false
set_option maxHeartbeats 8000000
theorem info_rat4 : (Tryz.prog.info? 26).map (fun i => (i.zero, i.size, i.bytes)) = some (some (.agg #[.bool false, .slice none 0 0, .bool false, .slice none 0 0]), 4, 64) := by kernel_rfl
theorem info_rat2 : (Tryz.prog.info? 45).map (fun i => (i.zero, i.size, i.bytes)) = some (some (.agg #[.bool false, .slice none 0 0, .bool false, .slice none 0 0]), 4, 64) := by kernel_rfl
theorem lw_app {base : Nat} {t : TypeId} {E : World → Rat → Rq → Prop} (L : LastsQ E) {wr w1 w3 : World} {v : Value} {rs : List Rq} {zs : List Rat} {z : Rat} {s s' : Bool} {p p' : Option Addr} {n c n' c' k : Nat} {o : Obj} {g cap : Nat} (hk : rs.length = k) (h : LW base t E wr v rs zs) (hb1 : Below wr.heap.size wr w1) (hE : E w1 z ⟨s, p, n, c, s', p', n', c'⟩) (hF : Go.Proofs.YtfnkomoickanfaaGreatDoor.From wr.heap.size p) (hF' : Go.Proofs.YtfnkomoickanfaaGreatDoor.From wr.heap.size p')
    (hown : w3.ownsRow base t 4 (.slice (some ⟨g, 0, none⟩) (k + 1) cap) (k + 1) (frl rs ++ [.bool s, .slice p n c, .bool s', .slice p' n' c'])) (hgrow : (w1.alloc o).grownBy w3 v.ownBlock) (hat : v.ownBlock = some g ∨ g = (w1.alloc o).heap.size) :
    LW base t E w3 (.slice (some ⟨g, 0, none⟩) (k + 1) cap) (rs ++ [⟨s, p, n, c, s', p', n', c'⟩]) (zs ++ [z]) :=
  LW.app L hk h hb1 hE ⟨fun _ a ha => .inr (hF a ha), fun _ a ha => .inr (hF' a ha)⟩ hown hgrow hat
def RwP (K : Nat) (zs : List Rat) (w : World) (e : Ending) (w' : World) : Prop := ∃ q m mc rs, e = .returned (.slice q m mc) ∧ WA (EM K) w' q m mc rs zs ∧ Below w.heap.size w w'
theorem take_snocq (xs : List Rat) (k : Nat) (h : k < xs.length) : xs.take (k + 1) = xs.take k ++ [gq xs k] := by
  rw [List.take_succ_eq_append_getElem h]
  simp [gq, h]
set_option maxRecDepth 100000 in
theorem rWindow11_any {w : World} {K : Nat} {p : Option Addr} {n nc : Nat} {rs0 : List Rq} {zs : List Rat} (h : WA (EQa K) w p n nc rs0 zs) (hK : 1 ≤ K) (hK' : K ≤ 400) (hn : n ≤ 1000000) :
    Calls Tryz.prog 30 #[.slice p n nc] w (RwP K zs w) := by
  obtain ⟨i0, hi, hzz⟩ := Option.map_eq_some_iff.1 info_rat2
  simp only [Prod.mk.injEq] at hzz
  obtain ⟨hz0, hz1, hz2⟩ := hzz
  have HI : Hid (Tryz.prog.info? 45 = some i0 ∧ i0.zero = some (.agg #[.bool false, .slice none 0 0, .bool false, .slice none 0 0]) ∧ i0.size = 4 ∧ i0.bytes = 64) := ⟨hi, hz0, hz1, hz2⟩
  have HX : Hid (WA (EQa K) w p n nc rs0 zs) := h
  clear h hi hz0 hz1 hz2
  go_enter Tryz.func30, Tryz.ntmps30
  go_wp2_with fail
  go_loopw [3, 4] (fun qv iv wr => ∃ (k : Nat) (rs : List Rq), k ≤ n ∧ iv = .int .i64 k ∧ Hid (rs.length = k ∧ LW w.heap.size 45 (EM K) wr qv rs (zs.take k) ∧ Below w.heap.size w wr)) (fun _ iv _ => n - (intOf iv).toNat)
  case atStart => exact ⟨0, [], Nat.zero_le _, by go_num, rfl, LW.nil _ _ _ _, Below.refl _ _⟩
  case round =>
    obtain ⟨k, rs, hk, rfl, H⟩ := hrel
    rcases Nat.lt_or_ge k n with hlt | hge
    · obtain ⟨hel, hLR, hB⟩ := H.out
      have hPA := HX.out.below (lasts_EQa K) hB
      obtain ⟨b, o, hp, hc⟩ := hPA.rl (by rw [hPA.el]; omega)
      subst hp
      obtain ⟨c0, c1, c2, c3⟩ := hc k (by rw [hPA.el]; omega)
      have hev := hPA.ev k (by omega)
      have HT : Hid (zs.take (k + 1) = zs.take k ++ [gq zs k]) := take_snocq zs k (by rw [hPA.zl]; omega)
      have i1 : (k : Int) < (n : Int) := by omega
      generalize gr rs0 k = e0 at *
      have hfr := rFrom_q hev hK hK'
      clear hel hLR hB hc hPA hev
      generalize gq zs k = y at *
      go_wp2_with fail
      go_fit hfr
      rintro e w1 ⟨s1, p1, n1, s2, q1, m1, rfl, hM, hF1, hF2, hb1⟩
      have HE : Hid (EM K w1 y ⟨s1, p1, n1, n1, s2, q1, m1, m1⟩) := ⟨hM, rfl, rfl⟩
      obtain ⟨hi, hz0, hz1, hz2⟩ := HI.out
      have hown0 := own_below H.out.2.1.own hb1
      rw [H.out.1] at hown0
      have HO : Hid (w1.ownsRow w.heap.size 45 4 u3 k (frl rs)) := hown0
      have hsz : w.heap.size ≤ w1.heap.size := Nat.le_trans H.out.2.2.size hb1.size
      have HF : Hid (Go.Proofs.YtfnkomoickanfaaGreatDoor.From wr.heap.size p1 ∧ Go.Proofs.YtfnkomoickanfaaGreatDoor.From wr.heap.size q1) := ⟨hF1, hF2⟩
      clear hown0 hfr c0 c1 c2 c3 hM hF1 hF2
      go_wp2_with (refine wpList_append_lies _ rfl _ _ 70 rfl w.heap.size 45 i0 (.agg #[.bool false, .slice none 0 0, .bool false, .slice none 0 0]) 4 64 Tryz.underlying70 hi hz0 hz1 hz2 rfl (by decide) u3 k (frl rs) rfl (HO.out.alloc _) ⟨w1.heap.size, 0, none⟩ 1 1 [.bool s1, .slice p1 n1 n1, .bool s2, .slice q1 m1 m1] rfl rfl ?_ (fun x hx => by simp at hx; rcases hx with rfl | rfl | rfl | rfl <;> rfl) (by decide) (by unfold maxLen; omega) (by omega) (by simp; omega) _ rfl ?_; exact World.news_of_block (heap_alloc_new w1 _); intro g cap w3 hown3 hgrow3 hat3 hlt3; have hB3 : Below w.heap.size w w3 := ((bnext' H.out.2.2 hb1).alloc hsz _).grown hgrow3 (by simp; omega) (fun q hq => (HO.out.lt q hq).1); have HA : Hid (LW w.heap.size 45 (EM K) w3 (.slice (some ⟨g, 0, none⟩) (k + 1) cap) (rs ++ [⟨s1, p1, n1, n1, s2, q1, m1, m1⟩]) (zs.take k ++ [y])) := lw_app (lasts_EM _) H.out.1 H.out.2.1 hb1 HE.out HF.out.1 HF.out.2 hown3 hgrow3 hat3; clear hown3 hgrow3 hat3)
      refine ⟨⟨k + 1, rs ++ [⟨s1, p1, n1, n1, s2, q1, m1, m1⟩], by omega, by go_num, by have := H.out.1; simp; omega, by rw [HT.out]; exact HA.out, hB3⟩, by simp [intOf]; omega⟩
    · obtain rfl : k = n := by omega
      obtain ⟨hel, hLR, hB⟩ := H.out
      obtain ⟨q, cap, hv, hW⟩ := hLR.wa
      rw [hel] at hv hW
      subst hv
      have HR' : Hid (RwP K zs w (.returned (.slice q k cap)) wr) := ⟨q, k, cap, rs, rfl, by rw [List.take_of_length_le (by rw [HX.out.zl]; exact Nat.le_refl _)] at hW; exact hW, hB⟩
      clear hLR hB hW H hel
      have i1 : ¬ (k : Int) < (k : Int) := by omega
      go_wp2
      go_ret
      exact HR'.out
structure U2 (w wc : World) (Ka Kb : Nat) (Qa Qb : Rat) (sa ta sb tb : Bool) (pa qa pb qb : Option Addr) (na nac ma mac nb nbc mb mbc : Nat) (xa ya xb yb : List Int) : Prop where
  a : Bq wc w.heap.size (.bool sa) (.slice pa na nac) (.bool ta) (.slice qa ma mac)
  b : Bq wc (w.heap.size + 1) (.bool sb) (.slice pb nb nbc) (.bool tb) (.slice qb mb mbc)
  an : AI wc pa na nac xa
  ad : AI wc qa ma mac ya
  bn : AI wc pb nb nbc xb
  bd : AI wc qb mb mbc yb
  ap : 0 < ival ta ya
  bp : 0 < ival tb yb
  va : Rat.divInt (ival sa xa) (ival ta ya) = Qa
  vb : Rat.divInt (ival sb xb) (ival tb yb) = Qb
  la : na ≤ Ka
  la' : ma ≤ Ka
  lb : nb ≤ Kb
  lb' : mb ≤ Kb
  bel : Below w.heap.size w wc
theorem U2.later {w wc w' : World} {Ka Kb : Nat} {Qa Qb : Rat} {sa ta sb tb : Bool} {pa qa pb qb : Option Addr} {na nac ma mac nb nbc mb mbc : Nat} {xa ya xb yb : List Int} (h : U2 w wc Ka Kb Qa Qb sa ta sb tb pa qa pb qb na nac ma mac nb nbc mb mbc xa ya xb yb) (hb : Below wc.heap.size wc w') : U2 w w' Ka Kb Qa Qb sa ta sb tb pa qa pb qb na nac ma mac nb nbc mb mbc xa ya xb yb :=
  ⟨h.a.later hb, h.b.later hb, h.an.below hb, h.ad.below hb, h.bn.below hb, h.bd.below hb, h.ap, h.bp, h.va, h.vb, h.la, h.la', h.lb, h.lb', bnext' h.bel hb⟩
def RR (B : Nat) (w : World) (V : Int) (r : Value) (s : Bool) (p : Option Addr) (n : Nat) (d : List Int) : Prop :=
  r = .agg #[.bool s, .slice p n n] ∧ RN w s p n d ∧ rval s d = V ∧ n ≤ 48 ∧ Go.Proofs.YtfnkomoickanfaaGreatDoor.From B p
theorem RR.later {B : Nat} {w w' : World} {V : Int} {r : Value} {s : Bool} {p : Option Addr} {n : Nat} {d : List Int} (h : RR B w V r s p n d) (hb : Below w.heap.size w w') : RR B w' V r s p n d := ⟨h.1, h.2.1.below hb, h.2.2⟩
def XX (B : Nat) (w : World) (x : Value) (g : Nat) (done : Bool) (r : Value) : Prop :=
  x = .pointer (some ⟨g, 0, none⟩) ∧ B ≤ g ∧ ∃ u v, Bx w g u v ∧ (done = true → r = .agg #[u, v])
theorem XX.later {B : Nat} {w w' : World} {x : Value} {g : Nat} {done : Bool} {r : Value} (h : XX B w x g done r) (hb : Below w.heap.size w w') : XX B w' x g done r := by
  obtain ⟨h1, h2, u, v, h3, h4⟩ := h
  exact ⟨h1, h2, u, v, h3.later hb, h4⟩
theorem XX.lt {B : Nat} {w : World} {x : Value} {g : Nat} {done : Bool} {r : Value} (h : XX B w x g done r) : g < w.heap.size := by
  obtain ⟨h1, h2, u, v, h3, h4⟩ := h
  exact block_lt_of_cell h3.c0
theorem XX.own {B : Nat} {w : World} {x : Value} {g : Nat} {done : Bool} {r : Value} (h : XX B w x g done r) (u v : Value) : XX B ((w.setCell ⟨g, 0, none⟩ u).setCell ⟨g, 1, none⟩ v) x g true (.agg #[u, v]) := by
  obtain ⟨h1, h2, u', v', h3, h4⟩ := h
  exact ⟨h1, h2, u, v, Bx_set h3, fun _ => rfl⟩
theorem NI.ltn {B : Nat} {w : World} {s : Bool} {p : Option Addr} {n : Nat} {xs : List Int} {z : Int} (h : NI B w s p n xs z) : 0 < n → ∀ x, p = some x → x.block < w.heap.size := fun hn x hx => by
  obtain ⟨b, off, hp, hlt⟩ := h.rd.lt (by rw [h.len]; exact hn)
  rw [hp] at hx
  cases hx
  exact hlt
def AN (B : Nat) (w : World) (N : Nat) (V : Int) (r : Value) (s : Bool) (p : Option Addr) (n : Nat) (z : List Int) : Prop :=
  r = .agg #[.bool s, .slice p n n] ∧ NI B w s p n z V ∧ n ≤ N
theorem AN.later {B N : Nat} {w w' : World} {V : Int} {r : Value} {s : Bool} {p : Option Addr} {n : Nat} {z : List Int} (h : AN B w N V r s p n z) (hb : Below w.heap.size w w') : AN B w' N V r s p n z := ⟨h.1, h.2.1.below hb, h.2.2⟩
structure G7 (wc w : World) (V1 V2 V3 : Int) (N1 N2 N3 : Nat) (c1 c2 c3 a s : Bool) (r1 r2 r3 x : Value) (t1 : Bool) (p1 : Option Addr) (n1 : Nat) (z1 : List Int) (t2 : Bool) (p2 : Option Addr) (n2 : Nat) (z2 : List Int) (t3 : Bool) (p3 : Option Addr) (n3 : Nat) (z3 : List Int) (g : Nat) : Prop where
  bel : Below wc.heap.size wc w
  M1 : c1 = true → s = false → AN wc.heap.size w N1 V1 r1 t1 p1 n1 z1
  M2 : c2 = true → s = false → AN wc.heap.size w N2 V2 r2 t2 p2 n2 z2
  M3 : c3 = true → AN wc.heap.size w N3 V3 r3 t3 p3 n3 z3
  X : a = true → XX wc.heap.size w x g s r3
  d : c3 = true → a = true → 0 < n3 → ∀ q, p3 = some q → q.block ≠ g
  o : s = true → c3 = true
  q : s = true → a = true
section
variable {wc w w1 : World} {V1 V2 V3 : Int} {N1 N2 N3 : Nat} {c1 c2 c3 a s : Bool} {r1 r2 r3 x : Value} {t1 : Bool} {p1 : Option Addr} {n1 : Nat} {z1 : List Int} {t2 : Bool} {p2 : Option Addr} {n2 : Nat} {z2 : List Int} {t3 : Bool} {p3 : Option Addr} {n3 : Nat} {z3 : List Int} {g : Nat}
theorem G7.alloc (h : G7 wc w V1 V2 V3 N1 N2 N3 c1 c2 c3 a s r1 r2 r3 x t1 p1 n1 z1 t2 p2 n2 z2 t3 p3 n3 z3 g) (hs : ¬ a = true) (u v : Value) (ty : Nat) :
    G7 wc (w.alloc (.cells #[u, v] ty)) V1 V2 V3 N1 N2 N3 c1 c2 c3 true s r1 r2 r3 (.pointer (some ⟨w.heap.size, 0, none⟩)) t1 p1 n1 z1 t2 p2 n2 z2 t3 p3 n3 z3 w.heap.size :=
  ⟨h.bel.alloc h.bel.size _, fun k l => (h.M1 k l).later (bel_al (Below.refl _ _)), fun k l => (h.M2 k l).later (bel_al (Below.refl _ _)), fun k => (h.M3 k).later (bel_al (Below.refl _ _)), fun _ => ⟨rfl, h.bel.size, u, v, Bx.new _ _ _ rfl, fun e => absurd (h.q e) hs⟩, fun k _ h0 q hq => Nat.ne_of_lt ((h.M3 k).2.1.ltn h0 q hq), h.o, fun _ => rfl⟩
end
section
variable {P : Program} {ops : Array Oper} {Q : Exit → Act → World → Prop} {md : Region.Mode}
theorem count_down {l : Array Bool} {i : Nat} (h : l.getD i true = false) : (l.setIfInBounds i true).toList.count false < l.toList.count false := by
  have hi : i < l.size := by
    rcases Nat.lt_or_ge i l.size with h' | h'
    · exact h'
    · simp [Array.getElem?_eq_none h'] at h
  have hv : l.toList[i]'(by simpa using hi) = false := by simpa [hi] using h
  have hp : 0 < l.toList.count false := List.count_pos_iff.2 (hv ▸ List.getElem_mem _)
  rw [Array.toList_setIfInBounds, List.count_set (by simpa using hi), hv]
  show _ - 1 + 0 < _
  omega
def ahead (ops : Array Oper) : Bool := (List.range ops.size).all fun i => ((ops[i]?).map (·.after.all fun e => decide (e.on < i))).getD true
end
structure Bg (w wc : World) (ga g2 g3 : Nat) (sa : Bool) (pa : Option Addr) (na : Nat) (xa : List Int) (s3 : Bool) (p3 : Option Addr) (n3 : Nat) (x3 : List Int) (s4 : Bool) (p4 : Option Addr) (n4 : Nat) (x4 : List Int) : Prop where
  ba : Bx wc ga (.bool sa) (.slice pa na na)
  b2 : Bx wc g2 (.bool s3) (.slice p3 n3 n3)
  b3 : Bx wc g3 (.bool s4) (.slice p4 n4 n4)
  ia : NI 0 wc sa pa na xa (-7)
  i2 : NI 0 wc s3 p3 n3 x3 (-4)
  i3 : NI 0 wc s4 p4 n4 x4 1
  la : na ≤ 2
  l2 : n3 ≤ 8
  l3 : n4 ≤ 8
  bel : Below w.heap.size w wc
theorem Bg.later {w wc w' : World} {ga g2 g3 : Nat} {sa : Bool} {pa : Option Addr} {na : Nat} {xa : List Int} {s3 : Bool} {p3 : Option Addr} {n3 : Nat} {x3 : List Int} {s4 : Bool} {p4 : Option Addr} {n4 : Nat} {x4 : List Int} (h : Bg w wc ga g2 g3 sa pa na xa s3 p3 n3 x3 s4 p4 n4 x4) (hb : Below wc.heap.size wc w') : Bg w w' ga g2 g3 sa pa na xa s3 p3 n3 x3 s4 p4 n4 x4 :=
  ⟨h.ba.later hb, h.b2.later hb, h.b3.later hb, h.ia.below hb, h.i2.below hb, h.i3.below hb, h.la, h.l2, h.l3, h.bel.trans (hb.mono h.bel.size)⟩
structure Vq (w : World) (g B : Nat) (s : Bool) (p : Option Addr) (n : Nat) (xs : List Int) (t : Bool) (q : Option Addr) (m : Nat) (ys : List Int) (r : Rat) : Prop where
  b : Bq w g (.bool s) (.slice p n n) (.bool t) (.slice q m m)
  r : NR B w s p n xs t q m ys r
  l : n ≤ 1
  l' : m ≤ 1
section
variable {w w' : World} {g B : Nat} {s : Bool} {p : Option Addr} {n : Nat} {xs : List Int} {t : Bool} {q : Option Addr} {m : Nat} {ys : List Int} {r : Rat}
theorem Vq.later (h : Vq w g B s p n xs t q m ys r) (hb : Below w.heap.size w w') : Vq w' g B s p n xs t q m ys r := ⟨h.b.later hb, h.r.below hb, h.l, h.l'⟩
theorem Vq.new (h : NR B w s p n xs t q m ys r) (h1 : r.num.natAbs ≤ 9) (h2 : r.den ≤ 9) (T : Nat) : Vq (w.alloc (.cells #[.bool s, .slice p n n, .bool t, .slice q m m] T)) w.heap.size B s p n xs t q m ys r := by
  have e : pw 1 = 4294967296 := by decide
  exact ⟨Bq.new _ _ _ _ _ rfl, h.below (bel_al (Below.refl _ _)), h.num.le (by omega), h.den.le (by omega)⟩
variable {B2 : Nat} {s2 : Bool} {p2 : Option Addr} {n2 : Nat} {x2 : List Int} {t2 : Bool} {q2 : Option Addr} {m2 : Nat} {y2 : List Int} {r2 : Rat}
end
section
variable {w w' : World} {K Ka Kb : Nat} {s t sa ta sb tb : Bool} {p q pa qa pb qb : Option Addr} {n nc m mc na nac ma mac nb nbc mb mbc : Nat} {r ra rb : Rat} {B : Nat}
end
structure Wq (w : World) (g K : Nat) (s : Bool) (p : Option Addr) (n nc : Nat) (t : Bool) (q : Option Addr) (m mc : Nat) (r : Rat) : Prop where
  b : Bq w g (.bool s) (.slice p n nc) (.bool t) (.slice q m mc)
  a : AQ w K s p n nc t q m mc r
theorem Wq.later {w w' : World} {g K : Nat} {s : Bool} {p : Option Addr} {n nc : Nat} {t : Bool} {q : Option Addr} {m mc : Nat} {r : Rat} (h : Wq w g K s p n nc t q m mc r) (hb : Below w.heap.size w w') : Wq w' g K s p n nc t q m mc r := ⟨h.b.later hb, h.a.below hb⟩
section
variable {w w' : World} {K Ka Kb : Nat} {s t sa ta sb tb : Bool} {p q pa qa pb qb : Option Addr} {n nc m mc na nac ma mac nb nbc mb mbc : Nat} {r ra rb : Rat} {B : Nat}
end
theorem rNeg_v {w : World} {N : Nat} {x : Int} {s : Bool} {p : Option Addr} {n : Nat} (h : RV w N x s p n) :
    Calls Tryz.prog 85 #[.agg #[.bool s, .slice p n n]] w fun e w' => ∃ s', e = .returned (.agg #[.bool s', .slice p n n]) ∧ RV w' N (-x) s' p n ∧ Below w.heap.size w w' := by
  obtain ⟨ds, h1, rfl, h3⟩ := h
  refine (rNeg_rn h1).mono ?_
  rintro e w' ⟨s', g1, g2, g3, g4⟩
  exact ⟨s', g1, ⟨ds, g2, g3.out, h3⟩, g4⟩
theorem rBits_v {w : World} {N : Nat} {x : Int} {s : Bool} {p : Option Addr} {n : Nat} (h : RV w N x s p n) (hN : N ≤ 1000) :
    Calls Tryz.prog 72 #[.agg #[.bool s, .slice p n n]] w fun e w' => ∃ b : Nat, e = .returned (.int .i64 (b : Int)) ∧ b ≤ 16 * N ∧ Hid (IB b (x.natAbs : Int)) ∧ Below w.heap.size w w' := by
  have hbd := h.bd
  obtain ⟨ds, h1, rfl, h3⟩ := h
  have a := vd_nonneg h1.u
  have e : ((rval s ds).natAbs : Int) = vd ds := by unfold rval; split <;> omega
  rw [e] at hbd ⊢
  refine (rBits_any s p n n ds w h1.len (by omega) h1.nrm h1.rd h1.u).mono ?_
  rintro e w' ⟨b, g1, g2, g3⟩
  refine ⟨b, g1, ?_, g2, g3⟩
  have hp : pd N = 2 ^ (16 * N) := by rw [pd, show (65536 : Int) = 2 ^ 16 from rfl, ← Int.pow_mul]
  rcases Nat.lt_or_ge (16 * N) b with hb | hb
  · rcases g2.out.2.2 with k | k
    · omega
    · have := p2_mono (show 16 * N ≤ b - 1 by omega)
      omega
  · exact hb
set_option maxRecDepth 100000 in
theorem rBits_q {w : World} {K : Nat} {s t : Bool} {p q : Option Addr} {n m : Nat} {r : Rat} (h : MQ w K s p n t q m r) (hK : K ≤ 400) :
    Calls Tryz.prog 115 #[.agg #[.bool s, .slice p n n, .bool t, .slice q m m]] w fun e w' => ∃ b c : Nat, e = .returned (.int .i64 ((b : Int) + c)) ∧ Hid (IB b (r.num.natAbs : Int)) ∧ Hid (IB c (r.den : Int)) ∧ Below w.heap.size w w' := by
  go_enter Tryz.func115, Tryz.ntmps115
  go_wp2_with fail
  have hA0 : Bq (w.alloc (.cells #[.bool s, .slice p n n, .bool t, .slice q m m] 45)) w.heap.size (.bool s) (.slice p n n) (.bool t) (.slice q m m) := Bq.new _ _ _ _ _ rfl
  have hW : Below w.heap.size w (w.alloc (.cells #[.bool s, .slice p n n, .bool t, .slice q m m] 45)) := (Below.refl _ _).alloc (Nat.le_refl _) _
  generalize w.alloc (.cells #[.bool s, .slice p n n, .bool t, .slice q m m] 45) = W at *
  have k := h.below hW
  have nA : Hid (w.heap.size ≠ w.heap.size + 1) := (by omega : w.heap.size ≠ w.heap.size + 1)
  obtain ⟨a0, a1, a2, a3, -, -, -, -⟩ := hA0
  go_region_held3 (fun w' => w'.cell? ⟨w.heap.size, 0, none⟩ = some (.bool s) ∧ w'.cell? ⟨w.heap.size, 1, none⟩ = some (.slice p n n) ∧ w'.cell? ⟨w.heap.size, 2, none⟩ = some (.bool t) ∧ w'.cell? ⟨w.heap.size, 3, none⟩ = some (.slice q m m)) (first | with_reducible exact ⟨a0, a1, a2, a3⟩ | with_reducible exact keepc4 ⟨a0, a1, a2, a3⟩ hV1 | with_reducible exact keepc4 ⟨a0, a1, a2, a3⟩ hV2 | with_reducible exact keep4s ⟨a0, a1, a2, a3⟩ hV2 nA | (simp [go_sem, *]; done))
    (first
      | (go_at_call_of 72 (Value.agg #[.bool s, .slice p n n]); refine (rBits_v k.num.drew (by omega)).mono ?_; rintro e v1 ⟨b, rfl, lb, hb, hv1⟩; have hV1 := undrew hv1)
      | (go_at_call_of 72 (Value.agg #[.bool t, .slice q m m]); refine (rBits_v (k.den.below hV1) (by omega)).mono ?_; rintro e v2 ⟨c, rfl, lc, hc, hv2⟩; have hV2 := bnext' hV1 hv2; have v0 : IntKind.i64.wrap ((b : Int) + (c : Int)) = (b : Int) + (c : Int) := (by rw [IntKind.wrap_i64]; omega)))
  clear a0 a1 a2 a3
  go_wp2
  go_ret
  exact ⟨b, c, rfl, hb, hc, bnext' hW hV2⟩
def qb (r : Rat) : Nat := zb r.num + zb (r.den : Int)
def wbt (zs : List Rat) : Nat := zs.foldl (fun m z => max m (qb z)) 0
theorem wbt_take (zs : List Rat) (j : Nat) (h : j < zs.length) : wbt (zs.take (j + 1)) = max (wbt (zs.take j)) (qb (gq zs j)) := by
  rw [take_snocq zs j h, wbt, List.foldl_append]
  rfl
theorem ib_two {b c : Nat} {r : Rat} (h1 : IB b (r.num.natAbs : Int)) (h2 : IB c (r.den : Int)) : b + c = qb r := by
  have e1 := h1.uniq (zb_ib r.num)
  have e2 := h2.uniq (by have := zb_ib (r.den : Int); rwa [Int.natAbs_natCast] at this)
  rw [e1, e2, qb]
theorem rBits_qb {w : World} {K : Nat} {e0 : Rq} {r : Rat} (h : EM K w r e0) (hK : K ≤ 400) :
    Calls Tryz.prog 115 #[.agg #[.bool e0.s, .slice e0.p e0.n e0.c, .bool e0.t, .slice e0.q e0.m e0.d]] w fun e w' => e = .returned (.int .i64 (qb r : Int)) ∧ Below w.heap.size w w' := by
  obtain ⟨h1, h2, h3⟩ := h
  rw [h2, h3]
  refine (rBits_q h1 hK).mono ?_
  rintro e w' ⟨b, c, rfl, hb, hc, hw⟩
  exact ⟨by rw [← ib_two hb.out hc.out]; push_cast; rfl, hw⟩
theorem zb_pw {z : Int} {K : Nat} (h : (z.natAbs : Int) < pw K) : zb z ≤ 32 * K := by
  have h1 := zb_ib z
  rw [pw_two] at h
  rcases h1.2.2 with h3 | h3
  · omega
  · rcases Nat.lt_or_ge (32 * K) (zb z) with h4 | h4
    · exfalso
      have h5 : (2 : Int) ^ (32 * K) ≤ 2 ^ (zb z - 1) := p2_mono (by omega)
      omega
    · exact h4
theorem qb_bd {w : World} {r : Rat} {e0 : Rq} (h : EQa 24 w r e0) : qb r ≤ 1600 := by
  have h1 := AQ.sz h (by decide)
  have h2 := zb_pw h1.1
  have h3 := zb_pw h1.2
  unfold qb
  omega
theorem wbt_bd (zs : List Rat) (M : Nat) (h : ∀ j, j < zs.length → qb (gq zs j) ≤ M) : ∀ j, j ≤ zs.length → wbt (zs.take j) ≤ M
  | 0, _ => by simp [wbt]
  | j + 1, hj => by
    rw [wbt_take zs j (by omega)]
    have := wbt_bd zs M h j (by omega)
    have := h j (by omega)
    omega
set_option maxRecDepth 100000 in
theorem rWindow9_any {w : World} {K : Nat} {p : Option Addr} {n nc : Nat} {rs0 : List Rq} {zs : List Rat} (h : WA (EM K) w p n nc rs0 zs) (hK : K ≤ 400) (hn : n ≤ 1000000) (hz : ∀ j, j < n → qb (gq zs j) ≤ 1000000) :
    Calls Tryz.prog 71 #[.slice p n nc] w fun e w' => e = .returned (.int .i64 (wbt zs : Int)) ∧ Below w.heap.size w w' := by
  have HX : Hid (WA (EM K) w p n nc rs0 zs) := h
  have HZ : Hid (∀ j, j < n → qb (gq zs j) ≤ 1000000) := hz
  clear h hz
  go_enter Tryz.func71, Tryz.ntmps71
  go_wp2_with fail
  go_loopw [3, 4] (fun mv iv wr => ∃ k : Nat, k ≤ n ∧ iv = .int .i64 k ∧ mv = .int .i64 (wbt (zs.take k)) ∧ Hid (Below w.heap.size w wr)) (fun _ iv _ => n - (intOf iv).toNat)
  case atStart => exact ⟨0, Nat.zero_le _, by go_num, by simp [wbt], Below.refl _ _⟩
  case round =>
    obtain ⟨k, hk, rfl, rfl, H⟩ := hrel
    rcases Nat.lt_or_ge k n with hlt | hge
    · have hPA := HX.out.below (lasts_EM K) H.out
      obtain ⟨b, o, hp, hc⟩ := hPA.rl (by rw [hPA.el]; omega)
      subst hp
      obtain ⟨c0, c1, c2, c3⟩ := hc k (by rw [hPA.el]; omega)
      have hev := hPA.ev k (by omega)
      have HT : Hid (wbt (zs.take (k + 1)) = max (wbt (zs.take k)) (qb (gq zs k))) := wbt_take zs k (by rw [hPA.zl]; omega)
      have i1 : (k : Int) < (n : Int) := by omega
      generalize gr rs0 k = e0 at *
      have hcall := rBits_qb hev hK
      clear hc hPA hev
      generalize qb (gq zs k) = t at *
      generalize wbt (zs.take k) = d at *
      go_wp2_with fail
      go_fit hcall
      rintro e w1 ⟨rfl, hb1⟩
      have HB1 : Hid (Below w.heap.size w w1) := bnext' H.out hb1
      clear c0 c1 c2 c3 hcall hb1
      by_cases hdt : d < t
      · have j1 : (d : Int) < (t : Int) := by omega
        have HM : Hid (wbt (zs.take (k + 1)) = t) := by show _ = _; have := HT.out; omega
        go_wp2
        go_roundw
        case rel => exact ⟨k + 1, by omega, by go_num, by rw [HM.out], HB1.out⟩
        case measure => simp [intOf]; omega
      · have j1 : ¬ (d : Int) < (t : Int) := by omega
        have HM : Hid (wbt (zs.take (k + 1)) = d) := by show _ = _; have := HT.out; omega
        go_wp2
        go_roundw
        case rel => exact ⟨k + 1, by omega, by go_num, by rw [HM.out], HB1.out⟩
        case measure => simp [intOf]; omega
    · obtain rfl : k = n := by omega
      have i1 : ¬ (k : Int) < (k : Int) := by omega
      have HZ' : Hid (zs.take k = zs) := List.take_of_length_le (by rw [HX.out.zl]; exact Nat.le_refl _)
      go_wp2
      go_ret
      exact ⟨by rw [HZ'.out]; rfl, H.out⟩
end Go.Proofs.YtfnkomoickanfaaGreatDoor
