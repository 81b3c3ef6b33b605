/-
  What holds behind each part of a region 'v := f(g(a, b), h(c, d))', three calls that answer numbers and a variable, in whatever order its operations come up.
-/
import Derived.Test.YtongkalfdgleaaaGreatDoorLh
import Derived.RegionTactic
namespace Go.Proofs.YtongkalfdgleaaaGreatDoor
open Go.RowKit
set_option linter.unusedVariables false
set_option linter.unusedSimpArgs false

theorem NI.ltn {B : Nat} {w : World} {s : Bool} {p : Option Addr} {n : Nat} {xs : List Int} {z : Int} (h : NI B w s p n xs z) : 0 < n → ∀ x, p = some x → x.block < w.heap.size := fun hn x hx => by
  obtain ⟨b, off, hp, hlt⟩ := h.rd.lt (by rw [h.len]; exact hn)
  rw [hp] at hx
  cases hx
  exact hlt
theorem NI.setOff {B : Nat} {w : World} {s : Bool} {p : Option Addr} {n : Nat} {xs : List Int} {z : Int} (h : NI B w s p n xs z) {a : Addr} (hne : 0 < n → Off a.block p) (v : Value) : NI B (w.setCell a v) s p n xs z := by
  refine ⟨h.len, ?_, h.u, h.nrm, h.sg, h.pn, h.v, h.fr⟩
  intro hx
  exact h.rd.set_other a v (hne (by rw [← h.len]; exact hx)) hx
/-- One number is answered. -/
def AN (B : Nat) (w : World) (N : Nat) (V : Int) (r : Value) (s : Bool) (p : Option Addr) (n : Nat) (z : List Int) : Prop :=
  r = .agg #[.bool s, .slice p n n] ∧ NI B w s p n z V ∧ n ≤ N
theorem AN.later {B N : Nat} {w w' : World} {V : Int} {r : Value} {s : Bool} {p : Option Addr} {n : Nat} {z : List Int} (h : AN B w N V r s p n z) (hb : Below w.heap.size w w') : AN B w' N V r s p n z := ⟨h.1, h.2.1.below hb, h.2.2⟩
theorem AN.store {B N : Nat} {w : World} {V : Int} {r : Value} {s : Bool} {p : Option Addr} {n : Nat} {z : List Int} (h : AN B w N V r s p n z) {g : Nat} (hg : 0 < n → ∀ q, p = some q → q.block ≠ g) (u v : Value) : AN B ((w.setCell ⟨g, 0, none⟩ u).setCell ⟨g, 1, none⟩ v) N V r s p n z :=
  ⟨h.1, (h.2.1.setOff (a := ⟨g, 0, none⟩) (fun h0 q hq => hg h0 q hq) _).setOff (a := ⟨g, 1, none⟩) (fun h0 q hq => hg h0 q hq) _, h.2.2⟩
/-- Behind each part of the region. -/
structure G7 (wc w : World) (V1 V2 V3 : Int) (N1 N2 N3 : Nat) (c1 c2 c3 a s : Bool) (r1 r2 r3 x : Value) (t1 : Bool) (p1 : Option Addr) (n1 : Nat) (z1 : List Int) (t2 : Bool) (p2 : Option Addr) (n2 : Nat) (z2 : List Int) (t3 : Bool) (p3 : Option Addr) (n3 : Nat) (z3 : List Int) (g : Nat) : Prop where
  bel : Below wc.heap.size wc w
  M1 : c1 = true → s = false → AN wc.heap.size w N1 V1 r1 t1 p1 n1 z1
  M2 : c2 = true → s = false → AN wc.heap.size w N2 V2 r2 t2 p2 n2 z2
  M3 : c3 = true → AN wc.heap.size w N3 V3 r3 t3 p3 n3 z3
  X : a = true → XX wc.heap.size w x g s r3
  d : c3 = true → a = true → 0 < n3 → ∀ q, p3 = some q → q.block ≠ g
  o : s = true → c3 = true
  q : s = true → a = true
section
variable {wc w w1 : World} {V1 V2 V3 : Int} {N1 N2 N3 : Nat} {c1 c2 c3 a s : Bool} {r1 r2 r3 x : Value} {t1 : Bool} {p1 : Option Addr} {n1 : Nat} {z1 : List Int} {t2 : Bool} {p2 : Option Addr} {n2 : Nat} {z2 : List Int} {t3 : Bool} {p3 : Option Addr} {n3 : Nat} {z3 : List Int} {g : Nat}
theorem G7.call1 (h : G7 wc w V1 V2 V3 N1 N2 N3 c1 c2 c3 a s r1 r2 r3 x t1 p1 n1 z1 t2 p2 n2 z2 t3 p3 n3 z3 g) {t : Bool} {p : Option Addr} {n : Nat} {z : List Int} (hb : Below w.heap.size w w1) (hr : NI w.heap.size w1 t p n z V1) (hn : n ≤ N1) :
    G7 wc w1 V1 V2 V3 N1 N2 N3 true c2 c3 a s (.agg #[.bool t, .slice p n n]) r2 r3 x t p n z t2 p2 n2 z2 t3 p3 n3 z3 g :=
  ⟨h.bel.trans (hb.mono h.bel.size), fun _ _ => ⟨rfl, hr.mono h.bel.size, hn⟩, fun k l => (h.M2 k l).later hb, fun k => (h.M3 k).later hb, fun k => (h.X k).later hb, h.d, h.o, h.q⟩
theorem G7.call2 (h : G7 wc w V1 V2 V3 N1 N2 N3 c1 c2 c3 a s r1 r2 r3 x t1 p1 n1 z1 t2 p2 n2 z2 t3 p3 n3 z3 g) {t : Bool} {p : Option Addr} {n : Nat} {z : List Int} (hb : Below w.heap.size w w1) (hr : NI w.heap.size w1 t p n z V2) (hn : n ≤ N2) :
    G7 wc w1 V1 V2 V3 N1 N2 N3 c1 true c3 a s r1 (.agg #[.bool t, .slice p n n]) r3 x t1 p1 n1 z1 t p n z t3 p3 n3 z3 g :=
  ⟨h.bel.trans (hb.mono h.bel.size), fun k l => (h.M1 k l).later hb, fun _ _ => ⟨rfl, hr.mono h.bel.size, hn⟩, fun k => (h.M3 k).later hb, fun k => (h.X k).later hb, h.d, h.o, h.q⟩
theorem G7.call3 (h : G7 wc w V1 V2 V3 N1 N2 N3 c1 c2 c3 a s r1 r2 r3 x t1 p1 n1 z1 t2 p2 n2 z2 t3 p3 n3 z3 g) (hc : ¬ c3 = true) {t : Bool} {p : Option Addr} {n : Nat} {z : List Int} (hb : Below w.heap.size w w1) (hr : NI w.heap.size w1 t p n z V3) (hn : n ≤ N3) :
    G7 wc w1 V1 V2 V3 N1 N2 N3 c1 c2 true a s r1 r2 (.agg #[.bool t, .slice p n n]) x t1 p1 n1 z1 t2 p2 n2 z2 t p n z g :=
  ⟨h.bel.trans (hb.mono h.bel.size), fun k l => (h.M1 k l).later hb, fun k l => (h.M2 k l).later hb, fun _ => ⟨rfl, hr.mono h.bel.size, hn⟩, fun k => ((h.X k).later hb).res (fun e => hc (h.o e)), fun _ k h0 q hq e => by have h1 := (h.X k).lt; have h2 := hr.fr q hq; omega, fun _ => rfl, h.q⟩
theorem G7.alloc (h : G7 wc w V1 V2 V3 N1 N2 N3 c1 c2 c3 a s r1 r2 r3 x t1 p1 n1 z1 t2 p2 n2 z2 t3 p3 n3 z3 g) (hs : ¬ a = true) (u v : Value) (ty : Nat) :
    G7 wc (w.alloc (.cells #[u, v] ty)) V1 V2 V3 N1 N2 N3 c1 c2 c3 true s r1 r2 r3 (.pointer (some ⟨w.heap.size, 0, none⟩)) t1 p1 n1 z1 t2 p2 n2 z2 t3 p3 n3 z3 w.heap.size :=
  ⟨h.bel.alloc h.bel.size _, fun k l => (h.M1 k l).later (bel_al (Below.refl _ _)), fun k l => (h.M2 k l).later (bel_al (Below.refl _ _)), fun k => (h.M3 k).later (bel_al (Below.refl _ _)), fun _ => ⟨rfl, h.bel.size, u, v, Bx.new _ _ _ rfl, fun e => absurd (h.q e) hs⟩, fun k _ h0 q hq => Nat.ne_of_lt ((h.M3 k).2.1.ltn h0 q hq), h.o, fun _ => rfl⟩
theorem G7.store (h : G7 wc w V1 V2 V3 N1 N2 N3 c1 c2 c3 a s r1 r2 r3 x t1 p1 n1 z1 t2 p2 n2 z2 t3 p3 n3 z3 g) (ha : a = true) (hc : c3 = true) :
    G7 wc ((w.setCell ⟨g, 0, none⟩ (.bool t3)).setCell ⟨g, 1, none⟩ (.slice p3 n3 n3)) V1 V2 V3 N1 N2 N3 c1 c2 c3 a true r1 r2 r3 x t1 p1 n1 z1 t2 p2 n2 z2 t3 p3 n3 z3 g :=
  ⟨bset2 h.bel (h.X ha).2.1 _ _, nofun, nofun, fun k => (h.M3 k).store (h.d k ha) _ _, fun k => by have h1 := (h.X k).own (.bool t3) (.slice p3 n3 n3); rw [(h.M3 hc).1]; exact h1, h.d, fun _ => hc, fun _ => ha⟩
end
end Go.Proofs.YtongkalfdgleaaaGreatDoor
/-
  A region whose operations come up in whatever order: by what holds behind each part of it (no order is listed).
-/
namespace Go.Proofs.YtongkalfdgleaaaGreatDoor
section
variable {P : Program} {ops : Array Oper} {Q : Exit → Act → World → Prop} {md : Region.Mode}
theorem count_down {l : Array Bool} {i : Nat} (h : l.getD i true = false) : (l.setIfInBounds i true).toList.count false < l.toList.count false := by
  have hi : i < l.size := by
    rcases Nat.lt_or_ge i l.size with h' | h'
    · exact h'
    · simp [Array.getElem?_eq_none h'] at h
  have hv : l.toList[i]'(by simpa using hi) = false := by simpa [hi] using h
  have hp : 0 < l.toList.count false := List.count_pos_iff.2 (hv ▸ List.getElem_mem _)
  rw [Array.toList_setIfInBounds, List.count_set (by simpa using hi), hv]
  show _ - 1 + 0 < _
  omega
/-- Whoever waits waits for one ahead of it. -/
def ahead (ops : Array Oper) : Bool := (List.range ops.size).all fun i => ((ops[i]?).map (·.after.all fun e => decide (e.on < i))).getD true
theorem all_listed (ha : ahead ops = true) {listed : Array Bool} (hr : Region.ready md ops listed = []) : ∀ j, j < ops.size → listed.getD j true = true := by
  intro j
  induction j using Nat.strongRecOn with
  | _ j ih =>
    intro hj
    cases hc : listed.getD j true with
    | true => rfl
    | false =>
      exfalso
      have ho : ops[j]? = some ops[j] := Array.getElem?_eq_getElem hj
      have hsz : j < listed.size := by
        rcases Nat.lt_or_ge j listed.size with h' | h'
        · exact h'
        · simp [Array.getElem?_eq_none h'] at hc
      have : j ∈ Region.ready md ops listed := by
        rw [mem_ready]
        refine ⟨hc, ops[j], ho, fun e he _ => ?_⟩
        have h1 := List.all_eq_true.1 ha j (List.mem_range.2 hj)
        rw [ho] at h1
        simp only [Option.map_some, Option.getD_some, Array.all_eq_true_iff_forall_mem, decide_eq_true_eq] at h1
        have h2 := h1 e he
        have h3 := ih e.on h2 (by omega)
        have h4 : e.on < listed.size := by omega
        simpa [h4] using h3
      rw [hr] at this
      cases this
/-- A region in whatever order, by what holds behind each part of it. -/
theorem wpAny_inv (I : Array Bool → Act → World → Prop) (ha : ahead ops = true)
    (hend : ∀ listed a w, I listed a w → (∀ j, j < ops.size → listed.getD j true = true) → Q .normal a w)
    (hstep : ∀ listed a w, I listed a w → ∀ i o, ops[i]? = some o → listed.getD i true = false → (∀ e ∈ o.after, Region.binds md e = true → listed.getD e.on false = true) → wpOp P ops Q i (fun a' w' => I (listed.setIfInBounds i true) a' w') a w) :
    ∀ (fuel : Nat) (listed : Array Bool) (a : Act) (w : World), listed.toList.count false ≤ fuel → I listed a w → wpAny P md ops Q fuel listed a w := by
  intro fuel
  induction fuel with
  | zero =>
    intro listed a w hc hI
    have hr : Region.ready md ops listed = [] := by
      rw [List.eq_nil_iff_forall_not_mem]
      intro j hj
      have h1 := count_down (mem_ready.1 hj).1
      omega
    exact ⟨hr, hend _ _ _ hI (all_listed ha hr)⟩
  | succ fuel ih =>
    intro listed a w hc hI
    refine ⟨fun hr => hend _ _ _ hI (all_listed ha hr), fun i hi => ?_⟩
    obtain ⟨h0, o, ho, hd⟩ := mem_ready.1 hi
    exact wpOp_mono (fun a' w' h => ih _ _ _ (by have := count_down h0; omega) h) (hstep _ _ _ hI i o ho h0 hd)
theorem region_inv {id : Nat} {a : Act} {w : World} (hm : P.follows .mixedOrders = true) (I : Array Bool → Act → World → Prop) (ha : ahead ops = true)
    (hend : ∀ listed a w, I listed a w → (∀ j, j < ops.size → listed.getD j true = true) → Q .normal a w)
    (hstep : ∀ listed a w, I listed a w → ∀ i o, ops[i]? = some o → listed.getD i true = false → (∀ e ∈ o.after, Region.binds .any e = true → listed.getD e.on false = true) → wpOp P ops Q i (fun a' w' => I (listed.setIfInBounds i true) a' w') a w)
    (h : I (Array.replicate ops.size false) a { w with drawn := w.drawn + 1 }) : (Code.region id ops true).wp P Q a w :=
  wp_region_any hm (wpAny_inv I ha hend hstep _ _ _ _ (by simp) h)
end
end Go.Proofs.YtongkalfdgleaaaGreatDoor
