/-
  ashlarref1.Gcd.
-/
import Derived.Test.YtkbgeggflhfleaaGreatDoorTe
namespace Go.Proofs.YtkbgeggflhfleaaGreatDoor
open Go.RowKit
set_option linter.unusedVariables false
set_option linter.unusedSimpArgs false

def rdd (w : World) : Option Value → Nat
  | some (.slice (some ⟨b, off, none⟩) n _) => (vd ((List.range n).map fun j => match w.cell? ⟨b, off + j, none⟩ with | some (.int _ x) => x | _ => 0)).toNat
  | _ => 0
theorem rdd_rn {w : World} {p : Option Addr} {n c : Nat} {ds : List Int} {s : Bool} (h : RN w s p n ds) : rdd w (some (.slice p n c)) = (vd ds).toNat := by
  rcases Nat.eq_zero_or_pos n with h0 | h0
  · have e : ds = [] := List.eq_nil_of_length_eq_zero (by rw [h.len]; exact h0)
    subst h0
    rw [e]
    cases p with
    | none => rfl
    | some a => obtain ⟨b, off, r⟩ := a; cases r <;> rfl
  · obtain ⟨b, off, rfl, hc⟩ := h.rd (by rw [h.len]; exact h0)
    have e : ((List.range n).map fun j => match w.cell? ⟨b, off + j, none⟩ with | some (.int _ x) => x | _ => 0) = ds := by
      refine gx_ext _ _ (by simp [h.len]) fun j hj => ?_
      have hj' : j < n := by simpa using hj
      rw [gx_mem _ _ hj]
      simp only [List.getElem_map, List.getElem_range, hc j (by rw [h.len]; exact hj')]
    simp only [rdd, e]
def RgPost (g : Nat) (N : Nat) (w : World) (e : Ending) (w' : World) : Prop :=
  ∃ p' n' ds', e = .returned (.agg #[.bool false, .slice p' n' n']) ∧ RN w' false p' n' ds' ∧ rval false ds' = (g : Int) ∧ n' ≤ N ∧ Below w.heap.size w w'
def RgPostV (V : Nat → Prop) (g : Nat) (N : Nat) (w : World) (e : Ending) (w' : World) : Prop :=
  ∃ p' n' ds', e = .returned (.agg #[.bool false, .slice p' n' n']) ∧ RN w' false p' n' ds' ∧ rval false ds' = (g : Int) ∧ n' ≤ N ∧ Below w.heap.size w w' ∧ (0 < n' → ∀ x, p' = some x → V x.block)
structure Gv (w wc : World) (g1 g2 : Nat) (p1 : Option Addr) (n1 : Nat) (d1 : List Int) (p2 : Option Addr) (n2 : Nat) (d2 : List Int) (g N : Nat) (V : Nat → Prop) : Prop where
  b1 : Bx wc g1 (.bool false) (.slice p1 n1 n1)
  b2 : Bx wc g2 (.bool false) (.slice p2 n2 n2)
  br : Bx wc (w.heap.size + 1 + 1) (.bool false) (.slice none 0 0)
  r1 : RN wc false p1 n1 d1
  r2 : RN wc false p2 n2 d2
  ne : g1 ≠ g2
  l1 : w.heap.size + 1 + 1 < g1
  l2 : w.heap.size + 1 + 1 < g2
  o1 : 0 < n1 → ∀ x, p1 = some x → x.block ≠ g1 ∧ x.block ≠ g2 ∧ x.block ≠ w.heap.size + 1 + 1
  o2 : 0 < n2 → ∀ x, p2 = some x → x.block ≠ g1 ∧ x.block ≠ g2 ∧ x.block ≠ w.heap.size + 1 + 1
  k1 : n1 ≤ N
  k2 : n2 ≤ N
  g : Int.gcd (vd d1) (vd d2) = g
  bl : Below w.heap.size w wc
  v1 : 0 < n1 → ∀ x, p1 = some x → V x.block
  v2 : 0 < n2 → ∀ x, p2 = some x → V x.block

theorem Gv.later {w wc wc' : World} {g1 g2 : Nat} {p1 : Option Addr} {n1 : Nat} {d1 : List Int} {p2 : Option Addr} {n2 : Nat} {d2 : List Int} {g N : Nat} {V : Nat → Prop} (h : Gv w wc g1 g2 p1 n1 d1 p2 n2 d2 g N V) (hb : Below wc.heap.size wc wc') : Gv w wc' g1 g2 p1 n1 d1 p2 n2 d2 g N V :=
  ⟨h.b1.later hb, h.b2.later hb, h.br.later hb, h.r1.below hb, h.r2.below hb, h.ne, h.l1, h.l2, h.o1, h.o2, h.k1, h.k2, h.g, bnext h.bl (Nat.le_refl _) hb, h.v1, h.v2⟩

theorem Bx.drew {w : World} {r : Nat} {a b : Value} (h : Bx w r a b) : Bx w.drew r a b := ⟨h.c0, h.c1, h.f0, h.f1⟩
theorem Gv.step {w W3 : World} {g1 g2 : Nat} {p1 : Option Addr} {n1 : Nat} {d1 : List Int} {p2 : Option Addr} {n2 : Nat} {d2 : List Int} {g N : Nat} {V : Nat → Prop} {p4 : Option Addr} {n4 : Nat} {d3 d4 : List Int} (hV : Gv w W3 g1 g2 p1 n1 d1 p2 n2 d2 g N V) (hR : RN W3 false p4 n4 d4)
    (ho : 0 < n4 → ∀ x, p4 = some x → x.block ≠ g1 ∧ x.block ≠ g2 ∧ x.block ≠ w.heap.size + 1 + 1) (hn : n4 ≤ n2) (heq : vd d3 * vd d2 + vd d4 = vd d1) (hv4 : 0 < n4 → ∀ x, p4 = some x → V x.block) :
    Gv w ((((W3.setCell ⟨g1, 0, none⟩ (.bool false)).setCell ⟨g1, 1, none⟩ (.slice p2 n2 n2)).setCell ⟨g2, 0, none⟩ (.bool false)).setCell ⟨g2, 1, none⟩ (.slice p4 n4 n4)).drew g1 g2 p2 n2 d2 p4 n4 d4 g N V ∧
    rdd ((((W3.setCell ⟨g1, 0, none⟩ (.bool false)).setCell ⟨g1, 1, none⟩ (.slice p2 n2 n2)).setCell ⟨g2, 0, none⟩ (.bool false)).setCell ⟨g2, 1, none⟩ (.slice p4 n4 n4)).drew (((((W3.setCell ⟨g1, 0, none⟩ (.bool false)).setCell ⟨g1, 1, none⟩ (.slice p2 n2 n2)).setCell ⟨g2, 0, none⟩ (.bool false)).setCell ⟨g2, 1, none⟩ (.slice p4 n4 n4)).drew.cell? ⟨g2, 1, none⟩) = (vd d4).toNat := by
  have hne := hV.ne
  have l1 := hV.l1
  have l2 := hV.l2
  have e1 := (Bx_oth (x := .bool false) (y := .slice p4 n4 n4) (Bx_set (x := .bool false) (y := .slice p2 n2 n2) hV.b1) hne).drew
  have e2 := (Bx_set (x := .bool false) (y := .slice p4 n4 n4) (Bx_oth (x := .bool false) (y := .slice p2 n2 n2) hV.b2 (fun e => hne e.symm))).drew
  have e3 := (Bx_oth (x := .bool false) (y := .slice p4 n4 n4) (Bx_oth (x := .bool false) (y := .slice p2 n2 n2) hV.br (show w.heap.size + 1 + 1 ≠ g1 by omega)) (show w.heap.size + 1 + 1 ≠ g2 by omega)).drew
  have r2 := ((((hV.r2.set (a := ⟨g1, 0, none⟩) (fun h x hx => (hV.o2 h x hx).1) (.bool false)).set (a := ⟨g1, 1, none⟩) (fun h x hx => (hV.o2 h x hx).1) (.slice p2 n2 n2)).set (a := ⟨g2, 0, none⟩) (fun h x hx => (hV.o2 h x hx).2.1) (.bool false)).set (a := ⟨g2, 1, none⟩) (fun h x hx => (hV.o2 h x hx).2.1) (.slice p4 n4 n4)).drew
  have r4 := ((((hR.set (a := ⟨g1, 0, none⟩) (fun h x hx => (ho h x hx).1) (.bool false)).set (a := ⟨g1, 1, none⟩) (fun h x hx => (ho h x hx).1) (.slice p2 n2 n2)).set (a := ⟨g2, 0, none⟩) (fun h x hx => (ho h x hx).2.1) (.bool false)).set (a := ⟨g2, 1, none⟩) (fun h x hx => (ho h x hx).2.1) (.slice p4 n4 n4)).drew
  have hbl := ((((hV.bl.setCell (p := ⟨g1, 0, none⟩) (show w.heap.size ≤ g1 by omega) (.bool false)).setCell (p := ⟨g1, 1, none⟩) (show w.heap.size ≤ g1 by omega) (.slice p2 n2 n2)).setCell (p := ⟨g2, 0, none⟩) (show w.heap.size ≤ g2 by omega) (.bool false)).setCell (p := ⟨g2, 1, none⟩) (show w.heap.size ≤ g2 by omega) (.slice p4 n4 n4)).drew
  generalize ((((W3.setCell ⟨g1, 0, none⟩ (.bool false)).setCell ⟨g1, 1, none⟩ (.slice p2 n2 n2)).setCell ⟨g2, 0, none⟩ (.bool false)).setCell ⟨g2, 1, none⟩ (.slice p4 n4 n4)).drew = X at *
  refine ⟨⟨e1, e2, e3, r2, r4, hne, l1, l2, hV.o2, ho, hV.k2, by have := hV.k2; omega, by rw [gcd_step heq]; exact hV.g, hbl, hV.v2, hv4⟩, ?_⟩
  rw [e2.c1, rdd_rn r4]

set_option maxRecDepth 100000 in
set_option maxHeartbeats 16000000 in
theorem rGcd_V (V : Nat → Prop) (s t : Bool) (p q : Option Addr) (n m N : Nat) (ds es : List Int) (w : World) (hA : RN w s p n ds) (hB : RN w t q m es) (hn : n ≤ N) (hm : m ≤ N) (hN : N ≤ 1000) (hVp : 0 < n → ∀ x, p = some x → V x.block) (hVq : 0 < m → ∀ x, q = some x → V x.block) (hVn : ∀ b, w.heap.size ≤ b → V b) :
    Calls Tryz.prog 58 #[.agg #[.bool s, .slice p n n], .agg #[.bool t, .slice q m m]] w (RgPostV V (Int.gcd (vd ds) (vd es)) N w) := by
  have HVV : Hid ((0 < n → ∀ x, p = some x → V x.block) ∧ (0 < m → ∀ x, q = some x → V x.block) ∧ (∀ b, w.heap.size ≤ b → V b)) := ⟨hVp, hVq, hVn⟩
  clear hVp hVq hVn
  obtain ⟨g, hg⟩ : ∃ g, g = Int.gcd (vd ds) (vd es) := ⟨_, rfl⟩
  have HG : Hid (g = Int.gcd (vd ds) (vd es)) := hg
  rw [← hg]
  clear hg
  go_enter Tryz.func58, Tryz.ntmps58
  go_upto_region 1 with fail
  have b1 : Bx (((w.alloc (.cells #[.bool s, .slice p n n] 38)).alloc (.cells #[.bool t, .slice q m m] 38)).alloc (.cells #[.bool false, .slice none 0 0] 38)) w.heap.size (.bool s) (.slice p n n) := ((Bx.new _ _ _ rfl).alloc _).alloc _
  have b2 : Bx (((w.alloc (.cells #[.bool s, .slice p n n] 38)).alloc (.cells #[.bool t, .slice q m m] 38)).alloc (.cells #[.bool false, .slice none 0 0] 38)) (w.heap.size + 1) (.bool t) (.slice q m m) := (Bx.new _ _ _ (World.size_alloc ..).symm).alloc _
  have b3 : Bx (((w.alloc (.cells #[.bool s, .slice p n n] 38)).alloc (.cells #[.bool t, .slice q m m] 38)).alloc (.cells #[.bool false, .slice none 0 0] 38)) (w.heap.size + 1 + 1) (.bool false) (.slice none 0 0) := Bx.new _ _ _ (by rw [World.size_alloc, World.size_alloc])
  have hbw : Below w.heap.size w (((w.alloc (.cells #[.bool s, .slice p n n] 38)).alloc (.cells #[.bool t, .slice q m m] 38)).alloc (.cells #[.bool false, .slice none 0 0] 38)) := bel_al (bel_al (bel_al (Below.refl _ _)))
  generalize (((w.alloc (.cells #[.bool s, .slice p n n] 38)).alloc (.cells #[.bool t, .slice q m m] 38)).alloc (.cells #[.bool false, .slice none 0 0] 38)) = wc at *
  have hA1 := hA.below hbw
  have hB1 := hB.below hbw
  have hpl := hA.lt
  have hql := hB.lt
  have k0 := b1.c0
  have k1 := b1.c1
  have k2 := b2.c0
  have k3 := b2.c1
  have hgr : w.heap.size + 1 + 1 < wc.heap.size := block_lt_of_cell b3.c0
  have hga : w.heap.size < wc.heap.size := by omega
  have hgb : w.heap.size + 1 < wc.heap.size := by omega
  have HO : Hid ((0 < n → ∀ x, p = some x → x.block < w.heap.size) ∧ (0 < m → ∀ x, q = some x → x.block < w.heap.size)) := ⟨hpl, hql⟩
  clear hpl hql
  go_cut [5, 6] (fun xv yv w3 => ∃ (g1 g2 : Nat), xv = .pointer (some ⟨g1, 0, none⟩) ∧ yv = .pointer (some ⟨g2, 0, none⟩) ∧ Gv w w3 g1 g2 p n ds q m es g N V)
  case first =>
    go_region_held3 (fun w' => w'.cell? ⟨w.heap.size, 0, none⟩ = some (.bool s) ∧ w'.cell? ⟨w.heap.size, 1, none⟩ = some (.slice p n n) ∧ w'.cell? ⟨w.heap.size + 1, 0, none⟩ = some (.bool t) ∧ w'.cell? ⟨w.heap.size + 1, 1, none⟩ = some (.slice q m m)) (first | with_reducible exact keepc4 ⟨y0, y1, y2, y3⟩ (bel_al (bel_al (Below.refl _ _))) | with_reducible exact keepc4 ⟨y0, y1, y2, y3⟩ (bel_al (Below.refl _ _)) | with_reducible exact ⟨y0, y1, y2, y3⟩ | with_reducible exact s4set (keepc4 ⟨y0, y1, y2, y3⟩ (bel_al (Below.refl _ _))) (by omega) (by omega) | with_reducible exact s4set ⟨y0, y1, y2, y3⟩ (by omega) (by omega) | with_reducible exact s4set (s4set ⟨y0, y1, y2, y3⟩ (by omega) (by omega)) (by omega) (by omega) | with_reducible exact keepc4 ⟨q0, q1, q2, q3⟩ (bel_al (bel_al (Below.refl _ _))) | with_reducible exact keepc4 ⟨q0, q1, q2, q3⟩ (bel_al (Below.refl _ _)) | with_reducible exact ⟨q0, q1, q2, q3⟩ | with_reducible exact keepc4 ⟨k0, k1, k2, k3⟩ (Below.drew (Below.refl _ _)) | with_reducible exact keepc4 ⟨k0, k1, k2, k3⟩ (Below.drew (bel_al (Below.refl _ _))) | with_reducible exact keepc4 ⟨k0, k1, k2, k3⟩ (Below.drew (bel_al (bel_al (Below.refl _ _)))) | (simp [go_sem, *]; done))
      (first
        | (go_at_call_of 110 (Value.agg #[.bool s, .slice p n n]); refine (rAbs_rn (hA1.below (by first | exact (Below.refl _ _).drew | exact (bel_al (Below.refl _ _)).drew | exact (bel_al (bel_al (Below.refl _ _))).drew))).mono ?_; rintro e x1 ⟨rfl, hR1, hx1⟩; have hB1' := undrew hx1; have hW1 := comp (X2 := wc) (w2 := wc) (Below.refl _ _) (by (repeat apply bel_al); exact Below.refl _ _) hB1'; obtain ⟨hc1, hf1, hz1, -, -⟩ := brules hB1'; obtain ⟨o1, o2, o3, o4⟩ := bne hB1'; have q0 := cell_later hW1 k0; have q1 := cell_later hW1 k1; have q2 := cell_later hW1 k2; have q3 := cell_later hW1 k3; have r1 := Nat.lt_of_lt_of_le hga hW1.size; have r2 := Nat.lt_of_lt_of_le hgb hW1.size; have t1 := hW1.size; have t1b := hB1'.size)
        | (go_at_call_of 110 (Value.agg #[.bool t, .slice q m m]); refine (rAbs_rn (hB1.below (by (repeat apply bel_al); exact hW1))).mono ?_; rintro e x2 ⟨rfl, hR2, hx2⟩; have hb12 := comp hB1' (by (repeat apply bel_al); exact Below.refl _ _) hx2; have hW2 := comp hW1 (by (repeat apply bel_al); exact Below.refl _ _) hx2; have hR12 := hR1.below (comp (X2 := x1) (w2 := x1) (Below.refl _ _) (by (repeat apply bel_al); exact Below.refl _ _) hx2); obtain ⟨hc3, hf3, hz3, -, -⟩ := brules hx2; obtain ⟨hc4, hf4, hz4, -, -⟩ := brules hb12; obtain ⟨m1, m2, m3, m4⟩ := bne hx2; obtain ⟨m5, m6, m7, m8⟩ := bne hb12; have y0 := cell_later hW2 k0; have y1 := cell_later hW2 k1; have y2 := cell_later hW2 k2; have y3 := cell_later hW2 k3; have r3 := Nat.lt_of_lt_of_le hga hW2.size; have r4 := Nat.lt_of_lt_of_le hgb hW2.size; have b32 := b3.later hW2; have t2 := hW2.size; have t2b := hx2.size))
    all_goals (go_wp2_with fail; go_meet)
    all_goals
      refine ⟨_, _, rfl, rfl, ?_, ?_, ?_, ?_, ?_, ?_, ?_, ?_, fun h0 x hx => ?_, fun h0 x hx => ?_, hn, hm, HG.out.symm, ?_, HVV.out.1, HVV.out.2.1⟩
      · (repeat (first | exact Bx_new (by simp; done) | refine Bx_set (u := .bool false) (v := .slice none 0 0) ?_ | refine Bx_oth ?_ (by have h1 := t1b; have h2 := t2b; have h3 := t1; have h4 := t2; (try simp only [World.size_alloc] at h1 h2); (try simp only [World.size_alloc]); (try dsimp only); omega) | apply Bx_al)); all_goals exact ⟨by simp [go_sem, *], by simp [go_sem, *], by simp [go_sem, *], by simp [go_sem, *]⟩
      · (repeat (first | exact Bx_new (by simp; done) | refine Bx_set (u := .bool false) (v := .slice none 0 0) ?_ | refine Bx_oth ?_ (by have h1 := t1b; have h2 := t2b; have h3 := t1; have h4 := t2; (try simp only [World.size_alloc] at h1 h2); (try simp only [World.size_alloc]); (try dsimp only); omega) | apply Bx_al)); all_goals exact ⟨by simp [go_sem, *], by simp [go_sem, *], by simp [go_sem, *], by simp [go_sem, *]⟩
      · (repeat (first | exact b32 | apply Bx_al | refine Bx_oth ?_ (by have h1 := t1b; have h2 := t2b; have h3 := t1; have h4 := t2; (try simp only [World.size_alloc] at h1 h2); (try simp only [World.size_alloc]); (try dsimp only); omega)))
      · (repeat (first | exact hR12 | apply RN_al | refine RN_st2 HO.out.1 (by have h1 := t1b; have h2 := t2b; have h3 := t1; have h4 := t2; (try simp only [World.size_alloc] at h1 h2); (try simp only [World.size_alloc]); (try dsimp only); omega) ?_))
      · (repeat (first | exact hR2 | apply RN_al | refine RN_st2 HO.out.2 (by have h1 := t1b; have h2 := t2b; have h3 := t1; have h4 := t2; (try simp only [World.size_alloc] at h1 h2); (try simp only [World.size_alloc]); (try dsimp only); omega) ?_))
      · (have h1 := t1b; have h2 := t2b; have h3 := t1; have h4 := t2; (try simp only [World.size_alloc] at h1 h2); (try simp only [World.size_alloc]); (try dsimp only); omega)
      · (have h1 := t1b; have h2 := t2b; have h3 := t1; have h4 := t2; (try simp only [World.size_alloc] at h1 h2); (try simp only [World.size_alloc]); (try dsimp only); omega)
      · (have h1 := t1b; have h2 := t2b; have h3 := t1; have h4 := t2; (try simp only [World.size_alloc] at h1 h2); (try simp only [World.size_alloc]); (try dsimp only); omega)
      · (have hh := HO.out.1 h0 x hx; have h1 := t1b; have h2 := t2b; have h3 := t1; have h4 := t2; (try simp only [World.size_alloc] at h1 h2); (try simp only [World.size_alloc]); (try dsimp only); omega)
      · (have hh := HO.out.2 h0 x hx; have h1 := t1b; have h2 := t2b; have h3 := t1; have h4 := t2; (try simp only [World.size_alloc] at h1 h2); (try simp only [World.size_alloc]); (try dsimp only); omega)
      · refine hbw.trans (Below.mono (B := wc.heap.size) ?_ (by omega)); (repeat (first | exact hW2 | refine Bel_al ?_ (Nat.le_refl _) | refine Bel_st ?_ (by have h1 := t1b; have h2 := t2b; have h3 := t1; have h4 := t2; (try simp only [World.size_alloc] at h1 h2); (try simp only [World.size_alloc]); (try dsimp only); omega)))
  case rest =>
    obtain ⟨g1, g2, rfl, rfl, hG⟩ := hcut
    clear k0 k1 k2 k3 b1 b2 b3 hA1 hB1 hga hgb hgr
    have HGV : Hid (Gv w wc g1 g2 p n ds q m es g N V) := hG
    clear hG
    go_wp2
    go_loopw [] (fun wr => ∃ (p1 : Option Addr) (n1 : Nat) (d1 : List Int) (p2 : Option Addr) (n2 : Nat) (d2 : List Int), Hid (Gv w wr g1 g2 p1 n1 d1 p2 n2 d2 g N V)) (fun wr => rdd wr (wr.cell? ⟨g2, 1, none⟩))
    case atStart => exact ⟨p, n, ds, q, m, es, HGV.out⟩
    case round =>
      obtain ⟨p1, n1, d1, p2, n2, d2, H⟩ := hrel
      have hV := H.out
      have k2 := hV.b2.c0
      have k3 := hV.b2.c1
      have hsg := rSign_any false p2 n2 n2 d2 wr hV.r2.u hV.r2.nrm
      by_cases h0 : n2 = 0
      · subst h0
        have hz : vd d2 = 0 := (tlen_zero_iff16 hV.r2.u).1 hV.r2.nrm
        rw [rval, if_neg (by decide), hz, show isgn 0 = 0 from rfl] at hsg
        clear hV hz
        go_wp2_with fail
        refine hsg.mono ?_
        clear hsg
        rintro e w1 ⟨rfl, hb1⟩
        have hV1 := H.out.later hb1
        have j0 := hV1.b1.c0
        have j1 := hV1.b1.c1
        have z0 := hV1.br.c0
        have z1 := hV1.br.c1
        have f0 := hV1.br.f0
        have f1 := hV1.br.f1
        have HV1 : Hid (Gv w w1 g1 g2 p1 n1 d1 p2 0 d2 g N V) := hV1
        clear k2 k3 hV1
        go_wp2
        have hV := HV1.out
        refine bodyPost_ret (v := .agg #[.bool false, .slice p1 n1 n1]) (by simp [results, Tryz.results58, go_sem, z0, z1]) rfl ⟨p1, n1, d1, rfl, ?_, ?_, hV.k1, ?_, hV.v1⟩
        · exact (hV.r1.set (a := ⟨w.heap.size + 1 + 1, 0, none⟩) (fun h x hx => (hV.o1 h x hx).2.2) _).set (a := ⟨w.heap.size + 1 + 1, 1, none⟩) (fun h x hx => (hV.o1 h x hx).2.2) _
        · have h1 := hV.g
          rw [(tlen_zero_iff16 hV.r2.u).1 hV.r2.nrm, Int.gcd_zero_right] at h1
          have := vd_nonneg hV.r1.u
          rw [rval, if_neg (by decide)]
          omega
        · exact (hV.bl.setCell (p := ⟨w.heap.size + 1 + 1, 0, none⟩) (by simp; omega) _).setCell (p := ⟨w.heap.size + 1 + 1, 1, none⟩) (by simp; omega) _
      · have hz : vd d2 ≠ 0 := fun e => h0 (by rw [← hV.r2.nrm]; exact (tlen_zero_iff16 hV.r2.u).2 e)
        have hs1 : isgn (rval false d2) = 1 := by
          have := vd_nonneg hV.r2.u
          rw [rval, if_neg (by decide), isgn, if_neg hz, if_neg (by omega)]
        rw [hs1] at hsg
        have HM : Hid (rdd wr (wr.cell? ⟨g2, 1, none⟩) = (vd d2).toNat) := by
          show _ = _
          rw [hV.b2.c1]; exact rdd_rn hV.r2
        clear hV hz hs1
        go_wp2_with fail
        refine hsg.mono ?_
        clear hsg
        rintro e w1 ⟨rfl, hb1⟩
        have hV1 := H.out.later hb1
        have i0 := hV1.b1.c0
        have i1 := hV1.b1.c1
        have i2 := hV1.b2.c0
        have i3 := hV1.b2.c1
        have hqq := rQuo_pos p1 p2 n1 n2 d1 d2 w1 hV1.r1 hV1.r2 (by have := hV1.k1; omega) (by have := hV1.k2; omega) (by omega)
        have HV1 : Hid (Gv w w1 g1 g2 p1 n1 d1 p2 n2 d2 g N V) := hV1
        clear k2 k3 hV1 hb1 H
        go_wp2_with fail
        refine hqq.mono ?_
        clear hqq
        rintro e w2 ⟨p3, n3, d3, p4, n4, d4, rfl, hR3, hR4, heq, hlt, hn4, hb2, hloc⟩
        have hal : Below w2.heap.size w2 ((w2.alloc (.cells #[.bool false, .slice p3 n3 n3] 38)).alloc (.cells #[.bool false, .slice p4 n4 n4] 38)) := bel_al (bel_al (Below.refl _ _))
        have br : Bx ((w2.alloc (.cells #[.bool false, .slice p3 n3 n3] 38)).alloc (.cells #[.bool false, .slice p4 n4 n4] 38)) (w2.heap.size + 1) (.bool false) (.slice p4 n4 n4) := Bx.new _ _ _ (World.size_alloc ..).symm
        have hV3 := (HV1.out.later hb2).later hal
        have hR4' := hR4.below hal
        have hg1 : g1 < w1.heap.size := block_lt_of_cell i0
        have hg2 : g2 < w1.heap.size := block_lt_of_cell i2
        have hs2 := hb2.size
        have HQ : Hid (vd d3 * vd d2 + vd d4 = vd d1 ∧ vd d4 < vd d2 ∧ (0 < n4 → (p4 = p1 ∧ 0 < n1) ∨ Go.Proofs.YtkbgeggflhfleaaGreatDoor.From w1.heap.size p4) ∧ g1 < w1.heap.size ∧ g2 < w1.heap.size ∧ w.heap.size + 1 + 1 < w1.heap.size) := ⟨heq, hlt, hloc, hg1, hg2, by have := HV1.out.l1; omega⟩
        have HV3 : Hid (Gv w ((w2.alloc (.cells #[.bool false, .slice p3 n3 n3] 38)).alloc (.cells #[.bool false, .slice p4 n4 n4] 38)) g1 g2 p1 n1 d1 p2 n2 d2 g N V ∧ RN ((w2.alloc (.cells #[.bool false, .slice p3 n3 n3] 38)).alloc (.cells #[.bool false, .slice p4 n4 n4] 38)) false p4 n4 d4) := ⟨hV3, hR4'⟩
        have j0 := hV3.b1.c0
        have j1 := hV3.b1.c1
        have j2 := hV3.b2.c0
        have j3 := hV3.b2.c1
        have f0 := hV3.b1.f0
        have f1 := hV3.b1.f1
        have f2 := hV3.b2.f0
        have f3 := hV3.b2.f1
        have j4 := br.c0
        have j5 := br.c1
        have hne := hV3.ne
        have hne1 : w2.heap.size + 1 ≠ g1 := by omega
        have hne2 : w2.heap.size + 1 ≠ g2 := by omega
        clear i0 i1 i2 i3 HV1 heq hlt hloc hal hV3 hR3 hR4 hR4' hb2 hs2 hg1 hg2
        go_wp2_with fail
        generalize ((w2.alloc (.cells #[.bool false, .slice p3 n3 n3] 38)).alloc (.cells #[.bool false, .slice p4 n4 n4] 38)) = W3 at *
        generalize w2.heap.size + 1 = gr at *
        go_region
        all_goals go_wp2
        obtain ⟨hV, hR⟩ := HV3.out
        obtain ⟨heq, hlt, hloc, hg1, hg2, hgr⟩ := HQ.out
        have ho : 0 < n4 → ∀ x, p4 = some x → x.block ≠ g1 ∧ x.block ≠ g2 ∧ x.block ≠ w.heap.size + 1 + 1 := fun h x hx => by
          rcases hloc h with ⟨h1, h2⟩ | h1
          · rw [h1] at hx; exact hV.o1 h2 x hx
          · have := h1 x hx; exact ⟨by omega, by omega, by omega⟩
        have hv4 : 0 < n4 → ∀ x, p4 = some x → V x.block := fun h x hx => by
          rcases hloc h with ⟨h1, h2⟩ | h1
          · rw [h1] at hx; exact hV.v1 h2 x hx
          · have := h1 x hx; exact HVV.out.2.2 _ (by omega)
        obtain ⟨e1, e2⟩ := hV.step hR ho hn4 heq hv4
        have hd := vd_nonneg hR.u
        refine ⟨⟨p2, n2, d2, p4, n4, d4, e1⟩, ?_⟩
        rw [e2, HM.out]
        omega
theorem rGcd_any (s t : Bool) (p q : Option Addr) (n m N : Nat) (ds es : List Int) (w : World) (hA : RN w s p n ds) (hB : RN w t q m es) (hn : n ≤ N) (hm : m ≤ N) (hN : N ≤ 1000) :
    Calls Tryz.prog 58 #[.agg #[.bool s, .slice p n n], .agg #[.bool t, .slice q m m]] w (RgPost (Int.gcd (vd ds) (vd es)) N w) := by
  refine (rGcd_V (fun _ => True) s t p q n m N ds es w hA hB hn hm hN (fun _ _ _ => trivial) (fun _ _ _ => trivial) (fun _ _ => trivial)).mono ?_
  rintro e w' ⟨p', n', ds', h1, h2, h3, h4, h5, -⟩
  exact ⟨p', n', ds', h1, h2, h3, h4, h5⟩
end Go.Proofs.YtkbgeggflhfleaaGreatDoor
