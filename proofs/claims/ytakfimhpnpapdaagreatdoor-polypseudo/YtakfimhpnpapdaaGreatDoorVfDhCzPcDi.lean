/-
  ashlarref3.Eq.
-/
import Derived.Test.YtakfimhpnpapdaaGreatDoorVsVtVdRs
import Derived.Deep.DeepFit
import Derived.Test.YtakfimhpnpapdaaGreatDoorRhCqRrRwVa
import Derived.Test.YtakfimhpnpapdaaGreatDoorCyViVuPrPs
import Derived.Test.YtakfimhpnpapdaaGreatDoorVgRo
import Derived.Test.YtakfimhpnpapdaaGreatDoorRm
namespace Go.Proofs.YtakfimhpnpapdaaGreatDoor
open Go.RowKit
set_option linter.unusedVariables false
set_option linter.unusedSimpArgs false

theorem rCmp_e {w : World} {N M : Nat} {x y : Int} {e f : Ent} (h : RE w N x e) (k : RE w M y f) (hN : N ≤ 1000) (hM : M ≤ 1000) :
    Calls Tryz.prog 44 #[.agg #[.bool e.s, .slice e.p e.n e.c], .agg #[.bool f.s, .slice f.p f.n f.c]] w fun r w' => r = .returned (.int .i64 (icmp x y)) ∧ Below w.heap.size w w' := by
  obtain ⟨⟨xs, h1, rfl, h3⟩, h4⟩ := h
  obtain ⟨⟨ys, k1, rfl, k3⟩, k4⟩ := k
  rw [h4, k4]
  exact rCmp_rn h1 k1
set_option maxHeartbeats 2000000 in
set_option maxRecDepth 100000 in
/-- ashlarref3.Eq. -/
theorem rpEq_any {w : World} {N M : Nat} {p q : Option Addr} {n nc m mc : Nat} {es fs : List Ent} {zs ys : List Int} (h : PR w N p n nc es zs) (k : PR w M q m mc fs ys) (hN : N ≤ 1000) (hM : M ≤ 1000) (hn : n ≤ 1000000) (hm : m ≤ 1000000) :
    Calls Tryz.prog 19 #[.slice p n nc, .slice q m mc] w fun r w' => r = .returned (.bool (decide (zs = ys))) ∧ Below w.heap.size w w' := by
  have hel := h.el
  have hzl := h.zl
  have hfl := k.el
  have hyl := k.zl
  by_cases hnm : n = m
  · subst hnm
    go_enter Tryz.func19, Tryz.ntmps19
    go_wp2_with fail
    go_loopw [5] (fun iv wr => ∃ j : Nat, j ≤ n ∧ iv = .int .i64 j ∧ Hid ((∀ t, t < j → gx zs t = gx ys t) ∧ Below w.heap.size w wr)) (fun iv _ => n - (intOf iv).toNat)
    case atStart => exact ⟨0, Nat.zero_le _, by go_num, fun t ht => by omega, Below.refl _ _⟩
    case round =>
      obtain ⟨j, hj, rfl, H⟩ := hrel
      rcases Nat.lt_or_ge j n with hlt | hge
      · have hh := h.below H.out.2
        have hk := k.below H.out.2
        have hv := hh.ev j hlt
        have hw := hk.ev j hlt
        obtain ⟨b, o, hp, hc⟩ := hh.pl (by omega)
        obtain ⟨c, r, hq, hd⟩ := hk.pl (by omega)
        subst hp hq
        obtain ⟨c0, c1⟩ := hc j (by omega)
        obtain ⟨d0, d1⟩ := hd j (by omega)
        have hcm := rCmp_e hv.drew hw.drew hN hM
        clear hc hd hh hk
        go_wp2_with fail
        go_region_held3 (fun w' => w'.cell? ⟨b, o + j * 2, none⟩ = some (.bool (ge es j).s) ∧ w'.cell? ⟨b, o + j * 2 + 1, none⟩ = some (.slice (ge es j).p (ge es j).n (ge es j).c) ∧ w'.cell? ⟨c, r + j * 2, none⟩ = some (.bool (ge fs j).s) ∧ w'.cell? ⟨c, r + j * 2 + 1, none⟩ = some (.slice (ge fs j).p (ge fs j).n (ge fs j).c)) (first | with_reducible exact ⟨c0, c1, d0, d1⟩ | with_reducible exact keepc4 ⟨c0, c1, d0, d1⟩ hV1 | (simp [go_sem, *]; done))
          (first
            | (go_at_call 44; go_fit hcm; rintro e w1 ⟨rfl, hb1⟩; have hV1 := undrew hb1))
        have hB := bnext' H.out.2 hV1
        clear c0 c1 d0 d1 hv hw hcm
        by_cases hxy : gx zs j = gx ys j
        · have e0 : icmp (gx zs j) (gx ys j) = 0 := by rw [hxy]; unfold icmp; simp
          have HX : Hid (gx zs j = gx ys j) := hxy
          clear hxy
          generalize icmp (gx zs j) (gx ys j) = cv at *
          subst e0
          go_wp2
          go_roundw
          case rel => exact ⟨j + 1, by omega, by go_num, fun t ht => by
            rcases Nat.lt_or_ge t j with h1 | h1
            · exact H.out.1 t h1
            · obtain rfl : t = j := by omega
              exact HX.out, hB⟩
          case measure => simp [intOf]; omega
        · have e0 : ¬ icmp (gx zs j) (gx ys j) = 0 := by unfold icmp; split <;> (try split) <;> omega
          have HD : Hid (decide (zs = ys) = false) := decide_eq_false (fun he => hxy (by rw [he]))
          clear hxy
          generalize icmp (gx zs j) (gx ys j) = cv at *
          have g1 : (cv == 0) = false := by rw [beq_eq_false_iff_ne]; exact e0
          have g2 : (cv != 0) = true := by show (!(cv == 0)) = true; rw [g1]; rfl
          go_wp2
          go_ret
          exact ⟨by rw [HD.out]; rfl, hB⟩
      · obtain rfl : j = n := by omega
        have HD : Hid (decide (zs = ys) = true) := by
          refine decide_eq_true (List.ext_getElem (by omega) fun i h1 h2 => ?_)
          have := H.out.1 i (by omega)
          rwa [gx_mem _ _ h1, gx_mem _ _ h2] at this
        go_wp2
        go_ret
        exact ⟨by rw [HD.out]; rfl, H.out.2⟩
  · have hne : ¬ (n : Int) = (m : Int) := by omega
    have HD : Hid (decide (zs = ys) = false) := decide_eq_false (fun he => hnm (by rw [← hzl, ← hyl, he]))
    have g1 : (((n : Int) == (m : Int))) = false := by rw [beq_eq_false_iff_ne]; exact hne
    have g2 : ((n : Int) != (m : Int)) = true := by show (!((n : Int) == (m : Int))) = true; rw [g1]; rfl
    go_enter Tryz.func19, Tryz.ntmps19
    go_wp2
    go_ret
    exact ⟨by rw [HD.out]; rfl, Below.refl _ _⟩
end Go.Proofs.YtakfimhpnpapdaaGreatDoor
/-
  ashlarref3.Deg.
-/
namespace Go.Proofs.YtakfimhpnpapdaaGreatDoor
open Go.RowKit
set_option linter.unusedVariables false
set_option linter.unusedSimpArgs false

set_option maxHeartbeats 2000000 in
set_option maxRecDepth 100000 in
/-- ashlarref3.Deg. -/
theorem rpDeg_any (p : Option Addr) (n nc : Nat) (w : World) (hn : n ≤ 1000000) :
    Calls Tryz.prog 15 #[.slice p n nc] w fun r w' => r = .returned (.int .i64 ((n : Int) - 1)) ∧ Below w.heap.size w w' := by
  have v1 : IntKind.i64.wrap ((n : Int) - 1) = (n : Int) - 1 := by rw [IntKind.wrap_i64]; omega
  go_enter Tryz.func15, Tryz.ntmps15
  go_wp2
  go_ret
  exact ⟨rfl, Below.refl _ _⟩
end Go.Proofs.YtakfimhpnpapdaaGreatDoor
/-
  Two numbers behind Cut, as the laws hold them.
-/
namespace Go.Proofs.YtakfimhpnpapdaaGreatDoor
open Go.RowKit
set_option linter.unusedVariables false
set_option linter.unusedSimpArgs false

/-- Two numbers in variables of their own, behind Cut. -/
structure C2 (w wc : World) (sa sb : Bool) (pa pb : Option Addr) (na nac nb nbc : Nat) (xa xb : List Int) : Prop where
  a : Vr wc w.heap.size sa pa na nac (w.heap.size + 1 + 1) xa
  b : Vr wc (w.heap.size + 1) sb pb nb nbc (w.heap.size + 1 + 1) xb
  la : na ≤ 24
  lb : nb ≤ 24
  bel : Below w.heap.size w wc
theorem C2.later {w wc w' : World} {sa sb : Bool} {pa pb : Option Addr} {na nac nb nbc : Nat} {xa xb : List Int} (h : C2 w wc sa sb pa pb na nac nb nbc xa xb) (hb : Below wc.heap.size wc w') : C2 w w' sa sb pa pb na nac nb nbc xa xb :=
  ⟨h.a.later hb, h.b.later hb, h.la, h.lb, bnext h.bel (Nat.le_refl _) hb⟩


theorem keepc8 {w1 w2 : World} {a b c d e f g h : Addr} {u v x y z t r s : Value} (k : w1.cell? a = some u ∧ w1.cell? b = some v ∧ w1.cell? c = some x ∧ w1.cell? d = some y ∧ w1.cell? e = some z ∧ w1.cell? f = some t ∧ w1.cell? g = some r ∧ w1.cell? h = some s) (hb : Below w1.heap.size w1 w2) :
    w2.cell? a = some u ∧ w2.cell? b = some v ∧ w2.cell? c = some x ∧ w2.cell? d = some y ∧ w2.cell? e = some z ∧ w2.cell? f = some t ∧ w2.cell? g = some r ∧ w2.cell? h = some s :=
  ⟨cell_later hb k.1, cell_later hb k.2.1, cell_later hb k.2.2.1, cell_later hb k.2.2.2.1, cell_later hb k.2.2.2.2.1, cell_later hb k.2.2.2.2.2.1, cell_later hb k.2.2.2.2.2.2.1, cell_later hb k.2.2.2.2.2.2.2⟩
theorem unfr {W : World} {p : Option Addr} (h : Go.Proofs.YtakfimhpnpapdaaGreatDoor.From W.drew.heap.size p) : Go.Proofs.YtakfimhpnpapdaaGreatDoor.From W.heap.size p := h
theorem s4set {w : World} {b c g : Nat} {u v x y r s : Value} (h : w.cell? ⟨b, 0, none⟩ = some u ∧ w.cell? ⟨b, 1, none⟩ = some v ∧ w.cell? ⟨c, 0, none⟩ = some x ∧ w.cell? ⟨c, 1, none⟩ = some y) (h1 : b ≠ g) (h2 : c ≠ g) :
    ((w.setCell ⟨g, 0, none⟩ r).setCell ⟨g, 1, none⟩ s).cell? ⟨b, 0, none⟩ = some u ∧ ((w.setCell ⟨g, 0, none⟩ r).setCell ⟨g, 1, none⟩ s).cell? ⟨b, 1, none⟩ = some v ∧ ((w.setCell ⟨g, 0, none⟩ r).setCell ⟨g, 1, none⟩ s).cell? ⟨c, 0, none⟩ = some x ∧ ((w.setCell ⟨g, 0, none⟩ r).setCell ⟨g, 1, none⟩ s).cell? ⟨c, 1, none⟩ = some y := by
  obtain ⟨a1, a2, a3, a4⟩ := h
  refine ⟨?_, ?_, ?_, ?_⟩
  · rw [World.cell?_of_block (heap_setCell_other _ _ _ _ h1), World.cell?_of_block (heap_setCell_other _ _ _ _ h1)]; exact a1
  · rw [World.cell?_of_block (heap_setCell_other _ _ _ _ h1), World.cell?_of_block (heap_setCell_other _ _ _ _ h1)]; exact a2
  · rw [World.cell?_of_block (heap_setCell_other _ _ _ _ h2), World.cell?_of_block (heap_setCell_other _ _ _ _ h2)]; exact a3
  · rw [World.cell?_of_block (heap_setCell_other _ _ _ _ h2), World.cell?_of_block (heap_setCell_other _ _ _ _ h2)]; exact a4
/-- A reference number in a variable of its own, with its value. -/
structure Vx (w : World) (g : Nat) (s : Bool) (p : Option Addr) (n : Nat) (ds : List Int) (z : Int) : Prop where
  b : Bx w g (.bool s) (.slice p n n)
  r : RN w s p n ds
  v : rval s ds = z
  l : n ≤ 48
theorem Vx.later {w w' : World} {g : Nat} {s : Bool} {p : Option Addr} {n : Nat} {ds : List Int} {z : Int} (h : Vx w g s p n ds z) (hb : Below w.heap.size w w') : Vx w' g s p n ds z := ⟨h.b.later hb, h.r.below hb, h.v, h.l⟩
end Go.Proofs.YtakfimhpnpapdaaGreatDoor
/-
  ashlarref1.Power.
-/
namespace Go.Proofs.YtakfimhpnpapdaaGreatDoor
open Go.RowKit
set_option linter.unusedVariables false
set_option linter.unusedSimpArgs false

/-- What Power's variables hold. -/
structure Pv (w wr : World) (g : Nat) (s : Bool) (p : Option Addr) (n : Nat) (ds : List Int) (s1 : Bool) (p1 : Option Addr) (n1 : Nat) (d1 : List Int) : Prop where
  ba : Bx wr w.heap.size (.bool s) (.slice p n n)
  br : Bx wr (w.heap.size + 1) (.bool false) (.slice none 0 0)
  bp : Bx wr g (.bool s1) (.slice p1 n1 n1)
  ra : RN wr s p n ds
  r1 : RN wr s1 p1 n1 d1
  hg : w.heap.size + 2 ≤ g
  f1 : Go.Proofs.YtakfimhpnpapdaaGreatDoor.From (w.heap.size + 2) p1
  bel : Below w.heap.size w wr
theorem Pv.later {w wr w' : World} {g : Nat} {s : Bool} {p : Option Addr} {n : Nat} {ds : List Int} {s1 : Bool} {p1 : Option Addr} {n1 : Nat} {d1 : List Int} (h : Pv w wr g s p n ds s1 p1 n1 d1) (hb : Below wr.heap.size wr w') : Pv w w' g s p n ds s1 p1 n1 d1 :=
  ⟨h.ba.later hb, h.br.later hb, h.bp.later hb, h.ra.below hb, h.r1.below hb, h.hg, h.f1, h.bel.trans (hb.mono h.bel.size)⟩
/-- p = what is answered. -/
theorem Pv.put {w wr w' : World} {g : Nat} {s : Bool} {p : Option Addr} {n : Nat} {ds : List Int} {s1 : Bool} {p1 : Option Addr} {n1 : Nat} {d1 : List Int} {s2 : Bool} {p2 : Option Addr} {n2 : Nat} {d2 : List Int}
    (h : Pv w wr g s p n ds s1 p1 n1 d1) (hb : Below wr.heap.size wr w') (hp : 0 < n → ∀ x, p = some x → x.block < w.heap.size) (hr : RN w' s2 p2 n2 d2) (hf : Go.Proofs.YtakfimhpnpapdaaGreatDoor.From wr.heap.size p2) :
    Pv w ((w'.setCell ⟨g, 0, none⟩ (.bool s2)).setCell ⟨g, 1, none⟩ (.slice p2 n2 n2)) g s p n ds s2 p2 n2 d2 := by
  have k := h.later hb
  have hgw : g < wr.heap.size := block_lt_of_cell h.bp.c0
  have hg := h.hg
  exact ⟨Bx_oth k.ba (by omega), Bx_oth k.br (by omega), Bx_set k.bp, RN_st2 hp (by show _ ≤ g; omega) (RN_st2 hp (by show _ ≤ g; omega) k.ra), RN_st3 hf (by show g < _; omega) (RN_st3 hf (by show g < _; omega) hr), hg, hf.mono (by have := h.bel.size; omega), bset2 k.bel (by omega) _ _⟩

set_option maxRecDepth 100000 in
set_option maxHeartbeats 2000000 in
/-- ashlarref1.Power. -/
theorem rPower_any (s : Bool) (p : Option Addr) (n k : Nat) (ds : List Int) (w : World) (hA : RN w s p n ds) (hn : n ≤ 48) (hk : k ≤ 20) :
    Calls Tryz.prog 17 #[.agg #[.bool s, .slice p n n], .int .i64 k] w (RAns 1000 (rval s ds ^ k) w) := by
  have hpl := hA.lt
  have b1 : Bx ((w.alloc (.cells #[.bool s, .slice p n n] 46)).alloc (.cells #[.bool false, .slice none 0 0] 46)) w.heap.size (.bool s) (.slice p n n) := (Bx.new _ _ _ rfl).alloc _
  have b2 : Bx ((w.alloc (.cells #[.bool s, .slice p n n] 46)).alloc (.cells #[.bool false, .slice none 0 0] 46)) (w.heap.size + 1) (.bool false) (.slice none 0 0) := Bx.new _ _ _ (by rw [World.size_alloc])
  have hbw : Below w.heap.size w ((w.alloc (.cells #[.bool s, .slice p n n] 46)).alloc (.cells #[.bool false, .slice none 0 0] 46)) := bel_al (bel_al (Below.refl _ _))
  have hsz : w.heap.size + 2 ≤ ((w.alloc (.cells #[.bool s, .slice p n n] 46)).alloc (.cells #[.bool false, .slice none 0 0] 46)).heap.size := by simp
  go_enter Tryz.func17, Tryz.ntmps17
  go_wp2_with fail
  generalize ((w.alloc (.cells #[.bool s, .slice p n n] 46)).alloc (.cells #[.bool false, .slice none 0 0] 46)) = wc at *
  have hA1 := hA.below hbw
  refine (rOf_any 1 _ (by decide) (by decide)).mono ?_
  rintro e w4 ⟨s4, p4, n4, d4, rfl, hR4, hv4, hn4, hF4, hb4⟩
  have HP : Hid (Pv w (w4.alloc (.cells #[.bool s4, .slice p4 n4 n4] 46)) w4.heap.size s p n ds s4 p4 n4 d4 ∧ rval s4 d4 = rval s ds ^ 0 ∧ n4 ≤ 4) :=
    ⟨⟨(b1.later hb4).alloc _, (b2.later hb4).alloc _, Bx.new _ _ _ rfl, (hA1.below hb4).alloc _, hR4.alloc _, Nat.le_trans hsz hb4.size, hF4.mono hsz, (bnext hbw (Nat.le_refl _) hb4).alloc (Nat.le_trans hbw.size hb4.size) _⟩, by rw [hv4, Int.pow_zero], hn4⟩
  have HO : Hid (0 < n → ∀ x, p = some x → x.block < w.heap.size) := hpl
  clear hv4 hR4 hF4 hb4 b1 b2 hA1 hbw hpl hsz hn4
  go_wp2
  generalize w4.alloc (.cells #[.bool s4, .slice p4 n4 n4] 46) = wd at *
  generalize w4.heap.size = g at *
  go_loopw [6] (fun kv wr => ∃ (j : Nat) (s1 : Bool) (p1 : Option Addr) (n1 : Nat) (d1 : List Int), kv = .int .i64 j ∧ j ≤ k ∧ n1 ≤ 4 + 49 * j ∧ Hid (Pv w wr g s p n ds s1 p1 n1 d1 ∧ rval s1 d1 = rval s ds ^ j)) (fun kv _ => (k - intOf kv).toNat)
  case atStart => exact ⟨0, s4, p4, n4, d4, rfl, Nat.zero_le _, HP.out.2.2, HP.out.1, HP.out.2.1⟩
  case round =>
    obtain ⟨j, s1, p1, n1, d1, rfl, hj, hn1, H⟩ := hrel
    have c0 := H.out.1.bp.c0
    have c1 := H.out.1.bp.c1
    by_cases hjk : j = k
    · subst hjk
      have z0 := H.out.1.br.c0
      have z1 := H.out.1.br.c1
      have f0 := H.out.1.br.f0
      have f1 := H.out.1.br.f1
      go_wp2
      refine bodyPost_ret (v := .agg #[.bool s1, .slice p1 n1 n1]) (by simp [results, Tryz.results17, go_sem, c0, c1, z0, z1]) rfl ⟨_, _, _, d1, rfl, ?_, H.out.2, by omega, ?_, ?_⟩
      · exact RN_st3 H.out.1.f1 (Nat.lt_succ_self _) (RN_st3 H.out.1.f1 (Nat.lt_succ_self _) H.out.1.r1)
      · exact H.out.1.f1.mono (by omega)
      · exact bset2 H.out.1.bel (by omega) _ _
    · have hlt : j < k := by omega
      have a0 := H.out.1.ba.c0
      have a1 := H.out.1.ba.c1
      have hml := rMul_rn H.out.1.r1 H.out.1.ra (by omega) (by omega)
      go_wp2_with fail
      refine hml.mono ?_
      rintro e w1 ⟨s2, p2, n2, d2, rfl, hR2, hv2, hn2, hF2, hb2⟩
      have HQ : Hid (Pv w ((w1.setCell ⟨g, 0, none⟩ (.bool s2)).setCell ⟨g, 1, none⟩ (.slice p2 n2 n2)) g s p n ds s2 p2 n2 d2 ∧ rval s2 d2 = rval s ds ^ (j + 1)) :=
        ⟨H.out.1.put hb2 HO.out hR2 hF2, by rw [hv2, H.out.2, Int.pow_succ]⟩
      have hV1 := H.out.1.later hb2
      obtain ⟨x0, x1, x2, x3⟩ := hV1.bp
      clear c0 c1 a0 a1 hml hv2 hV1
      go_wp2
      refine ⟨⟨j + 1, s2, p2, n2, d2, by go_num, by omega, by omega, HQ.out⟩, by simp [intOf]; omega⟩
end Go.Proofs.YtakfimhpnpapdaaGreatDoor
/-
  ashlarref1.Power for entries.
-/
namespace Go.Proofs.YtakfimhpnpapdaaGreatDoor
open Go.RowKit
set_option linter.unusedVariables false
set_option linter.unusedSimpArgs false

theorem rd_one (w : World) (z : Int) (t : Nat) : Rd (w.alloc (.cells #[.int .i64 z] t)) (some ⟨w.heap.size, 0, none⟩) .i64 [z] := fun _ => ⟨w.heap.size, 0, rfl, fun j hj => by
  obtain rfl : j = 0 := by simp at hj; omega
  simp [go_sem, gx]⟩
theorem rd_two (w : World) (y z : Int) (t : Nat) : Rd (w.alloc (.cells #[.int .i64 y, .int .i64 z] t)) (some ⟨w.heap.size, 0, none⟩) .i64 [y, z] := fun _ => ⟨w.heap.size, 0, rfl, fun j hj => by
  match j, hj with
  | 0, _ => simp [go_sem, gx]
  | 1, _ => simp [go_sem, gx]⟩
theorem rPower_e {w : World} {N k : Nat} {z : Int} {e : Ent} (h : RE w N z e) (hN : N ≤ 48) (hk : k ≤ 20) :
    Calls Tryz.prog 17 #[.agg #[.bool e.s, .slice e.p e.n e.c], .int .i64 k] w fun r w' => ∃ u : Ent, r = .returned (.agg #[.bool u.s, .slice u.p u.n u.c]) ∧ RE w' 1000 (z ^ k) u ∧ Go.Proofs.YtakfimhpnpapdaaGreatDoor.From w.heap.size u.p ∧ Below w.heap.size w w' := by
  obtain ⟨⟨ds, h1, rfl, h3⟩, h4⟩ := h
  rw [h4]
  refine (rPower_any e.s e.p e.n k ds w h1 (by omega) hk).mono ?_
  rintro r w1 ⟨s, p, n, d, rfl, g1, g2, g3, g4, g5⟩
  exact ⟨⟨s, p, n, n⟩, rfl, ⟨⟨d, g1, g2, g3⟩, rfl⟩, g4, g5⟩
end Go.Proofs.YtakfimhpnpapdaaGreatDoor
